/- Bytes in memory of the call's own; only one block is written; what Clone answers. -/
import Derived.Test.YtnmjdpmfmbgoeaaRRRByteSlices
import Derived.Lib.SliceRun
import Derived.WalkSpells
namespace Go.Proofs.YtnmjdpmfmbgoeaaRRR
open Go.ChangeShapes Go.WideShapes Go.ChangeAt Go.RowKit
open Oc Fl Bk
set_option linter.unusedVariables false
set_option maxRecDepth 100000

/-- Bytes that a call answers: of its own memory. -/
structure Own10 (w w' : World) (v : Value) (xs : List UInt8) : Prop where
  rd : RD w' v xs
  below : Below w.heap.size w w'
  own : ∀ g, v.ownBlock = some g → w.heap.size ≤ g ∧ g < w'.heap.size
theorem Own10.nil (w : World) : Own10 w w (.slice none 0 0) [] := ⟨RD.nil w, Below.refl _ _, fun g h => by simp [Value.ownBlock] at h⟩
theorem Own10.after {w w1 w' : World} {v : Value} {xs : List UInt8} (h : Own10 w1 w' v xs) (hb : Below w.heap.size w w1) : Own10 w w' v xs :=
  ⟨h.rd, ahead hb h.below, fun g hg => ⟨Nat.le_trans hb.size (h.own g hg).1, (h.own g hg).2⟩⟩
theorem Own10.slice {w w' : World} {v : Value} {xs : List UInt8} (h : Own10 w w' v xs) : ∃ p c, v = .slice p xs.length c := by
  obtain ⟨p, c, rfl, _⟩ := h.rd
  exact ⟨p, c, rfl⟩
theorem Own10.of_row {w w' : World} {v : Value} {xs : List UInt8} {n : Nat} (h : w'.ownsRow w.heap.size 5 1 v n (bv xs)) (hb : Below w.heap.size w w') : Own10 w w' v xs := ⟨RD.of_own h, hb, fun g hg => h.lt g hg⟩

/-- Of what lay before only the block R is written. -/
structure Sol10 (R : Nat) (A B : World) : Prop where
  os : B.os = A.os
  tape : B.tape = A.tape
  output : B.output = A.output
  size : A.heap.size ≤ B.heap.size
  block : ∀ k, k < A.heap.size → k ≠ R → B.heap[k]? = A.heap[k]?
theorem Sol10.refl (R : Nat) (A : World) : Sol10 R A A := ⟨rfl, rfl, rfl, Nat.le_refl _, fun _ _ _ => rfl⟩
theorem Sol10.trans {R : Nat} {A B C : World} (h : Sol10 R A B) (g : Sol10 R B C) : Sol10 R A C :=
  ⟨g.os.trans h.os, g.tape.trans h.tape, g.output.trans h.output, Nat.le_trans h.size g.size, fun k hk h0 => (g.block k (Nat.lt_of_lt_of_le hk h.size) h0).trans (h.block k hk h0)⟩
theorem Sol10.of_below {R : Nat} {A B : World} (h : Below A.heap.size A B) : Sol10 R A B := ⟨h.os, h.tape, h.output, h.size, fun k hk _ => h.block k hk⟩
theorem Sol10.below {R n : Nat} {w A B : World} (h : Sol10 R A B) (hb : Below n w A) (hR : n ≤ R) (hs : n ≤ A.heap.size) : Below n w B :=
  hb.trans ⟨h.os, h.tape, h.output, h.size, fun k hk => h.block k (by omega) (by omega)⟩
theorem Sol10.set (R i : Nat) (v : Value) (A : World) : Sol10 R A (A.setCell ⟨R, i, none⟩ v) := ⟨rfl, rfl, rfl, by simp [World.setCell], fun k _ h => Below.heap_setCell _ _ _ _ h⟩

theorem clone_eq (w : World) (a : Option Addr) (n c n' c' : Nat) : (binOp .eql 34 (.slice a n c) (.slice none n' c')).run Try.prog w = .ok (.bool a.isNone) w := Lib.run_eql_slice_nil w _ _ a n c n' c' Try.underlying34
set_option maxHeartbeats 1000000 in
theorem clone10_any (xs : List UInt8) (p : Option Addr) (c : Nat) (w : World) (hx : RD w (.slice p xs.length c) xs) (hl : xs.length ≤ 100000) :
    Calls Try.prog 14 #[.slice p xs.length c] w fun e w' => ∃ v, e = .returned v ∧ Own10 w w' v xs := by
  have qT := clone_eq
  cases p with
  | none =>
    obtain rfl : xs = [] := by
      obtain ⟨p', c', e, h1, h2, h3, h4⟩ := hx
      cases e
      exact List.eq_nil_of_length_eq_zero (by have := h3 rfl; omega)
    have HQ := Lib.hid (Own10.nil w)
    clear hx hl
    go_enter Try.func14, Try.ntmps14
    go_wp2_with fail
    go_ret
    exact ⟨_, rfl, HQ.out⟩
  | some ad =>
    have hown : (w.alloc (.cells #[] 5)).ownsRow w.heap.size 5 1 (.slice (some ⟨w.heap.size, 0, none⟩) 0 0) 0 (bv []) := World.ownsRow_made w #[] 0 (Nat.le_refl _) (by decide) rfl
    have b0 : Below w.heap.size w (w.alloc (.cells #[] 5)) := below_box _ _
    obtain ⟨v1, w1, r0, r1, r2⟩ := run_append_rd (w.alloc (.cells #[] 5)) 34 w.heap.size _ _ 0 [] xs hown (hx.below b0) (by simp; omega) (by simp)
    have b1 : Below w.heap.size w w1 := b0.grown r2 (by simp) (fun r e => by cases e; exact Nat.le_refl _)
    have HR := Lib.hid r0
    have HQ := Lib.hid (Own10.of_row (xs := xs) (by simpa using r1) b1)
    clear hx hl hown b0 r0 r1 r2 b1
    generalize xs.length = n at *
    go_enter Try.func14, Try.ntmps14
    go_wp2_with (at_builtin; refine wpList_append_run rfl (.tmp 5) (.tmp 6) 34 rfl _ _ _ _ rfl rfl HR.out ?_)
    go_ret
    exact ⟨_, rfl, HQ.out⟩

end Go.Proofs.YtnmjdpmfmbgoeaaRRR
