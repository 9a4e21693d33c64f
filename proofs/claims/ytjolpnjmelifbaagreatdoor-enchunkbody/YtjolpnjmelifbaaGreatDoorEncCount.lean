/- An encoder's counter; what Clone answers. -/
import Derived.Test.YtjolpnjmelifbaaGreatDoorEncSmall
import Derived.Lib.SliceRun
import Derived.WalkSpells
namespace Go.Proofs.YtjolpnjmelifbaaGreatDoor
open Go.ChangeShapes Go.WideShapes Go.ChangeAt Go.RowKit
open Oc Fl Bk Bd
set_option linter.unusedVariables false
set_option maxRecDepth 100000

/-- Of what lay before only the block R is written. -/
structure Sol10 (R : Nat) (A B : World) : Prop where
  os : B.os = A.os
  tape : B.tape = A.tape
  output : B.output = A.output
  size : A.heap.size ≤ B.heap.size
  block : ∀ k, k < A.heap.size → k ≠ R → B.heap[k]? = A.heap[k]?
theorem Sol10.refl (R : Nat) (A : World) : Sol10 R A A := ⟨rfl, rfl, rfl, Nat.le_refl _, fun _ _ _ => rfl⟩
theorem Sol10.trans {R : Nat} {A B C : World} (h : Sol10 R A B) (g : Sol10 R B C) : Sol10 R A C :=
  ⟨g.os.trans h.os, g.tape.trans h.tape, g.output.trans h.output, Nat.le_trans h.size g.size, fun k hk h0 => (g.block k (Nat.lt_of_lt_of_le hk h.size) h0).trans (h.block k hk h0)⟩
theorem Sol10.of_below {R : Nat} {A B : World} (h : Below A.heap.size A B) : Sol10 R A B := ⟨h.os, h.tape, h.output, h.size, fun k hk _ => h.block k hk⟩
theorem Sol10.below {R n : Nat} {w A B : World} (h : Sol10 R A B) (hb : Below n w A) (hR : n ≤ R) (hs : n ≤ A.heap.size) : Below n w B :=
  hb.trans ⟨h.os, h.tape, h.output, h.size, fun k hk => h.block k (by omega) (by omega)⟩
theorem Sol10.set (R i : Nat) (v : Value) (A : World) : Sol10 R A (A.setCell ⟨R, i, none⟩ v) := ⟨rfl, rfl, rfl, by simp [World.setCell], fun k _ h => Below.heap_setCell _ _ _ _ h⟩

theorem clone_eq (w : World) (a : Option Addr) (n c n' c' : Nat) : (binOp .eql 25 (.slice a n c) (.slice none n' c')).run Tryz.prog w = .ok (.bool a.isNone) w := Lib.run_eql_slice_nil w _ _ a n c n' c' Tryz.underlying25
set_option maxHeartbeats 1000000 in
theorem clone10_any (xs : List UInt8) (p : Option Addr) (c : Nat) (w : World) (hx : RD w (.slice p xs.length c) xs) (hl : xs.length ≤ 100000) :
    Calls Tryz.prog 112 #[.slice p xs.length c] w fun e w' => ∃ v, e = .returned v ∧ Own10 w w' v xs := by
  have qT := clone_eq
  cases p with
  | none =>
    obtain rfl : xs = [] := by
      obtain ⟨p', c', e, h1, h2, h3, h4⟩ := hx
      cases e
      exact List.eq_nil_of_length_eq_zero (by have := h3 rfl; omega)
    have HQ := Lib.hid (Own10.nil w)
    clear hx hl
    go_enter Tryz.func112, Tryz.ntmps112
    go_wp2_with fail
    go_ret
    exact ⟨_, rfl, HQ.out⟩
  | some ad =>
    have hown : (w.alloc (.cells #[] 5)).ownsRow w.heap.size 5 1 (.slice (some ⟨w.heap.size, 0, none⟩) 0 0) 0 (bv []) := World.ownsRow_made w #[] 0 (Nat.le_refl _) (by decide) rfl
    have b0 : Below w.heap.size w (w.alloc (.cells #[] 5)) := below_box _ _
    obtain ⟨v1, w1, r0, r1, r2⟩ := run_append_rd (w.alloc (.cells #[] 5)) 25 w.heap.size _ _ 0 [] xs hown (hx.below b0) (by simp; omega) (by simp)
    have b1 : Below w.heap.size w w1 := b0.grown r2 (by simp) (fun r e => by cases e; exact Nat.le_refl _)
    have HR := Lib.hid r0
    have HQ := Lib.hid (Own10.of_row (xs := xs) (by simpa using r1) b1)
    clear hx hl hown b0 r0 r1 r2 b1
    generalize xs.length = n at *
    go_enter Tryz.func112, Tryz.ntmps112
    go_wp2_with (at_builtin; refine wpList_append_run rfl (.tmp 5) (.tmp 6) 25 rfl _ _ _ _ rfl rfl HR.out ?_)
    go_ret
    exact ⟨_, rfl, HQ.out⟩

set_option maxHeartbeats 1000000 in
theorem add_any (K n d c : Nat) (p : Option Addr) (cs : Array Value) (ty : TypeId) (w : World) (hK : w.heap[K]? = some (.cells cs ty (0, 0))) (hc : cs[0]? = some (.int .i64 (d : Int))) (hb : d + n ≤ 9223372036854775807) :
    Calls Tryz.prog 111 #[.pointer (some ⟨K, 0, none⟩), .slice p n c] w fun e w' => e = .returned (.tuple #[]) ∧ w' = w.setCell ⟨K, 0, none⟩ (.int .i64 ((d + n : Nat) : Int)) := by
  have c0 : w.cell? ⟨K, 0, none⟩ = some (.int .i64 (d : Int)) := by simp [World.cell?, hK, hc]
  have f0 : w.frozen? ⟨K, 0, none⟩ = false := by simp [World.frozen?, hK]
  have hw : IntKind.i64.wrap ((d : Int) + (n : Int)) = ((d + n : Nat) : Int) := by rw [IntWalk.i64_in _ (by omega)]; omega
  clear hK hc
  generalize d + n = s at *
  go_enter Tryz.func111, Tryz.ntmps111
  go_wp2_with fail
  go_end0
  exact ⟨rfl, rfl⟩
set_option maxHeartbeats 1000000 in
theorem given10_any (K d : Nat) (cs : Array Value) (ty : TypeId) (w : World) (hK : w.heap[K]? = some (.cells cs ty (0, 0))) (hc : cs[0]? = some (.int .i64 (d : Int))) :
    Calls Tryz.prog 107 #[.pointer (some ⟨K, 0, none⟩)] w fun e w' => e = .returned (.int .i64 (d : Int)) ∧ w = w' := by
  have c0 : w.cell? ⟨K, 0, none⟩ = some (.int .i64 (d : Int)) := by simp [World.cell?, hK, hc]
  clear hK hc
  go_enter Tryz.func107, Tryz.ntmps107
  go_wp2_with fail
  go_ret
  exact ⟨rfl, rfl⟩

/-- The law's count of pieces: each one's bytes and one more. -/
def tot10 (L : List (List UInt8)) : Nat := L.flatten.length + L.length
theorem tot10_snoc {L : List (List UInt8)} {k : Nat} {x : List UInt8} (h : L[k]? = some x) : tot10 (L.take (k + 1)) = tot10 (L.take k) + x.length + 1 := by
  unfold tot10
  rw [flat_snoc h]
  have := (List.getElem?_eq_some_iff.1 h).1
  simp
  omega
theorem tot10_zero (L : List (List UInt8)) : tot10 (L.take 0) = 0 := by simp [tot10]
theorem tot10_mem {L : List (List UInt8)} {x : List UInt8} (h : x ∈ L) : x.length ≤ tot10 L := by have := flat_mem h; unfold tot10; omega

end Go.Proofs.YtjolpnjmelifbaaGreatDoor
