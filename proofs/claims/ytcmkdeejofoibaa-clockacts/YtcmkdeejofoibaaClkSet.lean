/- What the document's Set answers. -/
import Derived.Test.YtcmkdeejofoibaaClkAdv
import Derived.Deep.QuietTactic
namespace Go.Proofs.Ytcmkdeejofoibaa
open Go.ChangeShapes Go.WideShapes Go.ChangeAt Go.RowKit
open Ck
set_option linter.unusedVariables false
set_option maxRecDepth 100000

namespace Ck
/-- As far as it has come. -/
def insK (t : Tm) : List Tm → List Tm
  | [] => []
  | x :: xs => if lt t x = true then t :: x :: xs else x :: insK t xs
def ptK (t : Tm) (l : List Tm) : Bool := l.any fun x => lt t x
theorem insK_no {t : Tm} {l : List Tm} (h : ptK t l = false) : insK t l = l := by
  induction l with
  | nil => rfl
  | cons x xs ih =>
    simp only [ptK, List.any_cons, Bool.or_eq_false_iff] at h
    unfold insK
    rw [h.1, if_neg (by decide), ih h.2]
theorem ins_is (t : Tm) (l : List Tm) : ins t l = if ptK t l = true then insK t l else insK t l ++ [t] := by
  induction l with
  | nil => rfl
  | cons x xs ih =>
    unfold ins insK
    have e : ptK t (x :: xs) = (lt t x || ptK t xs) := rfl
    rw [e]
    cases hl : lt t x with
    | true => simp
    | false =>
      simp only [Bool.false_eq_true, if_false, Bool.false_or, ih]
      cases ptK t xs <;> simp
theorem insK_snoc (t x : Tm) (l : List Tm) : insK t (l ++ [x]) = if ptK t l = true then insK t l ++ [x] else if lt t x = true then (insK t l ++ [t]) ++ [x] else insK t l ++ [x] := by
  induction l with
  | nil => cases hl : lt t x <;> simp [insK, ptK, hl]
  | cons y ys ih =>
    have e : ptK t (y :: ys) = (lt t y || ptK t ys) := rfl
    rw [e, List.cons_append]
    unfold insK
    cases hl : lt t y with
    | true => simp
    | false =>
      simp only [Bool.false_eq_true, if_false, Bool.false_or, ih]
      cases ptK t ys <;> cases lt t x <;> simp
theorem ptK_snoc (t x : Tm) (l : List Tm) : ptK t (l ++ [x]) = (ptK t l || lt t x) := by simp [ptK]
theorem insK_len (t : Tm) (l : List Tm) : (insK t l).length ≤ l.length + 1 := by
  induction l with
  | nil => exact Nat.zero_le _
  | cons x xs ih =>
    unfold insK
    split
    · simp
    · simp; omega
end Ck

/-- A clock into which one timer is put: what it is made of, the timer, what is gathered. -/
structure Ins15 (w W : World) (now : Int) (p : Option Addr) (n c : Nat) (t : Tm) (v : Value) (xs : List Tm) : Prop where
  below : Below w.heap.size w W
  box : W.heap[w.heap.size]? = some (.cells #[.int .i64 now, .slice p n c] 28 (0, 0))
  tm : W.heap[w.heap.size + 1]? = some (.cells #[.int .i64 t.id, .int .i64 t.due] 49 (0, 0))
  out : W.heap[w.heap.size + 2]? = some (.cells #[.int .i64 now, v] 28 (0, 0))
  own : W.ownsRow (w.heap.size + 3) 49 2 v xs.length (tmv xs)
abbrev obT (t : Tm) : Obj := .cells #[.int .i64 t.id, .int .i64 t.due] 49
theorem Ins15.made (w : World) (now : Int) (p : Option Addr) (n c : Nat) (t : Tm) : Ins15 w (((w.alloc (ob15 now (.slice p n c))).alloc (obT t)).alloc (ob15 now (.slice none 0 0))) now p n c t (.slice none 0 0) [] := by
  have b0 := below_box w (ob15 now (.slice p n c))
  have b1 := below_box (w.alloc (ob15 now (.slice p n c))) (obT t)
  have b2 := below_box ((w.alloc (ob15 now (.slice p n c))).alloc (obT t)) (ob15 now (.slice none 0 0))
  have z0 : (w.alloc (ob15 now (.slice p n c))).heap.size = w.heap.size + 1 := by simp
  have z1 : ((w.alloc (ob15 now (.slice p n c))).alloc (obT t)).heap.size = w.heap.size + 2 := by simp
  refine ⟨ahead (ahead b0 b1) b2, ?_, ?_, ?_, World.ownsRow_nil _ _ _ _⟩
  · rw [b2.block _ (by omega), b1.block _ (by omega)]; exact heap_alloc_new w _
  · rw [b2.block _ (by omega)]
    have := heap_alloc_new (w.alloc (ob15 now (.slice p n c))) (obT t)
    rw [z0] at this
    exact this
  · have := heap_alloc_new ((w.alloc (ob15 now (.slice p n c))).alloc (obT t)) (ob15 now (.slice none 0 0))
    rw [z1] at this
    exact this
section
variable {w W W2 w3 : World} {now : Int} {p : Option Addr} {n c : Nat} {t : Tm} {v v' : Value} {xs : List Tm}
theorem Ins15.drew (h : Ins15 w W now p n c t v xs) : Ins15 w W.drew now p n c t v xs := ⟨h.below.drew, h.box, h.tm, h.out, own_same h.own fun _ _ => rfl⟩
theorem Ins15.drewN (h : Ins15 w W now p n c t v xs) (q : Nat) : Ins15 w (W.drewN q) now p n c t v xs := by
  have e : (W.drewN q).heap = W.heap := by simp
  exact ⟨⟨h.below.os, h.below.tape, h.below.output, h.below.size, h.below.block⟩, by rw [e]; exact h.box, by rw [e]; exact h.tm, by rw [e]; exact h.out, own_same h.own fun _ _ => by rw [e]⟩
theorem Ins15.far (h : Ins15 w W now p n c t v xs) {g : Nat} (hg : v.ownBlock = some g) : w.heap.size + 3 ≤ g := (h.own.lt g hg).1
theorem Ins15.top (h : Ins15 w W now p n c t v xs) : w.heap.size + 3 ≤ W.heap.size := (Array.getElem?_eq_some_iff.1 h.out).1
/-- One timer more. -/
theorem Ins15.more {y : Tm} (h : Ins15 w W now p n c t v xs) (hb : Below W.heap.size W W2) (hy : TS W2 (.slice (some ⟨W.heap.size, 0, none⟩) 1 1) [y]) (hl : xs.length ≤ 1000001) :
    ∃ p' n' c' w3, (Builtin.append_ #[26, 26] 26 #[v, .slice (some ⟨W.heap.size, 0, none⟩) 1 1]).run Try.prog W2 = .ok (.slice p' n' c') w3 ∧ w3.cell? ⟨w.heap.size + 1 + 1, 1, none⟩ = some v ∧ w3.frozen? ⟨w.heap.size + 1 + 1, 1, none⟩ = false ∧ w3.cell? ⟨w.heap.size + 1 + 1, 0, none⟩ = some (.int .i64 now) ∧ Ins15 w (w3.setCell ⟨w.heap.size + 2, 1, none⟩ (.slice p' n' c')) now p n c t (.slice p' n' c') (xs ++ [y]) := by
  have ht := h.top
  have hz := hb.size
  obtain ⟨v', w3, hrun, hr, hg⟩ := run_append_tm W2 26 (w.heap.size + 3) v _ xs [y] (own_same h.own fun g hg => hb.block g (h.own.lt g hg).2) hy (by simp; omega) (by omega)
  obtain ⟨p', n', c', rfl⟩ := own_slice hr
  have hne : ∀ k, k < w.heap.size + 3 → some k ≠ v.ownBlock := fun k hk e => by have := h.far e.symm; omega
  have hk : ∀ k, k < w.heap.size + 3 → w3.heap[k]? = W.heap[k]? := fun k hk => (hg.block k (by omega) (hne k hk)).trans (hb.block k (by omega))
  have hs : ∀ k, k ≠ w.heap.size + 2 → (w3.setCell ⟨w.heap.size + 2, 1, none⟩ (.slice p' n' c')).heap[k]? = w3.heap[k]? := fun k hk => Below.heap_setCell _ _ _ _ hk
  obtain ⟨⟨o0, o1⟩, of⟩ := two15 ((hk (w.heap.size + 2) (by omega)).trans h.out)
  refine ⟨p', n', c', w3, hrun, o1, of 1, o0, ?_, ?_, ?_, ?_, own_same hr fun g hg' => hs g (by have := (hr.lt g hg').1; omega)⟩
  · refine Below.setCell (p := ⟨w.heap.size + 2, 1, none⟩) ?_ (by show w.heap.size ≤ w.heap.size + 2; omega) _
    have b2 := ahead h.below hb
    exact b2.trans ⟨hg.os, hg.tape, hg.output, hg.size, fun k hk => hg.block k (by have := b2.size; omega) (hne k (by omega))⟩
  · rw [hs _ (by omega), hk _ (by omega)]; exact h.box
  · rw [hs _ (by omega), hk _ (by omega)]; exact h.tm
  · exact heap_set (i := 1) _ ((hk (w.heap.size + 2) (by omega)).trans h.out)
end

end Go.Proofs.Ytcmkdeejofoibaa
