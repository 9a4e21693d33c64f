/- Slices of slices of bytes; bytes that a call lays. -/
import Derived.Test.YtnmjdpmfmbgoeaaRRRByteMem
import Derived.Test.YtnmjdpmfmbgoeaaRRRFieldRows
import Derived.Test.YtnmjdpmfmbgoeaaRRRBlockMath
import Derived.Lib.ConvBytes
namespace Go.Proofs.YtnmjdpmfmbgoeaaRRR
open Go.ChangeShapes Go.WideShapes Go.ChangeAt Go.RowKit
open Bk
set_option linter.unusedVariables false
set_option maxRecDepth 100000

/-- A list of slices of bytes: each reads as one of L. -/
def CS (W : World) (v : Value) (L : List (List UInt8)) : Prop := ∃ us, RS W 1 v L.length us ∧ us.length = L.length ∧ ∀ (i : Nat) (u : Value) (x : List UInt8), us[i]? = some u → L[i]? = some x → RD W u x
theorem CS.below {W W' : World} {v : Value} {L : List (List UInt8)} (h : CS W v L) (hb : Below W.heap.size W W') : CS W' v L := by
  obtain ⟨us, h1, h2, h3⟩ := h
  exact ⟨us, h1.below hb, h2, fun i u x hu hx => (h3 i u x hu hx).below hb⟩
theorem CS.slice {W : World} {v : Value} {L : List (List UInt8)} (h : CS W v L) : ∃ p c, v = .slice p L.length c ∧ L.length ≤ c ∧ c ≤ maxLen := by
  obtain ⟨us, h1, _⟩ := h
  exact h1.slice
theorem CS.at {W : World} {p : Option Addr} {n c : Nat} {L : List (List UInt8)} (h : CS W (.slice p n c) L) {i : Nat} {x : List UInt8} (hi : L[i]? = some x) : n = L.length ∧ ∃ ad pu cu, p = some ad ∧ W.cell? (ad.add i) = some (.slice pu x.length cu) ∧ RD W (.slice pu x.length cu) x := by
  obtain ⟨us, ⟨h0, p', c', e, h1, h2, h3, h4⟩, hl, hr⟩ := h
  cases e
  refine ⟨rfl, ?_⟩
  have hlt := (List.getElem?_eq_some_iff.1 hi).1
  cases p with
  | none => have := h3 rfl; omega
  | some ad =>
    have hu : us[i]? = some us[i] := List.getElem?_eq_getElem (by omega)
    have hrd := hr i _ x hu hi
    have hc := h4 ad rfl i _ hu
    obtain ⟨pu, cu, e, _⟩ := id hrd
    rw [e] at hrd hc
    exact ⟨ad, pu, cu, rfl, hc, hrd⟩
theorem rd_drewN {w : World} {v : Value} {xs : List UInt8} (h : RD w v xs) (n : Nat) : RD (w.drewN n) v xs := h.kept fun k _ => by simp
theorem drewN_in {A W : World} (h : Below A.heap.size A W) (n : Nat) : Below A.heap.size A (W.drewN n) := ⟨h.os, h.tape, h.output, h.size, h.block⟩
theorem flat_mem {L : List (List UInt8)} {x : List UInt8} (h : x ∈ L) : x.length ≤ L.flatten.length := by
  induction L with
  | nil => cases h
  | cons y L ih =>
    simp only [List.flatten_cons, List.length_append]
    rcases List.mem_cons.1 h with rfl | h
    · omega
    · have := ih h; omega
theorem flat_take (L : List (List UInt8)) (k : Nat) : (L.take k).flatten.length ≤ L.flatten.length := by
  induction L generalizing k with
  | nil => simp
  | cons x L ih =>
    cases k with
    | zero => simp
    | succ k => have := ih k; simp only [List.take_succ_cons, List.flatten_cons, List.length_append]; omega
/-- A text as bytes of a row of its own. -/
theorem bytes_rd (w : World) (x : List UInt8) (h : x.length ≤ 1099511627776) : ∃ c w', (convert 9 34 (.string (arr x))).run Try.prog w = .ok (.slice (some ⟨w.heap.size, 0, none⟩) x.length c) w' ∧ RD w' (.slice (some ⟨w.heap.size, 0, none⟩) x.length c) x ∧ Below w.heap.size w w' := by
  have hc := Lib.run_convert_string_bytes (P := Try.prog) w 9 34 5 (arr x) Try.underlying9 Try.underlying34 Try.underlying5
  have hsz := arr_size x
  have g1 := grownCap_ge w (arr x).size 0 5
  have g2 := grownCap_le_maxLen w (arr x).size 0 5 (by simp only [maxLen]; omega)
  rw [hsz] at hc g1 g2
  refine ⟨_, _, hc, ⟨_, _, rfl, by omega, g2, (fun h => by cases h), fun ad hp i b hb => ?_⟩, ?_⟩
  · cases hp
    have hi := (List.getElem?_eq_some_iff.1 hb).1
    have e : ((⟨w.heap.size, 0, none⟩ : Addr).add i) = ⟨w.heap.size, i, none⟩ := by cases i <;> simp [Addr.add]
    rw [e, Lib.bytesWorld_cell w _ (arr x) i (by omega), arr_list]
    simp [List.getD, hb]
  · exact ⟨rfl, rfl, rfl, by rw [Lib.bytesWorld_size]; omega, fun j hj => Lib.bytesWorld_at_old w _ _ j hj⟩
/-- A slice of bytes as a text. -/
theorem conv_rd {w : World} {v : Value} {xs : List UInt8} (h : RD w v xs) : (convert 34 9 v).run Try.prog w = .ok (.string ⟨xs.toArray⟩) w := by
  obtain ⟨p, cap, rfl, h1, h2, h3, h4⟩ := h
  cases p with
  | none =>
    have := h3 rfl
    obtain rfl : xs = [] := List.eq_nil_of_length_eq_zero (by omega)
    exact conv_own [] 0 _ w ⟨rfl, .inl ⟨by subst this; rfl, rfl⟩⟩
  | some ad => exact run_convert_bytes_back (P := Try.prog) w 34 9 5 ad cap xs Try.underlying34 Try.underlying5 Try.underlying9 (fun j hj => h4 ad rfl j _ (List.getElem?_eq_getElem hj))
theorem flat_snoc {L : List (List UInt8)} {k : Nat} {x : List UInt8} (h : L[k]? = some x) : (L.take (k + 1)).flatten.length = (L.take k).flatten.length + x.length := by rw [List.take_add_one, h]; simp
theorem rd_lit (w : World) (xs : List UInt8) (fr : Nat × Nat) (h : xs.length ≤ 1000) : RD (w.alloc (.cells (bv xs).toArray 5 fr)) (.slice (some ⟨w.heap.size, 0, none⟩) xs.length xs.length) xs := by
  refine ⟨some ⟨w.heap.size, 0, none⟩, xs.length, rfl, Nat.le_refl _, by simp only [maxLen]; omega, (fun h => by cases h), fun ad hp i b hb => ?_⟩
  cases hp
  have hn := World.alloc_heap_new w (.cells (bv xs).toArray 5 fr)
  have e : ((⟨w.heap.size, 0, none⟩ : Addr).add i) = ⟨w.heap.size, i, none⟩ := by cases i <;> simp [Addr.add]
  rw [e]
  unfold World.cell?
  rw [hn]
  simp [bv, hb]
/-- Bytes, and more, in a row of the call's own. -/
theorem own_two {u v : Value} {xs ys : List UInt8} (w : World) (hu : RD w u xs) (hv : RD w v ys) (hx : xs.length ≤ 100000) (hy : ys.length ≤ 100000) :
    ∃ v1 w1 v2 w2, (Builtin.append_ #[34, 34] 34 #[.slice (some ⟨w.heap.size, 0, none⟩) 0 0, u]).run Try.prog (w.alloc (.cells #[] 5)) = .ok v1 w1 ∧
      (Builtin.append_ #[34, 34] 34 #[v1, v]).run Try.prog w1 = .ok v2 w2 ∧ RD w2 v2 (xs ++ ys) ∧ Below w.heap.size w w2 ∧ (∀ g, v2.ownBlock = some g → g < w2.heap.size) := by
  have hown : (w.alloc (.cells #[] 5)).ownsRow w.heap.size 5 1 (.slice (some ⟨w.heap.size, 0, none⟩) 0 0) 0 (bv []) := World.ownsRow_made w #[] 0 (Nat.le_refl _) (by decide) rfl
  have b0 : Below w.heap.size w (w.alloc (.cells #[] 5)) := below_box _ _
  obtain ⟨v1, w1, r0, r1, r2⟩ := run_append_rd (w.alloc (.cells #[] 5)) 34 w.heap.size _ _ 0 [] xs hown (hu.below b0) (by simp; omega) (by simp)
  have b1 : Below w.heap.size w w1 := b0.grown r2 (by simp) (fun r e => by cases e; exact Nat.le_refl _)
  obtain ⟨v2, w2, s0, s1, s2⟩ := run_append_rd w1 34 w.heap.size _ _ _ _ ys r1 (hv.below b1) (by simp; omega) b1.size
  have b2 : Below w.heap.size w w2 := b1.grown s2 b1.size (fun k hk => (r1.lt k hk).1)
  refine ⟨v1, w1, v2, w2, r0, s0, by simpa using RD.of_own s1, b2, fun g hg => (s1.lt g hg).2⟩

end Go.Proofs.YtnmjdpmfmbgoeaaRRR
