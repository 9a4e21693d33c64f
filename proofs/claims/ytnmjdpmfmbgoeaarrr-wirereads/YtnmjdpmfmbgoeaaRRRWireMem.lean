/- Lists of slices of bytes, with the blocks in which they lie; the first of them let go; parts of the first. -/
import Derived.Test.YtnmjdpmfmbgoeaaRRRWireMath
import Derived.Test.YtnmjdpmfmbgoeaaRRRCloneMem
namespace Go.Proofs.YtnmjdpmfmbgoeaaRRR
open Go.ChangeShapes Go.WideShapes Go.ChangeAt Go.RowKit
open Wr
set_option linter.unusedVariables false
set_option maxRecDepth 100000

/-- A list of slices of bytes: each reads as one of L; what has elements lies in blocks of K. -/
structure CSK (K : Nat → Prop) (W : World) (v : Value) (L : List (List UInt8)) : Prop where
  cs : CS W v L
  row : L ≠ [] → ∀ g, v.ownBlock = some g → K g
  each : ∀ (i : Nat) (u : Value) (x : List UInt8) (p : Option Addr) (n c : Nat) (ad : Addr), v = .slice p n c → p = some ad → W.cell? (ad.add i) = some u → L[i]? = some x → x ≠ [] → ∀ g, u.ownBlock = some g → K g

theorem rs_empty {W W' : World} {sz : Nat} {v : Value} {n : Nat} {xs : List Value} (h : RS W sz v n xs) (hx : xs = []) : RS W' sz v n xs := by
  subst hx
  obtain ⟨h0, p, cap, rfl, h1, h2, h3, h4⟩ := h
  exact ⟨h0, p, cap, rfl, h1, h2, h3, fun ad hp i u hu => by simp at hu⟩
theorem CSK.slice {K : Nat → Prop} {W : World} {v : Value} {L : List (List UInt8)} (h : CSK K W v L) : ∃ p c, v = .slice p L.length c ∧ L.length ≤ c ∧ c ≤ maxLen := h.cs.slice
/-- It lies as it lay where its blocks do. -/
theorem CSK.keep {K : Nat → Prop} {W W' : World} {v : Value} {L : List (List UInt8)} (h : CSK K W v L) (hk : ∀ g, K g → g < W.heap.size → W'.heap[g]? = W.heap[g]?) : CSK K W' v L := by
  by_cases hL : L = []
  · subst hL
    obtain ⟨us, h1, h2, h3⟩ := h.cs
    have hu : us = [] := List.eq_nil_of_length_eq_zero h2
    subst hu
    exact ⟨⟨[], rs_empty h1 rfl, rfl, fun i u x hu => by simp at hu⟩, fun hne => absurd rfl hne, fun i u x p n c ad _ _ _ hx => by simp at hx⟩
  · have hrow := h.row hL
    obtain ⟨us, h1, h2, h3⟩ := h.cs
    have h1' := h1.keep (W' := W') fun g hg hlt => hk g (hrow g hg) hlt
    obtain ⟨_, p, c, rfl, q1, q2, q3, q4⟩ := id h1
    have hcell : ∀ (i : Nat) (u : Value) (ad : Addr), p = some ad → W'.cell? (ad.add i) = some u → i < L.length → W.cell? (ad.add i) = some u := fun i u ad hp hc hi => by
      have hui : us[i]? = some us[i] := List.getElem?_eq_getElem (by omega)
      have e1 := q4 ad hp i _ hui
      obtain ⟨_, p', c', e, _, _, _, q4'⟩ := h1'
      cases e
      have e2 := q4' ad hp i _ hui
      rw [e1, ← e2, hc]
    refine ⟨⟨us, h1', h2, fun i u x hu hx => ?_⟩, fun _ => hrow, fun i u x p' n c' ad e hp hc hx => ?_⟩
    · refine (h3 i u x hu hx).keep fun hne g hg => ?_
      have hlt := (List.getElem?_eq_some_iff.1 hx).1
      have hp : ∃ ad, p = some ad := by
        cases p with
        | none => have := q3 rfl; omega
        | some ad => exact ⟨ad, rfl⟩
      obtain ⟨ad, rfl⟩ := hp
      obtain ⟨g', e', hlt'⟩ := (h3 i u x hu hx).lt hne
      rw [e'] at hg
      cases hg
      exact hk _ (h.each i u x _ _ _ ad rfl rfl (q4 ad rfl i u hu) hx hne _ e') hlt'
    · cases e
      exact h.each i u x _ _ _ ad rfl hp (hcell i u ad hp hc (List.getElem?_eq_some_iff.1 hx).1) hx
theorem CSK.mono {K K' : Nat → Prop} {W : World} {v : Value} {L : List (List UInt8)} (h : CSK K W v L) (hk : ∀ g, K g → K' g) : CSK K' W v L := ⟨h.cs, fun a g b => hk g (h.row a g b), fun i u x p n c ad a1 a2 a3 a4 a5 g b => hk g (h.each i u x p n c ad a1 a2 a3 a4 a5 g b)⟩
theorem CSK.below {K : Nat → Prop} {W W' : World} {v : Value} {L : List (List UInt8)} (h : CSK K W v L) (hb : Below W.heap.size W W') : CSK K W' v L := h.keep fun g _ hg => hb.block g hg
/-- What came in lies in blocks that are there. -/
theorem CS.known {W : World} {v : Value} {L : List (List UInt8)} (h : CS W v L) : CSK (· < W.heap.size) W v L := by
  refine ⟨h, fun hne g hg => ?_, fun i u x p n c ad e hp hc hx hne g hg => ?_⟩
  · obtain ⟨x, hx⟩ : ∃ x, L[0]? = some x := by
      cases L with
      | nil => exact absurd rfl hne
      | cons x L => exact ⟨x, rfl⟩
    obtain ⟨p, c, rfl, _⟩ := h.slice
    obtain ⟨_, ad, pu, cu, rfl, hc, _⟩ := h.at hx
    have := World.block_lt_of_cell? W _ hc
    rw [add_block] at this
    cases hg
    exact this
  · subst e
    obtain ⟨_, ad', pu, cu, hp', hc', hr⟩ := h.at hx
    rw [hp] at hp'
    cases hp'
    rw [hc] at hc'
    cases hc'
    obtain ⟨g', e', hlt⟩ := hr.lt hne
    rw [e'] at hg
    cases hg
    exact hlt
/-- The elements, one by one. -/
theorem CSK.us {K : Nat → Prop} {W : World} {v : Value} {L : List (List UInt8)} (h : CSK K W v L) : ∃ us, RS W 1 v L.length us ∧ us.length = L.length ∧ ∀ (i : Nat) (u : Value) (x : List UInt8), us[i]? = some u → L[i]? = some x → RD W u x ∧ (x ≠ [] → ∀ g, u.ownBlock = some g → K g) := by
  obtain ⟨us, h1, h2, h3⟩ := h.cs
  refine ⟨us, h1, h2, fun i u x hu hx => ⟨h3 i u x hu hx, fun hne g hg => ?_⟩⟩
  obtain ⟨_, p, c, rfl, q1, q2, q3, q4⟩ := id h1
  have hlt := (List.getElem?_eq_some_iff.1 hx).1
  cases p with
  | none => have := q3 rfl; omega
  | some ad => exact h.each i u x _ _ _ ad rfl rfl (q4 ad rfl i u hu) hx hne g hg
theorem CSK.of_us {K : Nat → Prop} {W : World} {v : Value} {L : List (List UInt8)} {us : List Value} (h1 : RS W 1 v L.length us) (h2 : us.length = L.length) (hr : L ≠ [] → ∀ g, v.ownBlock = some g → K g)
    (h3 : ∀ (i : Nat) (u : Value) (x : List UInt8), us[i]? = some u → L[i]? = some x → RD W u x ∧ (x ≠ [] → ∀ g, u.ownBlock = some g → K g)) : CSK K W v L := by
  refine ⟨⟨us, h1, h2, fun i u x hu hx => (h3 i u x hu hx).1⟩, hr, fun i u x p n c ad e hp hc hx hne g hg => ?_⟩
  subst e
  obtain ⟨_, p', c', e, q1, q2, q3, q4⟩ := h1
  cases e
  have hi : i < us.length := by rw [h2]; exact (List.getElem?_eq_some_iff.1 hx).1
  have hu := q4 ad hp i _ (List.getElem?_eq_getElem hi)
  rw [hc] at hu
  cases hu
  exact (h3 i _ x (List.getElem?_eq_getElem hi) hx).2 hne g hg
/-- What has elements lies in blocks that are there. -/
theorem CSK.known {K : Nat → Prop} {W : World} {v : Value} {L : List (List UInt8)} (h : CSK K W v L) : CSK (fun g => K g ∧ g < W.heap.size) W v L :=
  ⟨h.cs, fun a g b => ⟨h.row a g b, h.cs.known.row a g b⟩, fun i u x p n c ad a1 a2 a3 a4 a5 g b => ⟨h.each i u x p n c ad a1 a2 a3 a4 a5 g b, h.cs.known.each i u x p n c ad a1 a2 a3 a4 a5 g b⟩⟩
theorem CSK.nil (K : Nat → Prop) (W : World) : CSK K W (.slice none 0 0) [] := ⟨⟨[], RS.nil W 1, rfl, fun i u x hu => by simp at hu⟩, fun h => absurd rfl h, fun i u x p n c ad _ _ _ hx => by simp at hx⟩
/-- The i-th of them. -/
theorem CSK.at {K : Nat → Prop} {W : World} {p : Option Addr} {n c : Nat} {L : List (List UInt8)} (h : CSK K W (.slice p n c) L) {i : Nat} {x : List UInt8} (hi : L[i]? = some x) :
    ∃ ad pu cu, p = some ad ∧ W.cell? (ad.add i) = some (.slice pu x.length cu) ∧ RD W (.slice pu x.length cu) x ∧ (x ≠ [] → ∀ g, (Value.slice pu x.length cu).ownBlock = some g → K g) := by
  obtain ⟨_, ad, pu, cu, rfl, hc, hr⟩ := h.cs.at hi
  exact ⟨ad, pu, cu, rfl, hc, hr, fun hne => h.each i _ x _ _ _ ad rfl rfl hc hi hne⟩

theorem chunk_size (w : World) : (sizeOf (Try.prog.elem 22)).run Try.prog w = .ok 1 w := by
  have he : Try.prog.elem 22 = 34 := by kernel_rfl
  have hi : (Try.prog.info? 34).map (fun i => (i.zero, i.size, i.bytes)) = some (some (.slice none 0 0), 1, 24) := by kernel_rfl
  obtain ⟨i0, hi, hz0, hz1, hz2⟩ := info_parts hi
  rw [he]
  simp [sizeOf, typeInfo, hi, hz1]
theorem cutc_l (p : Option Addr) (n c : Nat) (h1 : 1 ≤ n) (w : World) :
    (Instr.slice 22 (.slice p n c) (some (.int .i64 1)) none none).run Try.prog w = .ok (sliced p 1 n c 1) w := by
  have h := run_slice_l w 22 p n c Try.underlying22 .i64 1 (by omega) (by omega)
  rw [h, chunk_size]
  simp [Result.andThen]
/-- All but the first. -/
theorem CSK.tail {K : Nat → Prop} {W : World} {p : Option Addr} {n c : Nat} {x : List UInt8} {t : List (List UInt8)} (h : CSK K W (.slice p n c) (x :: t)) :
    ∃ p' c', sliced p 1 n c 1 = .slice p' t.length c' ∧ CSK K W (.slice p' t.length c') t := by
  obtain ⟨us, h1, h2, h3⟩ := h.cs
  obtain ⟨h0, pp, cc, e, q1, q2, q3, q4⟩ := h1
  cases e
  have hrow := h.row (by simp)
  unfold sliced
  by_cases hc : c = 1
  · rw [if_pos hc]
    simp only [List.length_cons] at q1 ⊢
    have ht : t = [] := List.eq_nil_of_length_eq_zero (by omega)
    subst ht
    refine ⟨p, c - 1, rfl, ⟨⟨[], ⟨by simp, p, c - 1, rfl, by simp, by omega, fun hp => by have := q3 hp; omega, fun ad hp i u hu => by simp at hu⟩, rfl, fun i u x hu => by simp at hu⟩, fun hne => absurd rfl hne, fun i u x p n c ad _ _ _ hx => by simp at hx⟩⟩
  · rw [if_neg hc]
    simp only [List.length_cons] at q1 ⊢
    obtain ⟨u0, us', rfl⟩ : ∃ u0 us', us = u0 :: us' := by
      cases us with
      | nil => simp at h2
      | cons a l => exact ⟨a, l, rfl⟩
    cases p with
    | none => have := q3 rfl; omega
    | some ad =>
      have hcell : ∀ i, (ad.add 1).add i = ad.add (i + 1) := fun i => by rw [Addr.add_add]; congr 1; omega
      simp only [Nat.one_mul, Option.map_some]
      refine ⟨some (ad.add 1), c - 1, by simp, ⟨⟨us', ⟨by simp at h2; simp; omega, some (ad.add 1), c - 1, rfl, by omega, by omega, (fun h => by cases h), fun ad' hp i u hu => ?_⟩, by simpa using h2, fun i u x hu hx => h3 (i + 1) u x (by simpa using hu) (by simpa using hx)⟩, fun hne g hg => ?_, fun i u x p' n' c' ad' e hp hc' hx hne g hg => ?_⟩⟩
      · cases hp
        rw [hcell]
        exact q4 ad rfl (i + 1) u (by simpa using hu)
      · refine hrow g ?_
        simpa [Value.ownBlock, add_block] using hg
      · cases e
        cases hp
        rw [hcell] at hc'
        exact h.each (i + 1) u x _ _ _ ad rfl rfl hc' (by simpa using hx) hne g hg
/-- A part of bytes, as a value. -/
theorem cut_from {p : Option Addr} {n c : Nat} {xs : List UInt8} {W : World} (h : RD W (.slice p n c) xs) (b : Nat) (hb : b ≤ n) :
    ∃ p' c', sliced p b n c 1 = .slice p' (n - b) c' ∧ RD W (.slice p' (n - b) c') (xs.drop b) ∧ ∀ g, (Value.slice p' (n - b) c').ownBlock = some g → (Value.slice p n c).ownBlock = some g := by
  have hn := h.len
  have hnc : n ≤ c := by obtain ⟨_, _, e, h1, _⟩ := h; cases e; omega
  have hp := h.part (i := b) (j := n) (m := c) hb (by omega) hnc (Nat.le_refl _)
  have e : (xs.take n).drop b = xs.drop b := by rw [List.take_of_length_le (by omega)]
  rw [e] at hp
  refine ⟨_, _, rfl, hp, fun g hg => ?_⟩
  obtain ⟨ad, rfl, rfl⟩ := sliced_ownBlock (i := b) (j := n) (m := c) hg
  rfl
theorem cut_to {p : Option Addr} {n c : Nat} {xs : List UInt8} {W : World} (h : RD W (.slice p n c) xs) (k : Nat) (hk : k ≤ n) :
    ∃ p' c', sliced p 0 k c 1 = .slice p' k c' ∧ RD W (.slice p' k c') (xs.take k) ∧ ∀ g, (Value.slice p' k c').ownBlock = some g → (Value.slice p n c).ownBlock = some g := by
  have hn := h.len
  have hnc : n ≤ c := by obtain ⟨_, _, e, h1, _⟩ := h; cases e; omega
  have hp := h.part (i := 0) (j := k) (m := c) (by omega) (by omega) (by omega) (Nat.le_refl _)
  rw [List.drop_zero] at hp
  refine ⟨_, _, rfl, hp, fun g hg => ?_⟩
  obtain ⟨ad, rfl, rfl⟩ := sliced_ownBlock (i := 0) (j := k) (m := c) hg
  rfl

end Go.Proofs.YtnmjdpmfmbgoeaaRRR
