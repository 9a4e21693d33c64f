/- A clock's map of timers, as it reads: the timers, in whatever order. -/
import Derived.Test.YtcmkdeejofoibaaClkLeft
import Derived.Maps.RangeWalk
import Derived.Maps.OwnSet
namespace Go.Proofs.Ytcmkdeejofoibaa
open Go.ChangeShapes Go.WideShapes Go.ChangeAt Go.RowKit
open Ck
set_option linter.unusedVariables false
set_option maxRecDepth 100000

namespace Ck
/-- An entry. -/
def ent (t : Tm) : Lit × DataW Unit := (.int .i64 t.id, .lit (.int .i64 t.due))
/-- The map reads as these timers. -/
def MapIs (D : DataW Unit) (l : List Tm) : Prop := ∃ es, D = .map es ∧ es.Perm (l.map ent)
theorem same_int (a b : Int) : (Lit.int .i64 a).sameKey (.int .i64 b) = (a == b) := by
  by_cases h : a = b
  · simp [Lit.sameKey, h]
  · simp [Lit.sameKey, h]
theorem insert_perm (x : Lit × DataW Unit) : ∀ l, (DataW.insert x l).Perm (x :: l)
  | [] => List.Perm.refl _
  | y :: r => by
    unfold DataW.insert
    split
    · exact List.Perm.refl _
    · exact ((insert_perm x r).cons y).trans (List.Perm.swap x y r)
theorem ins_perm (t : Tm) : ∀ l, (ins t l).Perm (t :: l)
  | [] => List.Perm.refl _
  | y :: r => by
    unfold ins
    split
    · exact List.Perm.refl _
    · exact ((ins_perm t r).cons y).trans (List.Perm.swap t y r)
theorem filter_ent (id : Int) : ∀ l : List Tm, (l.map ent).filter (fun p => !p.1.sameKey (.int .i64 id)) = (wo l id).map ent
  | [] => rfl
  | t :: r => by
    have ih := filter_ent id r
    unfold wo at ih ⊢
    have e : (ent t).1.sameKey (.int .i64 id) = (t.id == id) := same_int _ _
    cases h : t.id == id
    · rw [List.map_cons, List.filter_cons_of_pos (by rw [e, h]; rfl), List.filter_cons_of_pos (by rw [h]; rfl), List.map_cons, ih]
    · rw [List.map_cons, List.filter_cons_of_neg (by rw [e, h]; decide), List.filter_cons_of_neg (by rw [h]; decide), ih]
theorem MapIs.nil : MapIs (.map []) [] := ⟨[], rfl, List.Perm.refl _⟩
theorem MapIs.perm {D : DataW Unit} {l l' : List Tm} (h : MapIs D l) (hp : l.Perm l') : MapIs D l' := by
  obtain ⟨es, rfl, h⟩ := h
  exact ⟨es, rfl, h.trans (hp.map _)⟩
theorem MapIs.del {D : DataW Unit} {l : List Tm} (h : MapIs D l) (id : Int) : MapIs (D.del (.int .i64 id)) (wo l id) := by
  obtain ⟨es, rfl, h⟩ := h
  exact ⟨_, rfl, by rw [← filter_ent]; exact h.filter _⟩
theorem MapIs.put {D : DataW Unit} {l : List Tm} (h : MapIs D l) (id due : Int) : MapIs (D.put (.int .i64 id) (.lit (.int .i64 due))) (ins ⟨id, due⟩ (wo l id)) := by
  obtain ⟨es, rfl, h⟩ := h
  refine ⟨_, rfl, (insert_perm _ _).trans (List.Perm.trans ?_ ((ins_perm ⟨id, due⟩ (wo l id)).map ent).symm)⟩
  rw [List.map_cons, ← filter_ent]
  exact (h.filter _).cons _
theorem MapIs.has {D : DataW Unit} {l : List Tm} (h : MapIs D l) (id : Int) : Maps.has D (.int .i64 id) = Ck.has l id := by
  obtain ⟨es, rfl, h⟩ := h
  rw [Maps.has_eq]
  have e : (l.map ent).any (fun p => p.1.sameKey (.int .i64 id)) = Ck.has l id := by
    unfold Ck.has
    rw [List.any_map]
    congr 1
    funext t
    exact same_int _ _
  rw [← e]
  cases h1 : (l.map ent).any (fun p => p.1.sameKey (.int .i64 id)) with
  | true =>
    obtain ⟨p, hp, hs⟩ := List.any_eq_true.1 h1
    exact List.any_eq_true.2 ⟨p, h.mem_iff.2 hp, hs⟩
  | false =>
    rw [List.any_eq_false] at h1 ⊢
    exact fun p hp => h1 p (h.mem_iff.1 hp)
theorem MapIs.size {D : DataW Unit} {l : List Tm} (h : MapIs D l) : Maps.size D = l.length := by
  obtain ⟨es, rfl, h⟩ := h
  rw [Maps.size_eq, h.length_eq, List.length_map]
theorem MapIs.at {D : DataW Unit} {l : List Tm} (h : MapIs D l) {id : Int} (hh : Ck.has l id = true) (z : DataW Unit) : ∃ t ∈ l, t.id = id ∧ D.atKey (.int .i64 id) z = .lit (.int .i64 t.due) := by
  have h1 := h.has id
  obtain ⟨es, rfl, h⟩ := h
  rw [hh, Maps.has_eq] at h1
  cases hf : es.find? (fun p => p.1.sameKey (.int .i64 id)) with
  | none =>
    obtain ⟨p, hp, hs⟩ := List.any_eq_true.1 h1
    exact absurd hs (by simpa using List.find?_eq_none.1 hf p hp)
  | some p =>
    have hp := h.mem_iff.1 (List.mem_of_find?_eq_some hf)
    obtain ⟨t, ht, rfl⟩ := List.mem_map.1 hp
    have h0 := List.find?_some hf
    have hs : (Lit.int .i64 t.id).sameKey (.int .i64 id) = true := h0
    rw [same_int] at hs
    refine ⟨t, ht, beq_iff_eq.1 hs, ?_⟩
    simp only [DataW.atKey, hf, ent]
theorem ids_one {l : List Tm} (h : l.Pairwise fun a b => a.id ≠ b.id) {s t : Tm} (hs : s ∈ l) (ht : t ∈ l) (e : s.id = t.id) : s = t := by
  induction l with
  | nil => simp at hs
  | cons x xs ih =>
    obtain ⟨h1, h2⟩ := List.pairwise_cons.1 h
    rcases List.mem_cons.1 hs with e1 | hs1
    · rcases List.mem_cons.1 ht with e2 | ht1
      · rw [e1, e2]
      · exact absurd (by rw [← e1]; exact e) (h1 t ht1)
    · rcases List.mem_cons.1 ht with e2 | ht1
      · exact absurd (by rw [← e2]; exact e.symm) (h1 s hs1)
      · exact ih h2 hs1 ht1
theorem left_mem {now : Int} {l : List Tm} (h : l.Pairwise fun a b => a.id ≠ b.id) {t : Tm} (ht : t ∈ l) : leftF now l t.id = (t.due - now, true) := by
  induction l with
  | nil => simp at ht
  | cons x xs ih =>
    obtain ⟨h1, h2⟩ := List.pairwise_cons.1 h
    unfold leftF
    rcases List.mem_cons.1 ht with rfl | ht
    · rw [if_pos (beq_self_eq_true _)]
    · rw [if_neg (by simpa using h1 t ht), ih h2 ht]
/-- What a look-up in the map tells of a clock. -/
theorem MapIs.left {D : DataW Unit} {l : List Tm} (h : MapIs D l) (hi : l.Pairwise fun a b => a.id ≠ b.id) {id c now : Int} (hh : Ck.has l id = true) (hc : D.atKey (.int .i64 id) (.lit (.int .i64 0)) = .lit (.int .i64 c)) : leftF now l id = (c - now, true) ∧ ∃ t ∈ l, t.due = c := by
  obtain ⟨t, ht, rfl, h2⟩ := h.at hh (.lit (.int .i64 0))
  rw [hc] at h2
  cases h2
  exact ⟨left_mem hi ht, t, ht, rfl⟩

/-- Timers that were met on a way through the map, in whatever order. -/
structure Coll (l : List Tm) (left : Lit → Bool) (acc : List Tm) : Prop where
  ids : acc.Pairwise fun a b => a.id ≠ b.id
  mem : ∀ t, t ∈ acc ↔ t ∈ l ∧ left (.int .i64 t.id) = false
theorem has_mem {l : List Tm} {t : Tm} (h : t ∈ l) : Ck.has l t.id = true := List.any_eq_true.2 ⟨t, h, beq_self_eq_true _⟩
theorem Coll.start {D : DataW Unit} {l : List Tm} (h : MapIs D l) : Coll l (Maps.has D) [] :=
  ⟨List.Pairwise.nil, fun t => ⟨fun ht => by simp at ht, fun ⟨h1, h2⟩ => by rw [h.has, has_mem h1] at h2; cases h2⟩⟩
theorem Coll.step {D : DataW Unit} {l acc : List Tm} {left : Lit → Bool} (h : Coll l left acc) (hD : MapIs D l) (hi : l.Pairwise fun a b => a.id ≠ b.id) {x c : Int} (hl : left (.int .i64 x) = true) (hat : ∀ zd, D.atKey (.int .i64 x) zd = .lit (.int .i64 c)) :
    Coll l (fun z => left z && !z.sameKey (.int .i64 x)) (acc ++ [⟨x, c⟩]) := by
  have hh : Ck.has l x = true := by rw [← hD.has]; exact Maps.has_true_of_atKey hat
  obtain ⟨t0, ht0, h0, h2⟩ := hD.at hh .nil
  rw [hat] at h2
  obtain rfl : t0 = ⟨x, c⟩ := by obtain ⟨i, d⟩ := t0; simp at h0 h2; subst h0 h2; rfl
  refine ⟨List.pairwise_append.2 ⟨h.ids, List.pairwise_singleton _ _, fun a ha b hb => ?_⟩, fun t => ?_⟩
  · obtain rfl : b = ⟨x, c⟩ := by simpa using hb
    intro e
    have := ((h.mem a).1 ha).2
    rw [e] at this
    rw [hl] at this
    cases this
  · rw [List.mem_append, h.mem t]
    show _ ↔ t ∈ l ∧ (left (.int .i64 t.id) && !(Lit.int .i64 t.id).sameKey (.int .i64 x)) = false
    rw [same_int]
    constructor
    · rintro (⟨h1, h2⟩ | h1)
      · exact ⟨h1, by rw [h2]; rfl⟩
      · obtain rfl : t = ⟨x, c⟩ := by simpa using h1
        exact ⟨ht0, by simp⟩
    · rintro ⟨h1, h2⟩
      by_cases hx : t.id = x
      · exact .inr (by rw [ids_one hi h1 ht0 hx]; simp)
      · have : (t.id == x) = false := beq_eq_false_iff_ne.2 hx
        rw [this] at h2
        exact .inl ⟨h1, by simpa using h2⟩
theorem nodup_ids {l : List Tm} (h : l.Pairwise fun a b => a.id ≠ b.id) : l.Nodup := h.imp fun h e => h (by rw [e])
theorem Coll.done {l acc : List Tm} {left : Lit → Bool} (h : Coll l left acc) (hi : l.Pairwise fun a b => a.id ≠ b.id) (hl : ∀ kl, left kl = false) : acc.Perm l :=
  (List.perm_ext_iff_of_nodup (nodup_ids h.ids) (nodup_ids hi)).2 fun t => by rw [h.mem t, hl]; simp
/-- Sorted, it is the list in order. -/
theorem lt_not {a b : Tm} (h : lt a b = true) : lt b a = false := by
  unfold lt at *
  simp at *
  omega
theorem lt_one {a b : Tm} (h : lt a b = false) (g : lt b a = false) : a = b := by
  obtain ⟨i, d⟩ := a
  obtain ⟨j, e⟩ := b
  unfold lt at h g
  simp at h g
  simp
  omega
theorem sorted_is {l acc : List Tm} (ho : l.Pairwise fun a b => lt a b = true) (hp : acc.Perm l) : acc.mergeSort (fun x y => !lt y x) = l := by
  refine List.Perm.eq_of_pairwise (le := fun a b => (!lt b a) = true) (fun a b _ _ h1 h2 => ?_) (List.pairwise_mergeSort ?_ ?_ acc) (ho.imp fun h => ?_) ((List.mergeSort_perm acc _).trans hp)
  · simp only [Bool.not_eq_true', ] at h1 h2
    exact lt_one h2 h1
  · intro a b c h1 h2
    simp only [Bool.not_eq_true'] at h1 h2 ⊢
    unfold lt at *
    simp at *
    omega
  · intro a b
    unfold lt
    simp
    omega
  · rw [lt_not h]; rfl
end Ck

end Go.Proofs.Ytcmkdeejofoibaa
