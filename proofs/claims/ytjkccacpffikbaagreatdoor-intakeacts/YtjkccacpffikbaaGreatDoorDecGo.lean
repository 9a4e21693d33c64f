/- Plain words for layer 9: the document's reading goes on, piece by piece; a decoder holds it. -/
import Derived.Test.YtjkccacpffikbaaGreatDoorDecMath
namespace Go.Proofs.YtjkccacpffikbaaGreatDoor
namespace Dk
open Oc Fl Bk Hx Bd

/-- The reading that came to x goes on with b. -/
def cont (l : Lim) (x : St × Nat × Nat) (b : List UInt8) : St × Nat × Nat := if x.2.2 = 4 then go l x.1 b x.2.1 else x
theorem cont_end {l : Lim} {x : St × Nat × Nat} (b : List UInt8) (h : x.2.2 ≠ 4) : cont l x b = x := if_neg h
theorem cont_go (l : Lim) (s : St) (i : Nat) (b : List UInt8) : cont l (s, i, 4) b = go l s b i := if_pos rfl
theorem cont_nil (l : Lim) (x : St × Nat × Nat) : cont l x [] = x := by
  by_cases h : x.2.2 = 4
  · obtain ⟨s, i, e⟩ := x
    simp only at h
    subst h
    exact cont_go l s i []
  · exact cont_end _ h
theorem go_join (l : Lim) (x y : List UInt8) : ∀ (s : St) (i : Nat), go l s (x ++ y) i = cont l (go l s x i) y := by
  induction x with
  | nil => intro s i; rfl
  | cons c r ih =>
    intro s i
    rw [List.cons_append]
    by_cases h : er l s c = 0
    · by_cases hp : (nxt s c).place = 11
      · rw [go_last h rfl hp, go_last h rfl hp]; rfl
      · rw [go_step h rfl hp, go_step h rfl hp]; exact ih _ _
    · rw [go_bad rfl h, go_bad rfl h, cont_end _ (er_four l s c)]
theorem cont_app (l : Lim) (x : St × Nat × Nat) (a b : List UInt8) : cont l x (a ++ b) = cont l (cont l x a) b := by
  by_cases h : x.2.2 = 4
  · obtain ⟨s, i, e⟩ := x
    simp only at h
    subst h
    rw [cont_go, cont_go, go_join]
  · rw [cont_end _ h, cont_end _ h, cont_end _ h]

/-- Data are read. -/
theorem go_run (l : Lim) (x y : List UInt8) : ∀ (s : St) (i : Nat), s.place = 3 → x ≠ [] → x.length ≤ s.n →
    go l s (x ++ y) i = go l { s with data := s.data ++ x, n := s.n - x.length, place := if s.n - x.length = 0 then 4 else 3 } y (i + x.length) := by
  induction x with
  | nil => intro s i _ h; exact absurd rfl h
  | cons b x ih =>
    intro s i hp _ hn
    obtain ⟨p, n, k, li, si, tx, D, fs⟩ := s
    simp only at hp hn
    subst hp
    simp only [List.length_cons] at hn
    rw [List.cons_append, go_step (s' := ⟨if n - 1 = 0 then 4 else 3, n - 1, k, li, si, tx, D ++ [b], fs⟩) (by rfl) rfl (by simp only; split <;> decide)]
    by_cases hx : x = []
    · subst hx
      rfl
    · have hl : 0 < x.length := List.length_pos_iff.2 hx
      rw [if_neg (by omega), ih _ _ rfl hx (by simp only; omega)]
      simp only [List.length_cons, List.append_assoc, List.singleton_append]
      rw [show n - 1 - x.length = n - (x.length + 1) by omega, show i + 1 + x.length = i + (x.length + 1) by omega]

/-- The decoder holds what the reading came to. -/
def Core (l : Lim) (x : St × Nat × Nat) (d : Ds) : Prop :=
  (x.2.2 = 4 ∧ x.1.place ≠ 11 ∧ Sim l x.1 d) ∨ (x.2.2 = 0 ∧ x.1.place = 11 ∧ Sim l x.1 d) ∨
  (x.2.2 ≠ 0 ∧ x.2.2 ≠ 4 ∧ x.2.2 ≤ 5 ∧ x.1.place ≠ 3 ∧ d.wh = 0 ∧ d.wrong = x.2.2 ∧ d.line = [] ∧ d.fields = [])
structure Hold (l : Lim) (x : St × Nat × Nat) (d : Ds) : Prop where
  core : Core l x d
  taken : d.taken = x.2.1
  given : d.given = x.1.data.length
  data : x.1.data.length ≤ x.2.1
/-- The number that is told of an end. -/
def told (e : Nat) : Nat := if e = 4 then 0 else e

section
variable {l : Lim} {x : St × Nat × Nat} {d : Ds}
theorem Core.wrong (h : Core l x d) : d.wrong = told x.2.2 := by
  unfold told
  rcases h with ⟨h1, _, h3⟩ | ⟨h1, _, h3⟩ | ⟨h1, h2, _, _, _, h6, _⟩
  · rw [h1, if_pos rfl]; exact h3.wrong
  · rw [h1, if_neg (by decide)]; exact h3.wrong
  · rw [if_neg h2]; exact h6
theorem Core.done (h : Core l x d) : (d.wh = 13 ↔ x.2.2 = 0) := by
  rcases h with ⟨h1, h2, h3⟩ | ⟨h1, h2, h3⟩ | ⟨h1, h2, _, _, h5, _⟩
  · have := h3.wh
    have hp := h3.place
    split at this
    · split at this <;> omega
    · omega
  · have := h3.wh
    rw [h2] at this
    simp at this
    omega
  · omega
theorem Core.left (h : Core l x d) : (if d.wh = 5 then d.left else 0) = if x.1.place = 3 then x.1.n else 0 := by
  rcases h with ⟨h1, h2, h3⟩ | ⟨h1, h2, h3⟩ | ⟨h1, h2, _, h4, h5, _⟩
  · have := h3.wh
    by_cases hp : x.1.place = 3
    · rw [if_neg (by omega)] at this
      rw [if_pos (by omega), if_pos hp]
      exact h3.left
    · rw [if_neg hp, if_neg]
      split at this
      · split at this <;> omega
      · omega
  · have := h3.wh
    rw [if_neg (by omega)] at this
    rw [if_neg (by omega), if_neg (by omega)]
  · rw [if_neg (by omega), if_neg h4]
theorem Core.fields (h : Core l x d) : (if d.wh = 13 then d.fields else []) = if x.2.2 = 0 then x.1.fields else [] := by
  by_cases h0 : x.2.2 = 0
  · rw [if_pos (h.done.2 h0), if_pos h0]
    rcases h with ⟨h1, h2, h3⟩ | ⟨h1, h2, h3⟩ | ⟨h1, h2, _⟩
    · omega
    · exact h3.fields
    · exact absurd h0 h1
  · rw [if_neg (fun h' => h0 (h.done.1 h')), if_neg h0]
end

/-- The place where no byte is taken. -/
theorem Core.stop {l : Lim} {x : St × Nat × Nat} {d : Ds} (h : Core l x d) : (d.wh = 0 ∨ d.wh = 13) ↔ x.2.2 ≠ 4 := by
  rcases h with ⟨h1, h2, h3⟩ | ⟨h1, h2, h3⟩ | ⟨h1, h2, _, h4, h5, _⟩
  · have := h3.wh
    have hp := h3.place
    split at this
    · split at this <;> omega
    · omega
  · have := h3.wh
    rw [if_neg (by omega)] at this
    omega
  · omega
/-- A place takes a byte. -/
theorem Core.take {l : Lim} {s : St} {i : Nat} {d : Ds} (h : Core l (s, i, 4) d) (h3 : s.place ≠ 3) (c : UInt8) :
    ((takeD l c d).1 ≠ 0 → ∃ x, Core l x (stood (takeD l c d)) ∧ x.2.1 = i + 1 ∧ x.1.data = s.data ∧ ∀ r, cont l (s, i, 4) (c :: r) = cont l x r) ∧
    ((takeD l c d).1 = 0 → ∃ x, Core l x (stood (takeD l c d)) ∧ x.2.1 = i ∧ x.1.data = s.data ∧ x.2.2 ≠ 4 ∧ ∀ r, cont l (s, i, 4) (c :: r) = x) ∧
    (takeD l c d).2.taken = d.taken ∧ (takeD l c d).2.given = d.given := by
  obtain ⟨-, hp, hs⟩ : (4 : Nat) = 4 ∧ s.place ≠ 11 ∧ Sim l s d := by
    rcases h with h | h | h
    · exact h
    · exact absurd h.1 (by simp)
    · exact absurd rfl h.2.1
  obtain ⟨k1, k2⟩ := sim_step c hs h3 hp
  by_cases he : er l s c = 0
  · obtain ⟨q1, q2, q3, q4, q5⟩ := k1 he
    refine ⟨fun _ => ?_, fun h0 => absurd h0 q2, q4, q5⟩
    by_cases h11 : (nxt s c).place = 11
    · exact ⟨(nxt s c, i + 1, 0), .inr (.inl ⟨rfl, h11, q1⟩), rfl, q3, fun r => by rw [cont_go, go_last he rfl h11]; rfl⟩
    · exact ⟨(nxt s c, i + 1, 4), .inl ⟨rfl, h11, q1⟩, rfl, q3, fun r => by rw [cont_go, go_step he rfl h11]; rfl⟩
  · obtain ⟨q1, q2, q3, q4, q5, q6⟩ := k2 he
    refine ⟨fun h0 => absurd q1 h0, fun _ => ?_, q3, q4⟩
    exact ⟨(s, i, er l s c), .inr (.inr ⟨he, er_four l s c, er_le l s c, h3, q1, q2, q5, q6⟩), rfl, rfl, er_four l s c, fun r => by rw [cont_go, go_bad rfl he]⟩
/-- A run of data is taken. -/
def ranD (m : Nat) (d : Ds) : Ds := { d with left := d.left - m, wh := if d.left - m = 0 then 6 else d.wh }
theorem Core.run {l : Lim} {s : St} {i : Nat} {d : Ds} (h : Core l (s, i, 4) d) (h3 : s.place = 3) (b : List UInt8) (hb : b ≠ []) :
    ∃ m x, m = min d.left b.length ∧ 0 < m ∧ Core l x (ranD m d) ∧ x.2.1 = i + m ∧ x.1.data = s.data ++ b.take m ∧ cont l (s, i, 4) b = cont l x (b.drop m) := by
  obtain ⟨-, hp, hs⟩ : (4 : Nat) = 4 ∧ s.place ≠ 11 ∧ Sim l s d := by
    rcases h with h | h | h
    · exact h
    · exact absurd h.1 (by simp)
    · exact absurd rfl h.2.1
  have hn := hs.n3 h3
  have hl := hs.left
  have hbl : 0 < b.length := List.length_pos_iff.2 hb
  obtain ⟨m, hm⟩ : ∃ m, m = min d.left b.length := ⟨_, rfl⟩
  have hml : (b.take m).length = m := by simp; omega
  refine ⟨m, ({ s with data := s.data ++ b.take m, n := s.n - m, place := if s.n - m = 0 then 4 else 3 }, i + m, 4), hm, by omega, ?_, rfl, rfl, ?_⟩
  · refine .inl ⟨rfl, by simp only; split <;> decide, ?_⟩
    obtain ⟨p, n, k, li, si, tx, D, fs⟩ := s
    obtain ⟨wh, wr, dg, lf', ex, by', ln, ff, ta, gi⟩ := d
    simp only at h3 hn hl hm hs ⊢
    subst h3
    subst hl
    obtain ⟨a1, a2, a3, a4, a5, a6, a7, a8, a9, a10, a11, a12, a13, a14, a15, a16, a17, a18, a19, a20, a21, a22, a23⟩ := hs
    simp only at a1 a2 a3 a4 a5 a6 a7 a8 a9 a10 a11 a12 a13 a14 a15 a16 a17 a18 a19 a20 a21 a22 a23
    have e1 := a5 (by decide)
    have e2 := a8 (by decide)
    have e3 := a18 (by decide)
    simp at a2
    by_cases h0 : lf' - m = 0
    · simp only [ranD, if_pos h0]
      constructor <;> simp <;> first | assumption | omega
    · simp only [ranD, if_neg h0]
      constructor <;> simp <;> first | assumption | omega
  · rw [cont_go, cont_go]
    conv => lhs; rw [← List.take_append_drop m b]
    rw [go_run l (b.take m) (b.drop m) s i h3 (by intro h0; rw [h0] at hml; simp at hml; omega) (by omega), hml]

/-- A decoder without input. -/
def d0 : Ds := ⟨1, 0, 0, 0, 0, 0, [], [], 0, 0⟩
theorem hold_new (l : Lim) : Hold l (sz [] 0 0, 0, 4) d0 := by
  refine ⟨.inl ⟨rfl, by decide, ?_⟩, rfl, rfl, Nat.le_refl _⟩
  constructor <;> simp [sz, d0]
theorem Core.end_le {l : Lim} {x : St × Nat × Nat} {d : Ds} (h : Core l x d) : x.2.2 ≤ 5 := by
  rcases h with ⟨h1, _⟩ | ⟨h1, _⟩ | ⟨_, _, h3, _⟩ <;> omega

end Dk
end Go.Proofs.YtjkccacpffikbaaGreatDoor
