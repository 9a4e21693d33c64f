/- Plain words for layer 12: what an intake holds, as the program has it and as the document has it. -/
import Derived.Test.YtjkccacpffikbaaGreatDoorDecGo
namespace Go.Proofs.YtjkccacpffikbaaGreatDoor
namespace Ik
open Oc Fl Bk Hx Bd Dk

/-- What takes the bytes of one framing. -/
inductive Kd where
  | fix (left count : Nat)
  | unt (closed : Bool) (count : Nat)
  | dec (l : Lim) (x : St × Nat × Nat)

def doneK : Kd → Bool
  | .fix n _ => decide (n = 0)
  | .unt b _ => b
  | .dec _ x => decide (x.2.2 = 0)
def takenK : Kd → Nat
  | .fix _ c => c
  | .unt _ c => c
  | .dec _ x => x.2.1
def givenK : Kd → Nat
  | .fix _ c => c
  | .unt _ c => c
  | .dec _ x => x.1.data.length
def fieldsK : Kd → List Fld
  | .dec _ x => if x.2.2 = 0 then x.1.fields else []
  | _ => []
def leftK : Kd → Nat
  | .fix n _ => n
  | _ => 4611686018427387903
def wantsK (k : Kd) (e : Nat) : Nat := if e ≠ 0 ∨ doneK k = true then 0 else leftK k
/-- A piece: what takes the bytes then, the data, how many bytes, what went wrong. -/
def nextK : Kd → List UInt8 → Kd
  | .fix n c, T => .fix (n - T.length) (c + min n T.length)
  | .unt b c, T => .unt b (if b = true then c else c + T.length)
  | .dec l x, T => .dec l (cont l x T)
def dataK : Kd → List UInt8 → List UInt8
  | .fix n _, T => T.take n
  | .unt b _, T => if b = true then [] else T
  | .dec l x, T => (cont l x T).1.data.drop x.1.data.length
def numK : Kd → List UInt8 → Nat
  | .fix n _, T => min n T.length
  | .unt b _, T => if b = true then 0 else T.length
  | .dec l x, T => (cont l x T).2.1 - x.2.1
def errK : Kd → List UInt8 → Nat
  | .dec l x, T => told (cont l x T).2.2
  | _, _ => 0
/-- The connection's end. -/
def shutK : Kd → Kd
  | .unt _ c => .unt true c
  | k => k
def shutE (k : Kd) (e : Nat) : Nat :=
  match k with
  | .unt _ _ => e
  | k => if e = 0 ∧ doneK k = false then 4 else e

/-- A framing that is right. -/
def rightF (k s : Int) : Bool := (decide (k = 0) || decide (k = 2) || decide (k = 3)) && decide (s = 0) || decide (k = 1) && decide (s ≤ 4611686018427387903)
def newK (kind size : Nat) (l : Lim) : Kd := if kind = 2 then .dec l (sz [] 0 0, 0, 4) else if kind = 3 then .unt false 0 else .fix size 0

/-- An intake of the document's. -/
structure Rf where
  kind : Nat
  size : Nat
  l : Lim
  A : List UInt8
  closed : Bool
  e : Nat
  g : Nat
def scan (r : Rf) : St × Nat × Nat := cont r.l (sz [] 0 0, 0, 4) r.A
def rdone (r : Rf) : Bool := decide (r.e = 0) && if r.kind = 1 then decide (r.A.length = r.size) else if r.kind = 2 then decide ((scan r).2.2 = 0) else if r.kind = 3 then r.closed else true
def rstop (r : Rf) : Bool := !(decide (r.e = 0)) || rdone r
def rnum (r : Rf) (T : List UInt8) : Nat :=
  if rstop r = true then 0 else if r.kind = 1 then min (r.size - r.A.length) T.length else if r.kind = 2 then (cont r.l (scan r) T).2.1 - r.A.length else T.length
def rdata (r : Rf) (T : List UInt8) : List UInt8 :=
  if rstop r = true then [] else if r.kind = 2 then (cont r.l (scan r) T).1.data.drop r.g else T.take (rnum r T)
def rerr (r : Rf) (T : List UInt8) : Nat := if rstop r = true then r.e else if r.kind = 2 then told (cont r.l (scan r) T).2.2 else 0
def rnext (r : Rf) (T : List UInt8) : Rf :=
  if rstop r = true then r else
  { r with A := r.A ++ T.take (rnum r T), g := if r.kind = 2 then (cont r.l (scan r) T).1.data.length else r.g + rnum r T, e := if r.kind = 2 then told (cont r.l (scan r) T).2.2 else r.e }
def rshut (r : Rf) : Rf := if rstop r = true then r else if r.kind = 3 then { r with closed := true } else { r with e := 4 }
def rfields (r : Rf) : List Fld := if r.kind = 2 ∧ rdone r = true then (scan r).1.fields else []
def rwants (r : Rf) : Nat := if rstop r = true then 0 else if r.kind = 1 then r.size - r.A.length else 4611686018427387903

/-- Both are alike. -/
def Like (r : Rf) : Kd → Prop
  | .fix n c => (r.kind = 0 ∨ r.kind = 1) ∧ c = r.A.length ∧ n + r.A.length = r.size ∧ r.g = r.A.length ∧ (r.e = 0 ∨ (r.e = 4 ∧ n ≠ 0)) ∧ (r.kind = 0 → r.size = 0) ∧ r.size ≤ 4611686018427387903
  | .unt b c => r.kind = 3 ∧ c = r.A.length ∧ r.g = r.A.length ∧ r.e = 0 ∧ r.closed = b
  | .dec l y => r.kind = 2 ∧ l = r.l ∧ r.A.length = y.2.1 ∧ r.g = y.1.data.length ∧ ((y.2.2 = 4 ∧ (r.e = 0 ∨ r.e = 4)) ∨ (y.2.2 = 0 ∧ r.e = 0) ∨ (y.2.2 ≠ 0 ∧ y.2.2 ≠ 4 ∧ r.e = y.2.2)) ∧ ((y.2.2 = 4 ∨ y.2.2 = 0) → scan r = y)

theorem like_done {r : Rf} {k : Kd} (h : Like r k) : rdone r = doneK k := by
  unfold rdone
  cases k with
  | fix n c =>
    obtain ⟨h1, h2, h3, h4, h5, h6, h7⟩ := h
    unfold doneK
    rw [Bool.eq_iff_iff]
    rcases h1 with h1 | h1
    · simp [h1]; have := h6 h1; omega
    · simp [h1]; omega
  | unt b c =>
    obtain ⟨h1, h2, h3, h4, h5⟩ := h
    simp [doneK, h1, h4, h5]
  | dec l y =>
    obtain ⟨h1, h2, h3, h4, h5, h6⟩ := h
    unfold doneK
    rw [Bool.eq_iff_iff]
    simp only [h1, Bool.and_eq_true, decide_eq_true_eq]
    simp
    constructor
    · rintro ⟨e0, hs⟩
      rcases h5 with h5 | h5 | h5
      · rw [h6 (.inl h5.1)] at hs; omega
      · exact h5.1
      · omega
    · intro hy
      rcases h5 with h5 | h5 | h5
      · omega
      · exact ⟨h5.2, by rw [h6 (.inr hy)]; exact hy⟩
      · omega
theorem like_taken {r : Rf} {k : Kd} (h : Like r k) : takenK k = r.A.length := by
  cases k with
  | fix n c => exact h.2.1
  | unt b c => exact h.2.1
  | dec l y => exact h.2.2.1.symm
theorem like_given {r : Rf} {k : Kd} (h : Like r k) : givenK k = r.g := by
  cases k with
  | fix n c => exact h.2.1.trans h.2.2.2.1.symm
  | unt b c => exact h.2.1.trans h.2.2.1.symm
  | dec l y => exact h.2.2.2.1.symm
theorem like_fields {r : Rf} {k : Kd} (h : Like r k) : rfields r = fieldsK k := by
  have hd := like_done h
  unfold rfields
  rw [hd]
  cases k with
  | fix n c =>
    obtain ⟨h1, _⟩ := h
    rw [if_neg (by omega)]; rfl
  | unt b c =>
    obtain ⟨h1, _⟩ := h
    rw [if_neg (by omega)]; rfl
  | dec l y =>
    obtain ⟨h1, h2, h3, h4, h5, h6⟩ := h
    show (if r.kind = 2 ∧ decide (y.2.2 = 0) = true then (scan r).1.fields else []) = if y.2.2 = 0 then y.1.fields else []
    by_cases hy : y.2.2 = 0
    · rw [if_pos ⟨h1, decide_eq_true hy⟩, if_pos hy, h6 (.inr hy)]
    · rw [if_neg (by simp [hy]), if_neg hy]
theorem like_wants {r : Rf} {k : Kd} (h : Like r k) : rwants r = wantsK k r.e := by
  have hd := like_done h
  unfold rwants rstop wantsK
  rw [hd]
  by_cases he : r.e = 0 ∧ doneK k = false
  · obtain ⟨e0, d0⟩ := he
    rw [if_neg (c := (!decide (r.e = 0) || doneK k) = true) (by rw [e0, d0]; decide), if_neg (c := r.e ≠ 0 ∨ doneK k = true) (by rw [e0, d0]; decide)]
    cases k with
    | fix n c =>
      obtain ⟨h1, h2, h3, h4, h5, h6, h7⟩ := h
      show (if r.kind = 1 then r.size - r.A.length else 4611686018427387903) = n
      rcases h1 with h1 | h1
      · have := h6 h1
        simp [doneK] at d0
        omega
      · rw [if_pos h1]; omega
    | unt b c =>
      have h1 : r.kind = 3 := h.1
      rw [if_neg (by omega)]; rfl
    | dec l y =>
      have h1 : r.kind = 2 := h.1
      rw [if_neg (by omega)]; rfl
  · have : r.e ≠ 0 ∨ doneK k = true := by
      by_cases e0 : r.e = 0
      · right
        cases hk : doneK k
        · exact absurd ⟨e0, hk⟩ he
        · rfl
      · exact .inl e0
    rw [if_pos this, if_pos (by rcases this with h | h <;> simp [h])]

/-- What has come to its end has come to it without what follows. -/
theorem go_stop (l : Lim) (x : List UInt8) : ∀ (s : St) (i : Nat), (go l s x i).2.2 = 0 → go l s (x.take ((go l s x i).2.1 - i)) i = go l s x i := by
  induction x with
  | nil => intro s i h; simp [go] at h
  | cons c r ih =>
    intro s i h
    by_cases he : er l s c = 0
    · by_cases hp : (nxt s c).place = 11
      · rw [go_last he rfl hp]
        rw [show (i + 1 - i) = 1 by omega, show (c :: r).take 1 = [c] from rfl, go_last he rfl hp]
      · rw [go_step he rfl hp] at h ⊢
        have h1 := (go_at l (nxt s c) r (i + 1)).1
        have h2 := ih (nxt s c) (i + 1) h
        rw [show (go l (nxt s c) r (i + 1)).2.1 - i = ((go l (nxt s c) r (i + 1)).2.1 - (i + 1)) + 1 by omega, List.take_succ_cons, go_step he rfl hp]
        exact h2
    · rw [go_bad rfl he] at h
      exact absurd h he
theorem cont_stop {l : Lim} {x : St × Nat × Nat} {T : List UInt8} (h4 : x.2.2 = 4) (h : (cont l x T).2.2 = 0 ∨ (cont l x T).2.2 = 4) : cont l x (T.take ((cont l x T).2.1 - x.2.1)) = cont l x T := by
  obtain ⟨s, i, e⟩ := x
  simp only at h4
  subst h4
  simp only [cont_go] at h ⊢
  rcases h with h | h
  · exact go_stop l T s i h
  · have := (go_at l s T i).2.2 h
    rw [this, show i + T.length - i = T.length by omega, List.take_length]
theorem cont_num {l : Lim} {x : St × Nat × Nat} {T : List UInt8} (h4 : x.2.2 = 4) : x.2.1 ≤ (cont l x T).2.1 ∧ (cont l x T).2.1 ≤ x.2.1 + T.length := by
  obtain ⟨s, i, e⟩ := x
  simp only at h4
  subst h4
  rw [cont_go]
  have := go_at l s T i
  exact ⟨this.1, this.2.1⟩

theorem done_next {k : Kd} (T : List UInt8) (h : doneK k = true) : nextK k T = k ∧ numK k T = 0 ∧ dataK k T = [] ∧ errK k T = 0 := by
  cases k with
  | fix n c =>
    obtain rfl : n = 0 := of_decide_eq_true h
    refine ⟨?_, ?_, ?_, rfl⟩
    · show Kd.fix (0 - T.length) (c + min 0 T.length) = _
      rw [Nat.zero_sub, Nat.zero_min, Nat.add_zero]
    · exact Nat.zero_min _
    · rfl
  | unt b c =>
    obtain rfl : b = true := h
    exact ⟨rfl, rfl, rfl, rfl⟩
  | dec l y =>
    have hy : y.2.2 = 0 := of_decide_eq_true h
    have hc := cont_end (l := l) (x := y) T (by omega)
    refine ⟨?_, ?_, ?_, ?_⟩
    · show Kd.dec l (cont l y T) = _
      rw [hc]
    · show (cont l y T).2.1 - y.2.1 = 0
      rw [hc]; omega
    · show (cont l y T).1.data.drop y.1.data.length = []
      rw [hc, List.drop_length]
    · show told (cont l y T).2.2 = 0
      rw [hc, hy]; rfl
theorem like_stop {r : Rf} {k : Kd} (h : Like r k) (he : r.e = 0) : rstop r = doneK k := by
  unfold rstop
  rw [like_done h, he]; rfl

/-- A piece leaves both alike, and both tell the same. -/
theorem like_put {r : Rf} {k : Kd} (T : List UInt8) (h : Like r k) (he : r.e = 0) :
    Like (rnext r T) (nextK k T) ∧ rnum r T = numK k T ∧ rdata r T = dataK k T ∧ rerr r T = errK k T ∧ (rnext r T).e = errK k T := by
  have hs := like_stop h he
  cases hd : doneK k with
  | true =>
    rw [hd] at hs
    obtain ⟨q1, q2, q3, q4⟩ := done_next T hd
    have e1 : rnext r T = r := by unfold rnext; rw [if_pos hs]
    have e2 : rnum r T = 0 := by unfold rnum; rw [if_pos hs]
    have e3 : rdata r T = [] := by unfold rdata; rw [if_pos hs]
    have e4 : rerr r T = r.e := by unfold rerr; rw [if_pos hs]
    rw [e1, e2, e3, e4, q1, q2, q3, q4]
    exact ⟨h, rfl, rfl, he, he⟩
  | false =>
    have hs' : ¬ rstop r = true := by rw [hs, hd]; decide
    cases k with
    | fix n c =>
      obtain ⟨h1, h2, h3, h4, h5, h6, h7⟩ := h
      have hn : n ≠ 0 := of_decide_eq_false hd
      have hk : r.kind = 1 := by
        rcases h1 with h1 | h1
        · have := h6 h1; omega
        · exact h1
      have hk2 : ¬ r.kind = 2 := by omega
      have hsz : r.size - r.A.length = n := by omega
      have en : rnum r T = min n T.length := by unfold rnum; rw [if_neg hs', if_pos hk, hsz]
      have e1 : rnext r T = { r with A := r.A ++ T.take (min n T.length), g := r.g + min n T.length, e := r.e } := by unfold rnext; rw [if_neg hs', if_neg hk2, if_neg hk2, en]
      have e3 : rdata r T = T.take (min n T.length) := by unfold rdata; rw [if_neg hs', if_neg hk2, en]
      have e4 : rerr r T = 0 := by unfold rerr; rw [if_neg hs', if_neg hk2]
      have ht : List.take (min n T.length) T = List.take n T := by
        rcases Nat.le_total n T.length with hle | hle
        · rw [Nat.min_eq_left hle]
        · rw [Nat.min_eq_right hle, List.take_length, List.take_of_length_le hle]
      rw [e1, en, e3, e4]
      refine ⟨⟨.inr hk, ?_, ?_, ?_, .inl he, fun h0 => h6 h0, h7⟩, rfl, ht, rfl, he⟩
      · show c + min n T.length = (r.A ++ List.take (min n T.length) T).length
        rw [List.length_append, List.length_take]; omega
      · show n - T.length + (r.A ++ List.take (min n T.length) T).length = r.size
        rw [List.length_append, List.length_take]; omega
      · show r.g + min n T.length = (r.A ++ List.take (min n T.length) T).length
        rw [List.length_append, List.length_take]; omega
    | unt b c =>
      obtain ⟨h1, h2, h3, h4, h5⟩ := h
      obtain rfl : b = false := hd
      have hk1 : ¬ r.kind = 1 := by omega
      have hk2 : ¬ r.kind = 2 := by omega
      have en : rnum r T = T.length := by unfold rnum; rw [if_neg hs', if_neg hk1, if_neg hk2]
      have e1 : rnext r T = { r with A := r.A ++ T.take T.length, g := r.g + T.length, e := r.e } := by unfold rnext; rw [if_neg hs', if_neg hk2, if_neg hk2, en]
      have e3 : rdata r T = T.take T.length := by unfold rdata; rw [if_neg hs', if_neg hk2, en]
      have e4 : rerr r T = 0 := by unfold rerr; rw [if_neg hs', if_neg hk2]
      rw [e1, en, e3, e4, List.take_length]
      refine ⟨⟨h1, ?_, ?_, h4, h5⟩, rfl, rfl, rfl, he⟩
      · show c + T.length = (r.A ++ T).length
        rw [List.length_append]; omega
      · show r.g + T.length = (r.A ++ T).length
        rw [List.length_append]; omega
    | dec l y =>
      obtain ⟨h1, h2, h3, h4, h5, h6⟩ := h
      subst h2
      have hy : y.2.2 ≠ 0 := of_decide_eq_false hd
      have hy4 : y.2.2 = 4 := by omega
      have hsc := h6 (.inl hy4)
      have hk1 : ¬ r.kind = 1 := by omega
      have hle := cont_num (l := r.l) (T := T) hy4
      have en : rnum r T = (cont r.l y T).2.1 - y.2.1 := by unfold rnum; rw [if_neg hs', if_neg hk1, if_pos h1, hsc, h3]
      have e1 : rnext r T = { r with A := r.A ++ T.take ((cont r.l y T).2.1 - y.2.1), g := (cont r.l y T).1.data.length, e := told (cont r.l y T).2.2 } := by unfold rnext; rw [if_neg hs', if_pos h1, if_pos h1, en, hsc]
      have e3 : rdata r T = (cont r.l y T).1.data.drop y.1.data.length := by unfold rdata; rw [if_neg hs', if_pos h1, hsc, h4]
      have e4 : rerr r T = told (cont r.l y T).2.2 := by unfold rerr; rw [if_neg hs', if_pos h1, hsc]
      rw [e1, en, e3, e4]
      refine ⟨⟨h1, rfl, ?_, rfl, ?_, fun hq => ?_⟩, rfl, rfl, rfl, rfl⟩
      · show (r.A ++ T.take ((cont r.l y T).2.1 - y.2.1)).length = (cont r.l y T).2.1
        rw [List.length_append, List.length_take]; omega
      · show ((cont r.l y T).2.2 = 4 ∧ (told (cont r.l y T).2.2 = 0 ∨ told (cont r.l y T).2.2 = 4)) ∨ ((cont r.l y T).2.2 = 0 ∧ told (cont r.l y T).2.2 = 0) ∨ ((cont r.l y T).2.2 ≠ 0 ∧ (cont r.l y T).2.2 ≠ 4 ∧ told (cont r.l y T).2.2 = (cont r.l y T).2.2)
        unfold told
        by_cases e4 : (cont r.l y T).2.2 = 4
        · exact .inl ⟨e4, .inl (if_pos e4)⟩
        · rw [if_neg e4]
          by_cases e0 : (cont r.l y T).2.2 = 0
          · exact .inr (.inl ⟨e0, e0⟩)
          · exact .inr (.inr ⟨e0, e4, rfl⟩)
      · show cont r.l (sz [] 0 0, 0, 4) (r.A ++ T.take ((cont r.l y T).2.1 - y.2.1)) = cont r.l y T
        unfold scan at hsc
        rw [cont_app, hsc]
        exact cont_stop hy4 hq.symm
theorem like_put_no {r : Rf} (T : List UInt8) (he : r.e ≠ 0) : rnext r T = r ∧ rnum r T = 0 ∧ rdata r T = [] ∧ rerr r T = r.e := by
  have hs : rstop r = true := by unfold rstop; rw [decide_eq_false he]; rfl
  exact ⟨by unfold rnext; rw [if_pos hs], by unfold rnum; rw [if_pos hs], by unfold rdata; rw [if_pos hs], by unfold rerr; rw [if_pos hs]⟩
theorem like_shut {r : Rf} {k : Kd} (h : Like r k) : Like (rshut r) (shutK k) ∧ (rshut r).e = shutE k r.e := by
  have hd := like_done h
  by_cases hx : r.e = 0 ∧ doneK k = false
  · obtain ⟨he, hf⟩ := hx
    have hs' : ¬ rstop r = true := by rw [like_stop h he, hf]; decide
    cases k with
    | fix n c =>
      obtain ⟨h1, h2, h3, h4, h5, h6, h7⟩ := h
      have hn : n ≠ 0 := of_decide_eq_false hf
      have e1 : rshut r = { r with e := 4 } := by unfold rshut; rw [if_neg hs', if_neg (by omega)]
      rw [e1]
      refine ⟨⟨h1, h2, h3, h4, .inr ⟨rfl, hn⟩, h6, h7⟩, ?_⟩
      show 4 = if r.e = 0 ∧ doneK (.fix n c) = false then 4 else r.e
      rw [if_pos ⟨he, hf⟩]
    | unt b c =>
      obtain ⟨h1, h2, h3, h4, h5⟩ := h
      have e1 : rshut r = { r with closed := true } := by unfold rshut; rw [if_neg hs', if_pos h1]
      rw [e1]
      exact ⟨⟨h1, h2, h3, h4, rfl⟩, rfl⟩
    | dec l y =>
      obtain ⟨h1, h2, h3, h4, h5, h6⟩ := h
      have hy : y.2.2 ≠ 0 := of_decide_eq_false hf
      have e1 : rshut r = { r with e := 4 } := by unfold rshut; rw [if_neg hs', if_neg (by omega)]
      rw [e1]
      refine ⟨⟨h1, h2, h3, h4, .inl ⟨by omega, .inr rfl⟩, h6⟩, ?_⟩
      show 4 = if r.e = 0 ∧ doneK (.dec l y) = false then 4 else r.e
      rw [if_pos ⟨he, hf⟩]
  · have hs : rstop r = true := by
      unfold rstop
      rw [hd]
      cases hk : doneK k
      · rw [decide_eq_false (fun e => hx ⟨e, hk⟩)]; rfl
      · exact Bool.or_true _
    have e1 : rshut r = r := by unfold rshut; rw [if_pos hs]
    rw [e1]
    cases k with
    | fix n c =>
      refine ⟨h, ?_⟩
      show r.e = if r.e = 0 ∧ doneK (.fix n c) = false then 4 else r.e
      rw [if_neg hx]
    | unt b c =>
      obtain ⟨h1, h2, h3, h4, h5⟩ := h
      have hb : b = true := by
        cases b
        · exact absurd ⟨h4, rfl⟩ hx
        · rfl
      subst hb
      exact ⟨⟨h1, h2, h3, h4, h5⟩, rfl⟩
    | dec l y =>
      refine ⟨h, ?_⟩
      show r.e = if r.e = 0 ∧ doneK (.dec l y) = false then 4 else r.e
      rw [if_neg hx]
theorem like_new (kind size : Nat) (l : Lim) (h : kind ≤ 3) (hs : kind ≠ 1 → size = 0) (hb : size ≤ 4611686018427387903) : Like ⟨kind, size, l, [], false, 0, 0⟩ (newK kind size l) := by
  unfold newK
  by_cases h2 : kind = 2
  · rw [if_pos h2]
    exact ⟨h2, rfl, rfl, rfl, .inl ⟨rfl, .inl rfl⟩, fun _ => cont_nil _ _⟩
  · rw [if_neg h2]
    by_cases h3 : kind = 3
    · rw [if_pos h3]
      exact ⟨h3, rfl, rfl, rfl, rfl⟩
    · rw [if_neg h3]
      exact ⟨by simp only; omega, rfl, rfl, rfl, .inl rfl, fun h => hs (by simp only at h; omega), hb⟩

end Ik
end Go.Proofs.YtjkccacpffikbaaGreatDoor
