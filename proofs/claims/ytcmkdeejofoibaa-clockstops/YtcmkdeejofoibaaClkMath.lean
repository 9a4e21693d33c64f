/- Plain words for layer 15: a clock is a time and a list of timers in order. -/
import Derived.WalkKit
namespace Go.Proofs.Ytcmkdeejofoibaa
namespace Ck
set_option linter.unusedVariables false
set_option maxRecDepth 100000

/-- A timer: its number, the time at which it is due. -/
structure Tm where
  id : Int
  due : Int
structure Cs where
  now : Int
  l : List Tm
/-- Is t told ahead of x? -/
def lt (t x : Tm) : Bool := decide (t.due < x.due) || decide (t.due = x.due) && decide (t.id < x.id)
def wo (l : List Tm) (id : Int) : List Tm := l.filter fun t => !(t.id == id)
def has (l : List Tm) (id : Int) : Bool := l.any fun t => t.id == id
def ins (t : Tm) : List Tm → List Tm
  | [] => [t]
  | x :: xs => if lt t x = true then t :: x :: xs else x :: ins t xs
/-- What each call leaves, and tells. -/
def badN (n lo : Int) : Bool := decide (n < lo) || decide (1073741824 < n)
def setC (c : Cs) (id n : Int) : Cs := if badN n 1 = true then c else ⟨c.now, ins ⟨id, c.now + n⟩ (wo c.l id)⟩
def setE (n : Int) : Int := if badN n 1 = true then 1 else 0
def clearC (c : Cs) (id : Int) : Cs := if has c.l id = true then ⟨c.now, wo c.l id⟩ else c
def clearE (c : Cs) (id : Int) : Int := if has c.l id = true then 0 else 7
def advC (c : Cs) (n : Int) : Cs := if badN n 0 = true then c else ⟨c.now + n, c.l.filter fun t => decide (c.now + n < t.due)⟩
def advE (n : Int) : Int := if badN n 0 = true then 1 else 0
def advL (c : Cs) (n : Int) : List Int := if badN n 0 = true then [] else (c.l.filter fun t => decide (t.due ≤ c.now + n)).map Tm.id
def leftF (now : Int) : List Tm → Int → Int × Bool
  | [], _ => (0, false)
  | t :: ts, id => if t.id == id then (t.due - now, true) else leftF now ts id
def leftC (c : Cs) (id : Int) : Int × Bool := leftF c.now c.l id

/-- In order, each number once. -/
structure Ok (c : Cs) : Prop where
  ord : c.l.Pairwise fun a b => lt a b = true
  ids : c.l.Pairwise fun a b => a.id ≠ b.id

theorem lt_due {a b : Tm} (h : lt a b = true) : a.due ≤ b.due := by
  unfold lt at h
  simp at h
  omega
theorem lt_trans {a b c : Tm} (h : lt a b = true) (g : lt b c = true) : lt a c = true := by
  unfold lt at *
  simp at *
  omega
theorem lt_total {a b : Tm} (h : lt a b = false) (hi : a.id ≠ b.id) : lt b a = true := by
  unfold lt at *
  simp at *
  omega
theorem wo_sub (l : List Tm) (id : Int) : (wo l id).Sublist l := List.filter_sublist
theorem wo_none (l : List Tm) (id : Int) : ∀ t ∈ wo l id, t.id ≠ id := fun t ht => by
  unfold wo at ht
  simp at ht
  exact ht.2
theorem wo_len (l : List Tm) (id : Int) : (wo l id).length ≤ l.length := (wo_sub l id).length_le
theorem ins_mem {t x : Tm} {l : List Tm} (h : x ∈ ins t l) : x = t ∨ x ∈ l := by
  induction l with
  | nil => simp [ins] at h; exact .inl h
  | cons y ys ih =>
    unfold ins at h
    split at h
    · simpa using h
    · rcases List.mem_cons.1 h with rfl | h
      · exact .inr List.mem_cons_self
      · rcases ih h with rfl | h
        · exact .inl rfl
        · exact .inr (List.mem_cons_of_mem _ h)
theorem ins_len (t : Tm) (l : List Tm) : (ins t l).length = l.length + 1 := by
  induction l with
  | nil => rfl
  | cons y ys ih =>
    unfold ins
    split
    · rfl
    · simp [ih]
theorem ins_ord {t : Tm} {l : List Tm} (h : l.Pairwise fun a b => lt a b = true) (hi : ∀ x ∈ l, x.id ≠ t.id) : (ins t l).Pairwise fun a b => lt a b = true := by
  induction l with
  | nil => exact List.pairwise_cons.2 ⟨fun x hx => by simp at hx, List.Pairwise.nil⟩
  | cons y ys ih =>
    obtain ⟨h1, h2⟩ := List.pairwise_cons.1 h
    unfold ins
    cases hl : lt t y with
    | true =>
      rw [if_pos rfl]
      refine List.pairwise_cons.2 ⟨fun x hx => ?_, h⟩
      rcases List.mem_cons.1 hx with rfl | hx
      · exact hl
      · exact lt_trans hl (h1 x hx)
    | false =>
      rw [if_neg (by decide)]
      refine List.pairwise_cons.2 ⟨fun x hx => ?_, ih h2 fun x hx => hi x (List.mem_cons_of_mem _ hx)⟩
      rcases ins_mem hx with rfl | hx
      · exact lt_total hl (Ne.symm (hi y List.mem_cons_self))
      · exact h1 x hx
theorem ins_ids {t : Tm} {l : List Tm} (h : l.Pairwise fun a b => a.id ≠ b.id) (hi : ∀ x ∈ l, x.id ≠ t.id) : (ins t l).Pairwise fun a b => a.id ≠ b.id := by
  induction l with
  | nil => exact List.pairwise_cons.2 ⟨fun x hx => by simp at hx, List.Pairwise.nil⟩
  | cons y ys ih =>
    obtain ⟨h1, h2⟩ := List.pairwise_cons.1 h
    unfold ins
    split
    · exact List.pairwise_cons.2 ⟨fun x hx => Ne.symm (hi x hx), h⟩
    · refine List.pairwise_cons.2 ⟨fun x hx => ?_, ih h2 fun x hx => hi x (List.mem_cons_of_mem _ hx)⟩
      rcases ins_mem hx with rfl | hx
      · exact hi y List.mem_cons_self
      · exact h1 x hx
theorem set_ok {c : Cs} (h : Ok c) (id n : Int) : Ok (setC c id n) := by
  unfold setC
  split
  · exact h
  · exact ⟨ins_ord (h.ord.sublist (wo_sub _ _)) (wo_none _ _), ins_ids (h.ids.sublist (wo_sub _ _)) (wo_none _ _)⟩
theorem clear_ok {c : Cs} (h : Ok c) (id : Int) : Ok (clearC c id) := by
  unfold clearC
  split
  · exact ⟨h.ord.sublist (wo_sub _ _), h.ids.sublist (wo_sub _ _)⟩
  · exact h
theorem adv_ok {c : Cs} (h : Ok c) (n : Int) : Ok (advC c n) := by
  unfold advC
  split
  · exact h
  · exact ⟨h.ord.sublist List.filter_sublist, h.ids.sublist List.filter_sublist⟩
theorem set_len (c : Cs) (id n : Int) : (setC c id n).l.length ≤ c.l.length + 1 := by
  unfold setC
  split
  · omega
  · rw [ins_len]
    have := wo_len c.l id
    omega
theorem clear_len (c : Cs) (id : Int) : (clearC c id).l.length ≤ c.l.length := by
  unfold clearC
  split
  · exact wo_len c.l id
  · exact Nat.le_refl _
theorem adv_len (c : Cs) (n : Int) : (advC c n).l.length ≤ c.l.length := by
  unfold advC
  split
  · exact Nat.le_refl _
  · exact List.length_filter_le _ _

/-- Of an ordered list what is due by a and then what is due by b, is what is due by b. -/
theorem due_split {l : List Tm} (h : l.Pairwise fun a b => lt a b = true) (a b : Int) (hab : a ≤ b) :
    (l.filter fun t => decide (t.due ≤ a)) ++ ((l.filter fun t => decide (a < t.due)).filter fun t => decide (t.due ≤ b)) = l.filter fun t => decide (t.due ≤ b) := by
  induction l with
  | nil => rfl
  | cons t ts ih =>
    obtain ⟨h1, h2⟩ := List.pairwise_cons.1 h
    by_cases hd : t.due ≤ a
    · have k1 : decide (t.due ≤ a) = true := decide_eq_true hd
      have k2 : decide (a < t.due) = false := decide_eq_false (by omega)
      have k3 : decide (t.due ≤ b) = true := decide_eq_true (by omega)
      rw [List.filter_cons_of_pos (by exact k1), List.filter_cons_of_neg (by rw [k2]; decide), List.filter_cons_of_pos (by exact k3), List.cons_append, ih h2]
    · have k0 : ∀ x ∈ t :: ts, ¬ x.due ≤ a := fun x hx => by
        rcases List.mem_cons.1 hx with rfl | hx
        · exact hd
        · have := lt_due (h1 x hx); omega
      have e1 : (t :: ts).filter (fun t => decide (t.due ≤ a)) = [] := List.filter_eq_nil_iff.2 fun x hx => by simpa using k0 x hx
      have e2 : (t :: ts).filter (fun t => decide (a < t.due)) = t :: ts := List.filter_eq_self.2 fun x hx => by have := k0 x hx; simp; omega
      rw [e1, e2, List.nil_append]
/-- Time in two parts. -/
theorem adv_split {c : Cs} (h : Ok c) {a b : Int} (ha : badN a 0 = false) (hb : badN b 0 = false) (hab : badN (a + b) 0 = false) :
    advL c a ++ advL (advC c a) b = advL c (a + b) ∧ (advC (advC c a) b).now = (advC c (a + b)).now := by
  unfold advL advC
  rw [ha, hb, hab]
  simp only [Bool.false_eq_true, if_false]
  have ha0 : 0 ≤ b := by unfold badN at hb; simp at hb; omega
  refine ⟨?_, by omega⟩
  have := due_split h.ord (c.now + a) (c.now + a + b) (by omega)
  rw [← List.map_append, this, Int.add_assoc]
end Ck
end Go.Proofs.Ytcmkdeejofoibaa
