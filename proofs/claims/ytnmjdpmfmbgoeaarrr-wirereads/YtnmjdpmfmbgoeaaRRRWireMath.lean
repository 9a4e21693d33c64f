/- Plain words for layer 16: what a source's Read answers, and what it is then; that all its bytes come out in order. -/
import Derived.Lib.Hide
namespace Go.Proofs.YtnmjdpmfmbgoeaaRRR
namespace Wr

/-- A source: what is left of its pieces, whether the first one was begun, its end, how many bytes were handed out, whether it is shut. -/
structure Sr where
  A : List (List UInt8)
  bg : Bool
  e : Int
  r : Nat
  sh : Bool
/-- What is left of pieces, of the first of which b bytes were handed out. -/
def vw : List (List UInt8) → Nat → List (List UInt8)
  | [], _ => []
  | x :: t, b => x.drop b :: t
def Fits : List (List UInt8) → Nat → Prop
  | [], b => b = 0
  | x :: _, b => b ≤ x.length
/-- What is told behind the last piece. -/
def endE (e : Int) : Int := if e = 1 then 7 else if e = 2 then 9 else 0
/-- A first piece that was handed out in full is let go. -/
def pop (x : Sr) : Sr :=
  match x.A, x.bg with
  | [] :: t, true => ⟨t, false, x.e, x.r, x.sh⟩
  | _, _ => x
/-- The next piece, of which n bytes are asked for. -/
def nxt (x : Sr) (n : Nat) : Sr × List UInt8 × Int :=
  match x.A with
  | [] => (x, [], endE x.e)
  | [] :: t => (⟨t, x.bg, x.e, x.r, x.sh⟩, [], 0)
  | (c :: p) :: t => (⟨(c :: p).drop n :: t, true, x.e, x.r + ((c :: p).take n).length, x.sh⟩, (c :: p).take n, 0)
def rd (x : Sr) (n : Int) : Sr × List UInt8 × Int :=
  if n < 1 then (x, [], 1) else if x.sh then (x, [], 8) else nxt (pop x) n.toNat
def shut (x : Sr) : Sr := ⟨x.A, x.bg, x.e, x.r, true⟩

theorem rd_low {x : Sr} {n : Int} (h : n < 1) : rd x n = (x, [], 1) := by unfold rd; rw [if_pos h]
theorem rd_shut {x : Sr} {n : Int} (h : ¬ n < 1) (hs : x.sh = true) : rd x n = (x, [], 8) := by unfold rd; rw [if_neg h, hs]; rfl
theorem rd_next {x : Sr} {n : Int} (h : ¬ n < 1) (hs : x.sh = false) : rd x n = nxt (pop x) n.toNat := by unfold rd; rw [if_neg h, hs]; rfl
theorem pop_new (x : Sr) (h : x.bg = false) : pop x = x := by
  obtain ⟨A, bg, e, r, sh⟩ := x
  cases h
  unfold pop
  rcases A with _ | ⟨_ | ⟨c, p⟩, t⟩ <;> rfl
theorem pop_cons (c : UInt8) (p : List UInt8) (t : List (List UInt8)) (bg : Bool) (e : Int) (r : Nat) (sh : Bool) : pop ⟨(c :: p) :: t, bg, e, r, sh⟩ = ⟨(c :: p) :: t, bg, e, r, sh⟩ := by cases bg <;> rfl
theorem pop_nil (bg : Bool) (e : Int) (r : Nat) (sh : Bool) : pop ⟨[], bg, e, r, sh⟩ = ⟨[], bg, e, r, sh⟩ := by cases bg <;> rfl

theorem pop_some {y : List UInt8} (hy : y ≠ []) (t : List (List UInt8)) (bg : Bool) (e : Int) (r : Nat) (sh : Bool) : pop ⟨y :: t, bg, e, r, sh⟩ = ⟨y :: t, bg, e, r, sh⟩ := by
  cases y with
  | nil => exact absurd rfl hy
  | cons c p => exact pop_cons c p t bg e r sh
theorem nxt_some {y : List UInt8} (hy : y ≠ []) (t : List (List UInt8)) (bg : Bool) (e : Int) (r : Nat) (sh : Bool) (n : Nat) : nxt ⟨y :: t, bg, e, r, sh⟩ n = (⟨y.drop n :: t, true, e, r + (y.take n).length, sh⟩, y.take n, 0) := by
  cases y with
  | nil => exact absurd rfl hy
  | cons c p => rfl
theorem take_k (y : List UInt8) {n k : Nat} (h : k = min n y.length) : y.take n = y.take k ∧ y.drop n = y.drop k := by
  subst h
  by_cases hn : n ≤ y.length
  · rw [Nat.min_eq_left hn]; exact ⟨rfl, rfl⟩
  · rw [Nat.min_eq_right (by omega), List.take_length, List.drop_length]
    exact ⟨List.take_of_length_le (by omega), List.drop_eq_nil_of_le (by omega)⟩

/-- The bytes that are left, and how many reads they bear. -/
def left (x : Sr) : List UInt8 := x.A.flatten
def wgt : List (List UInt8) → Nat
  | [] => 0
  | x :: t => x.length + 1 + wgt t
theorem pop_left (x : Sr) : left (pop x) = left x ∧ (pop x).r = x.r ∧ (pop x).e = x.e ∧ (pop x).sh = x.sh ∧ wgt (pop x).A ≤ wgt x.A := by
  obtain ⟨A, bg, e, r, sh⟩ := x
  unfold pop
  rcases A with _ | ⟨_ | ⟨c, p⟩, t⟩ <;> cases bg <;> simp [left, wgt] <;> omega
theorem nxt_left (x : Sr) (n : Nat) : (nxt x n).2.1 ++ left (nxt x n).1 = left x ∧ (nxt x n).1.r = x.r + (nxt x n).2.1.length ∧ (nxt x n).1.e = x.e ∧ (nxt x n).1.sh = x.sh := by
  obtain ⟨A, bg, e, r, sh⟩ := x
  unfold nxt
  rcases A with _ | ⟨_ | ⟨c, p⟩, t⟩
  · simp [left]
  · simp [left]
  · refine ⟨?_, rfl, rfl, rfl⟩
    show (c :: p).take n ++ ((c :: p).drop n ++ t.flatten) = (c :: p) ++ t.flatten
    rw [← List.append_assoc, List.take_append_drop]
theorem rd_left (x : Sr) (n : Int) : (rd x n).2.1 ++ left (rd x n).1 = left x ∧ (rd x n).1.r = x.r + (rd x n).2.1.length ∧ (rd x n).1.e = x.e ∧ (rd x n).1.sh = x.sh := by
  unfold rd
  split
  · simp
  · split
    · simp
    · obtain ⟨h1, h2, h3, h4, h5⟩ := pop_left x
      obtain ⟨g1, g2, g3, g4⟩ := nxt_left (pop x) n.toNat
      exact ⟨g1.trans h1, by rw [g2, h2], g3.trans h3, g4.trans h4⟩
/-- Each read of a source that isn't shut takes some of it, or tells its end. -/
theorem nxt_wgt (x : Sr) (n : Nat) (hn : 1 ≤ n) (he : x.e = 1) : ((nxt x n).2.2 = 7 ∧ left (nxt x n).1 = [] ∧ left x = []) ∨ ((nxt x n).2.2 = 0 ∧ wgt (nxt x n).1.A + 1 ≤ wgt x.A) := by
  obtain ⟨A, bg, e, r, sh⟩ := x
  cases he
  unfold nxt
  rcases A with _ | ⟨_ | ⟨c, p⟩, t⟩
  · left; simp [left, endE]
  · right; simp [wgt]; omega
  · right
    refine ⟨rfl, ?_⟩
    show ((c :: p).drop n).length + 1 + wgt t + 1 ≤ (c :: p).length + 1 + wgt t
    rw [List.length_drop, List.length_cons]
    omega
theorem rd_wgt (x : Sr) (n : Int) (hn : 1 ≤ n) (he : x.e = 1) (hs : x.sh = false) : ((rd x n).2.2 = 7 ∧ left x = []) ∨ ((rd x n).2.2 = 0 ∧ wgt (rd x n).1.A + 1 ≤ wgt x.A) := by
  rw [rd_next (by omega) hs]
  obtain ⟨h1, h2, h3, h4, h5⟩ := pop_left x
  rcases nxt_wgt (pop x) n.toNat (by omega) (h3.trans he) with ⟨g1, g2, g3⟩ | ⟨g1, g2⟩
  · exact .inl ⟨g1, h1 ▸ g3⟩
  · exact .inr ⟨g1, by omega⟩
/-- Pieces as the statements weigh them. -/
theorem wgt_take {L : List (List UInt8)} {j : Nat} {x : List UInt8} (h : L[j]? = some x) : wgt (L.take (j + 1)) = wgt (L.take j) + (x.length + 1) := by
  induction L generalizing j with
  | nil => simp at h
  | cons y L ih =>
    cases j with
    | zero => simp at h; subst h; simp [wgt]
    | succ j =>
      have := ih (j := j) (by simpa using h)
      simp only [List.take_succ_cons, wgt, this]
      omega
theorem wgt_le_take (L : List (List UInt8)) (j : Nat) : wgt (L.take j) ≤ wgt L := by
  induction L generalizing j with
  | nil => simp
  | cons y L ih =>
    cases j with
    | zero => simp [wgt]
    | succ j => have := ih j; simp only [List.take_succ_cons, wgt]; omega
theorem wgt_len (L : List (List UInt8)) : L.length ≤ wgt L ∧ L.flatten.length ≤ wgt L := by
  induction L with
  | nil => simp [wgt]
  | cons y L ih => simp only [wgt, List.length_cons, List.flatten_cons, List.length_append]; omega
theorem wgt_mem {L : List (List UInt8)} {x : List UInt8} (h : x ∈ L) : x.length ≤ wgt L := by
  induction L with
  | nil => cases h
  | cons y L ih =>
    simp only [wgt]
    rcases List.mem_cons.1 h with rfl | h
    · omega
    · have := ih h; omega
/-- What is left is never more. -/
theorem rd_A (x : Sr) (n : Int) : (rd x n).1.A.length ≤ x.A.length ∧ (rd x n).1.A.flatten.length ≤ x.A.flatten.length := by
  refine ⟨?_, ?_⟩
  · unfold rd
    split
    · exact Nat.le_refl _
    · split
      · exact Nat.le_refl _
      · obtain ⟨A, bg, e, r, sh⟩ := x
        unfold pop nxt
        rcases A with _ | ⟨_ | ⟨c, p⟩, _ | ⟨_ | ⟨d, q⟩, t⟩⟩ <;> cases bg <;> simp <;> omega
  · have := congrArg List.length (rd_left x n).1
    rw [List.length_append] at this
    unfold left at this
    omega
end Wr

end Go.Proofs.YtnmjdpmfmbgoeaaRRR
