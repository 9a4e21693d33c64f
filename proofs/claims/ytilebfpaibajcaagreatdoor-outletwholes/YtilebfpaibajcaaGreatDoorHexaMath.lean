/- Plain arithmetic of hexadecimal texts: digits, values, and what parsing them says. Nothing of the program stands here. -/
namespace Hx

/-- The value of a digit's byte, -1 of any other. -/
def dg (c : Int) : Int := if 48 ≤ c ∧ c ≤ 57 then c - 48 else if 97 ≤ c ∧ c ≤ 102 then c - 87 else if 65 ≤ c ∧ c ≤ 70 then c - 55 else -1

theorem dg_lo (c : Int) : -1 ≤ dg c := by unfold dg; (repeat' split) <;> omega
theorem dg_hi (c : Int) : dg c ≤ 15 := by unfold dg; (repeat' split) <;> omega

def isd (c : UInt8) : Bool := decide (0 ≤ dg (c.toNat : Int))

/-- How many digits a text begins with. -/
def digs (l : List UInt8) : Nat := (l.takeWhile isd).length

/-- The number that digits say. -/
def val (l : List UInt8) : Nat := l.foldl (fun n c => 16 * n + (dg (c.toNat : Int)).toNat) 0

/-- What parsing answers: the number, the error's number. -/
def parse (l : List UInt8) : Int × Int := if l = [] ∨ digs l < l.length then (0, 2) else if 4611686018427387903 < val l then (0, 3) else ((val l : Int), 0)

/-- What one digit more answers. -/
def more (n c : Int) : Int × Int := if dg c < 0 then (0, 2) else if 288230376151711743 < n then (0, 3) else (n * 16 + dg c, 0)

theorem digs_le (l : List UInt8) : digs l ≤ l.length := (List.takeWhile_sublist _).length_le

theorem digs_all {l : List UInt8} (h : ¬ digs l < l.length) : ∀ c ∈ l, isd c = true := by
  have h1 : (l.takeWhile isd).length = l.length := Nat.le_antisymm (digs_le l) (Nat.le_of_not_lt h)
  have h2 : l.takeWhile isd = l := (List.takeWhile_sublist isd).eq_of_length h1
  intro c hc; rw [← h2] at hc
  exact List.all_eq_true.1 (List.all_takeWhile (p := isd) (l := l)) c hc

theorem digs_of_all {l : List UInt8} (h : ∀ c ∈ l, isd c = true) : digs l = l.length := by
  unfold digs
  induction l with
  | nil => rfl
  | cons c l ih => 
    rw [List.takeWhile_cons, if_pos (h c (by simp))]
    simp [ih (fun d hd => h d (by simp [hd]))]

theorem isd_dg {c : UInt8} (h : isd c = true) : 0 ≤ dg (c.toNat : Int) := of_decide_eq_true h

theorem digs_stop {l : List UInt8} {k : Nat} (h : k < l.length) (hall : ∀ c ∈ l.take k, isd c = true) (hk : isd l[k] = false) : digs l = k := by
  unfold digs
  induction l generalizing k with
  | nil => simp at h
  | cons c l ih =>
    cases k with
    | zero => simp at hk; simp [hk]
    | succ k =>
      rw [List.takeWhile_cons, if_pos (hall c (by simp))]
      simp at hk h ⊢
      exact ih h (fun d hd => hall d (by simp [hd])) hk

theorem val_nil : val [] = 0 := rfl
theorem val_snoc (l : List UInt8) (c : UInt8) : val (l ++ [c]) = 16 * val l + (dg (c.toNat : Int)).toNat := by unfold val; rw [List.foldl_append]; rfl
theorem val_foldl (l : List UInt8) (a : Nat) : l.foldl (fun n c => 16 * n + (dg (c.toNat : Int)).toNat) a = a * 16 ^ l.length + val l := by
  unfold val
  induction l generalizing a with
  | nil => simp
  | cons c l ih => 
    simp only [List.foldl_cons, List.length_cons]
    rw [ih, ih (16 * 0 + _), Nat.pow_succ]
    generalize 16 ^ l.length = p
    generalize (dg (c.toNat : Int)).toNat = d
    rw [Nat.add_mul, Nat.mul_zero, Nat.zero_add, Nat.add_assoc, Nat.mul_comm p 16, Nat.mul_comm 16 a, Nat.mul_assoc]
theorem val_append (l m : List UInt8) : val (l ++ m) = val l * 16 ^ m.length + val m := by
  rw [← val_foldl]; unfold val; rw [List.foldl_append]
theorem val_cons (c : UInt8) (l : List UInt8) : val (c :: l) = (dg (c.toNat : Int)).toNat * 16 ^ l.length + val l := by
  have := val_append [c] l
  simpa [val] using this
theorem val_lt (l : List UInt8) : val l < 16 ^ l.length := by
  induction l with
  | nil => simp [val]
  | cons c l ih =>
    rw [val_cons, List.length_cons, Nat.pow_succ]
    have h1 := dg_hi (c.toNat : Int)
    have h2 : (dg (c.toNat : Int)).toNat ≤ 15 := by omega
    have h3 : (dg (c.toNat : Int)).toNat * 16 ^ l.length ≤ 15 * 16 ^ l.length := Nat.mul_le_mul_right _ h2
    omega
theorem val_take_le (l : List UInt8) (k : Nat) : val (l.take k) ≤ val l := by
  conv => rhs; rw [← List.take_append_drop k l]
  rw [val_append]
  have : 1 ≤ 16 ^ (l.drop k).length := Nat.pos_of_ne_zero (by simp)
  have := Nat.mul_le_mul_left (val (l.take k)) this
  omega
theorem take_snoc (l : List UInt8) (k : Nat) (h : k < l.length) : l.take (k + 1) = l.take k ++ [l[k]] := List.take_succ_eq_append_getElem h

/-- The texts of numbers. -/
def hexd (d : Nat) : UInt8 := if d < 10 then UInt8.ofNat (48 + d) else UInt8.ofNat (87 + d)
def put (n : Nat) : List UInt8 := if _h : n < 16 then [hexd n] else put (n / 16) ++ [hexd (n % 16)]
termination_by n
decreasing_by omega

theorem hexd_dg : ∀ d : Nat, d < 16 → dg ((hexd d).toNat : Int) = d := by decide
theorem hexd_isd (d : Nat) (h : d < 16) : isd (hexd d) = true := by unfold isd; rw [hexd_dg d h]; simp

theorem put_val (n : Nat) : val (put n) = n := by
  induction n using Nat.strongRecOn with
  | _ n ih =>
    rw [put]; split
    · rename_i h; have := val_snoc [] (hexd n); simp only [List.nil_append, val_nil] at this; rw [this, hexd_dg n h]; simp
    · rename_i h; rw [val_snoc, ih (n / 16) (by omega), hexd_dg _ (by omega)]; simp; omega
theorem put_isd (n : Nat) : ∀ c ∈ put n, isd c = true := by
  induction n using Nat.strongRecOn with
  | _ n ih =>
    rw [put]; split
    · rename_i h; intro c hc; simp at hc; subst hc; exact hexd_isd n h
    · rename_i h; intro c hc; rw [List.mem_append] at hc
      rcases hc with hc | hc
      · exact ih (n / 16) (by omega) c hc
      · simp at hc; subst hc; exact hexd_isd _ (by omega)
theorem put_ne (n : Nat) : put n ≠ [] := by rw [put]; split <;> simp
theorem put_len_pos (n : Nat) : 0 < (put n).length := List.length_pos_iff.2 (put_ne n)
theorem put_len (n : Nat) (k : Nat) (h : n < 16 ^ (k + 1)) : (put n).length ≤ k + 1 := by
  induction k generalizing n with
  | zero => rw [put, dif_pos (by simpa using h)]; simp
  | succ k ih =>
    rw [put]; split
    · simp
    · have := ih (n / 16) (by rw [Nat.pow_succ] at h; omega)
      simp; omega
theorem put_len16 (n : Nat) (h : n < 18446744073709551616) : (put n).length ≤ 16 := put_len n 15 (by simpa using h)

theorem parse_digits {l : List UInt8} (hne : l ≠ []) (h : ∀ c ∈ l, isd c = true) : parse l = if 4611686018427387903 < val l then (0, 3) else ((val l : Int), 0) := by
  unfold parse
  rw [if_neg]
  rw [digs_of_all h]; simp [hne]

theorem parse_put (n : Nat) : parse (put n) = if 4611686018427387903 < n then (0, 3) else ((n : Int), 0) := by
  rw [parse_digits (put_ne n) (put_isd n), put_val]

theorem parse_put_more (n : Nat) (c : UInt8) (h : 0 ≤ dg (c.toNat : Int)) : parse (put n ++ [c]) = more n (c.toNat : Int) := by
  have hi := dg_hi (c.toNat : Int)
  rw [parse_digits (by simp), val_snoc, put_val]
  · unfold more
    rw [if_neg (show ¬ dg (c.toNat : Int) < 0 by omega)]
    by_cases g : 288230376151711743 < (n : Int)
    · rw [if_pos g, if_pos (by omega)]
    · rw [if_neg g, if_neg (by omega)]; congr 1; omega
  · intro d hd
    rw [List.mem_append] at hd
    rcases hd with hd | hd
    · exact put_isd n d hd
    · simp at hd; subst hd; unfold isd; simpa using h

end Hx
