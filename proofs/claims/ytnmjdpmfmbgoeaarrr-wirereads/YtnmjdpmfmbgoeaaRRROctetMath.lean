/- Plain words for layer 2: kinds of bytes, small letters, trimmed texts. -/
import Derived.Lib.SlTrimSet
namespace Go.Proofs.YtnmjdpmfmbgoeaaRRR
namespace Oc

/-- A letter or a digit. -/
def wordB (c : Int) : Bool := decide (48 ≤ c ∧ c ≤ 57 ∨ 65 ≤ c ∧ c ≤ 90 ∨ 97 ≤ c ∧ c ≤ 122)
/-- The token bytes beside letters and digits. -/
def marks : List UInt8 := [33, 35, 36, 37, 38, 39, 42, 43, 45, 46, 94, 95, 96, 124, 126]
def markB (c : Int) : Bool := decide (c = 33 ∨ c = 35 ∨ c = 36 ∨ c = 37 ∨ c = 38 ∨ c = 39 ∨ c = 42 ∨ c = 43 ∨ c = 45 ∨ c = 46 ∨ c = 94 ∨ c = 95 ∨ c = 96 ∨ c = 124 ∨ c = 126)
/-- A token byte. -/
def tokB (c : Int) : Bool := wordB c || markB c
/-- A text byte. -/
def txtB (c : Int) : Bool := decide (c = 9 ∨ 32 ≤ c ∧ c ≤ 126 ∨ 128 ≤ c)
/-- A blank. -/
def blkB (c : Int) : Bool := decide (c = 32 ∨ c = 9)
/-- A byte with a small letter for a great one. -/
def smlB (c : UInt8) : UInt8 := if 65 ≤ c ∧ c ≤ 90 then c + 32 else c

def every (p : Int → Bool) (l : List UInt8) : Bool := l.all fun b => p (b.toNat : Int)
def token (l : List UInt8) : Bool := !l.isEmpty && every tokB l
def text (l : List UInt8) : Bool := every txtB l
def small (l : List UInt8) : List UInt8 := l.map smlB
def blk (b : UInt8) : Bool := blkB (b.toNat : Int)
def trimL (l : List UInt8) : List UInt8 := l.dropWhile blk
def trimR (l : List UInt8) : List UInt8 := (l.reverse.dropWhile blk).reverse
def trim (l : List UInt8) : List UInt8 := trimL (trimR l)

theorem blk_contains (b : UInt8) : ([32, 9] : List UInt8).contains b = blk b := by
  have key : ∀ k : Fin 256, ([32, 9] : List UInt8).contains (UInt8.ofNat k.val) = blk (UInt8.ofNat k.val) := by decide +kernel
  have h := key ⟨b.toNat, b.toNat_lt⟩
  simpa using h
theorem trim_lib (l : List UInt8) : Lib.trimS l [32, 9] = trim l := by
  unfold Lib.trimS Lib.trimLeftS Lib.trimRightS trim trimL trimR
  have e : (fun b => ([32, 9] : List UInt8).contains b) = blk := funext blk_contains
  simp only [e]

theorem trimL_cons (a : UInt8) (l : List UInt8) : trimL (a :: l) = if blk a = true then trimL l else a :: l := by
  unfold trimL; rw [List.dropWhile_cons]
theorem trimR_snoc (a : UInt8) (l : List UInt8) : trimR (l ++ [a]) = if blk a = true then trimR l else l ++ [a] := by
  unfold trimR; rw [List.reverse_append]; simp only [List.reverse_cons, List.reverse_nil, List.nil_append, List.cons_append, List.dropWhile_cons]
  split <;> simp
theorem trimR_cons (a : UInt8) (l : List UInt8) : trimR (a :: l) = if trimR l = [] then (if blk a = true then [] else [a]) else a :: trimR l := by
  unfold trimR; rw [List.reverse_cons, List.dropWhile_append]
  by_cases h : List.dropWhile blk l.reverse = []
  · rw [h]; simp only [List.isEmpty_nil, List.reverse_nil, if_true, List.dropWhile_cons, List.dropWhile_nil]
    split <;> simp
  · rw [if_neg (by simpa using h), if_neg (by simpa using h)]; simp
theorem trimL_le (l : List UInt8) : (trimL l).length ≤ l.length := by unfold trimL; exact (List.dropWhile_suffix _).length_le
theorem trimR_le (l : List UInt8) : (trimR l).length ≤ l.length := by
  unfold trimR; rw [List.length_reverse]
  have := (List.dropWhile_suffix (l := l.reverse) blk).length_le
  simpa using this
/-- Which end is trimmed first makes no difference. -/
theorem trim_turn (l : List UInt8) : trimR (trimL l) = trim l := by
  unfold trim
  induction l with
  | nil => rfl
  | cons a l ih =>
    rw [trimL_cons, trimR_cons]
    by_cases hb : blk a = true
    · rw [if_pos hb, ih]
      by_cases hr : trimR l = []
      · rw [if_pos hr, hr, if_pos hb]
      · rw [if_neg hr, trimL_cons, if_pos hb]
    · rw [if_neg hb, trimR_cons]
      by_cases hr : trimR l = []
      · rw [if_pos hr, if_neg hb, trimL_cons, if_neg hb]
      · rw [if_neg hr, trimL_cons, if_neg hb]
theorem trim_le (l : List UInt8) : (trim l).length ≤ l.length := Nat.le_trans (trimL_le _) (trimR_le _)
theorem trimL_twice (l : List UInt8) : trimL (trimL l) = trimL l := by
  induction l with
  | nil => rfl
  | cons a l ih =>
    rw [trimL_cons]
    by_cases hb : blk a = true
    · rw [if_pos hb, ih]
    · rw [if_neg hb, trimL_cons, if_neg hb]
theorem trimR_twice (l : List UInt8) : trimR (trimR l) = trimR l := by
  show (((l.reverse.dropWhile blk).reverse).reverse.dropWhile blk).reverse = (l.reverse.dropWhile blk).reverse
  rw [List.reverse_reverse]; exact congrArg List.reverse (trimL_twice l.reverse)
theorem trim_twice (l : List UInt8) : trim (trim l) = trim l := by
  have h1 : trimR (trim l) = trim l := by rw [← trim_turn, trimR_twice]
  show trimL (trimR (trim l)) = _
  rw [h1]; exact trimL_twice _

/-- A value: a text with no blank at either end. -/
def value (l : List UInt8) : Bool := text l && decide ((trim l).length = l.length)
theorem value_nil : value [] = true := by decide
theorem value_head {l : List UInt8} {a : UInt8} (h : l.head? = some a) (hb : blk a = true) : value l = false := by
  obtain ⟨m, rfl⟩ : ∃ m, l = a :: m := by cases l <;> simp_all
  unfold value
  have h1 : (trim (a :: m)).length < (a :: m).length := by
    rw [← trim_turn, trimL_cons, if_pos hb]
    have := trimR_le (trimL m)
    have := trimL_le m
    simp; omega
  rw [decide_eq_false (by omega), Bool.and_false]
theorem value_last {l : List UInt8} {a : UInt8} (h : l.getLast? = some a) (hb : blk a = true) : value l = false := by
  obtain ⟨m, rfl⟩ := List.getLast?_eq_some_iff.1 h
  unfold value
  have h1 : (trim (m ++ [a])).length < (m ++ [a]).length := by
    unfold trim; rw [trimR_snoc, if_pos hb]
    have := trimL_le (trimR m)
    have := trimR_le m
    simp; omega
  rw [decide_eq_false (by omega), Bool.and_false]
theorem value_ends {l : List UInt8} {a b : UInt8} (h : l.head? = some a) (g : l.getLast? = some b) (ha : blk a = false) (hb : blk b = false) : value l = text l := by
  obtain ⟨m, rfl⟩ := List.getLast?_eq_some_iff.1 g
  have h1 : trimR (m ++ [b]) = m ++ [b] := by rw [trimR_snoc, if_neg (by simp [hb])]
  have h2 : trimL (m ++ [b]) = m ++ [b] := by
    revert h; cases m with
    | nil => intro h; simp at h; subst h; rw [List.nil_append, trimL_cons, if_neg (by simp [ha])]
    | cons c m => intro h; simp at h; subst h; rw [List.cons_append, trimL_cons, if_neg (by simp [ha])]
  unfold value trim; rw [h1, h2]; simp
theorem value_trim (l : List UInt8) : value (trim l) = text (trim l) := by unfold value; rw [trim_twice]; simp

theorem smlB_twice (b : UInt8) : smlB (smlB b) = smlB b := by
  have key : ∀ k : Fin 256, smlB (smlB (UInt8.ofNat k.val)) = smlB (UInt8.ofNat k.val) := by decide +kernel
  have h := key ⟨b.toNat, b.toNat_lt⟩
  simpa using h
theorem small_twice (l : List UInt8) : small (small l) = small l := by
  unfold small; rw [List.map_map]; congr 1; funext b; exact smlB_twice b
theorem small_len (l : List UInt8) : (small l).length = l.length := by unfold small; simp
def alike (a b : List UInt8) : Bool := decide (small a = small b)
theorem alike_len {a b : List UInt8} (h : a.length ≠ b.length) : alike a b = false := by
  unfold alike; rw [decide_eq_false_iff_not]; intro e; apply h; rw [← small_len a, e, small_len]
theorem alike_turn (a b : List UInt8) : alike a b = alike b a := by unfold alike; rw [Bool.eq_iff_iff]; simp [eq_comm]
theorem alike_small (a : List UInt8) : alike a (small a) = true := by unfold alike; rw [small_twice]; simp
theorem smlB_great (b : UInt8) (h0 : 65 ≤ (b.toNat : Int)) (h1 : (b.toNat : Int) ≤ 90) : ((smlB b).toNat : Int) = (b.toNat : Int) + 32 := by
  have key : ∀ k : Fin 256, 65 ≤ k.val → k.val ≤ 90 → (smlB (UInt8.ofNat k.val)).toNat = k.val + 32 := by decide +kernel
  have h := key ⟨b.toNat, b.toNat_lt⟩ (by simp; omega) (by simp; omega)
  simp at h; omega
theorem smlB_other (b : UInt8) (h : ¬ (65 ≤ (b.toNat : Int) ∧ (b.toNat : Int) ≤ 90)) : smlB b = b := by
  have key : ∀ k : Fin 256, ¬ (65 ≤ k.val ∧ k.val ≤ 90) → smlB (UInt8.ofNat k.val) = UInt8.ofNat k.val := by decide +kernel
  have h := key ⟨b.toNat, b.toNat_lt⟩ (by simp; omega)
  simpa using h

theorem every_append (p : Int → Bool) (a b : List UInt8) : every p (a ++ b) = (every p a && every p b) := by unfold every; rw [List.all_append]
theorem text_append (a b : List UInt8) : text (a ++ b) = (text a && text b) := every_append _ _ _
theorem token_append (a b : List UInt8) (ha : token a = true) (hb : token b = true) : token (a ++ b) = true := by
  unfold token at *; rw [every_append]; simp at *; simp [ha, hb]

end Oc
end Go.Proofs.YtnmjdpmfmbgoeaaRRR
