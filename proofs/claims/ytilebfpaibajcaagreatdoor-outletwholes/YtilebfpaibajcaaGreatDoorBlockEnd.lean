/- What the document's End and Wrong answer. -/
import Derived.Test.YtilebfpaibajcaaGreatDoorMB
import Derived.Test.YtilebfpaibajcaaGreatDoorFieldGo
namespace Go.Proofs.YtilebfpaibajcaaGreatDoor
open Go.ChangeShapes Go.WideShapes Go.ChangeAt Go.RowKit
open Oc Fl Bk
set_option linter.unusedVariables false
set_option maxRecDepth 100000

/-- Behind the end of the first line; -1: there is none. -/
def endI (l : List UInt8) : Int := match eol l with | some k => (k : Int) + 2 | none => -1
theorem ret_int {a b : Int} (h : a = b) : Ending.returned (.int .i64 a) = .returned (.int .i64 b) := by rw [h]
theorem is13 {b : UInt8} (h : b = 13) : ((b.toNat : Int) == 13) = true := by subst h; decide
theorem no13 {b : UInt8} (h : b ≠ 13) : ((b.toNat : Int) == 13) = false := by
  rw [beq_eq_false_iff_ne]
  intro e
  exact h (UInt8.toNat_inj.1 (show b.toNat = 13 by omega))
theorem is10 {b : UInt8} (h : b = 10) : ((b.toNat : Int) == 10) = true := by subst h; decide
theorem no10 {b : UInt8} (h : b ≠ 10) : ((b.toNat : Int) == 10) = false := by
  rw [beq_eq_false_iff_ne]
  intro e
  exact h (UInt8.toNat_inj.1 (show b.toNat = 10 by omega))
theorem is58 {b : UInt8} (h : b = 58) : ((b.toNat : Int) == 58) = true := by subst h; decide
theorem no58 {b : UInt8} (h : b ≠ 58) : ((b.toNat : Int) == 58) = false := by
  rw [beq_eq_false_iff_ne]
  intro e
  exact h (UInt8.toNat_inj.1 (show b.toNat = 58 by omega))
theorem isn13 {b : UInt8} (h : b = 13) : ((b.toNat : Int) != 13) = false := by unfold bne; rw [is13 h]; rfl
theorem non13 {b : UInt8} (h : b ≠ 13) : ((b.toNat : Int) != 13) = true := by unfold bne; rw [no13 h]; rfl
theorem isn10 {b : UInt8} (h : b = 10) : ((b.toNat : Int) != 10) = false := by unfold bne; rw [is10 h]; rfl
theorem non10 {b : UInt8} (h : b ≠ 10) : ((b.toNat : Int) != 10) = true := by unfold bne; rw [no10 h]; rfl
theorem isn58 {b : UInt8} (h : b = 58) : ((b.toNat : Int) != 58) = false := by unfold bne; rw [is58 h]; rfl
theorem non58 {b : UInt8} (h : b ≠ 58) : ((b.toNat : Int) != 58) = true := by unfold bne; rw [no58 h]; rfl
theorem at_list (s : ByteArray) (k : Nat) (h : k < s.size) : s.data.toList[k]? = some s[k] := by
  rw [List.getElem?_eq_getElem (by rw [blen']; exact h)]; rfl

theorem drop_at (s : ByteArray) (k : Nat) (h : k < s.size) : s.data.toList.drop k = s[k] :: s.data.toList.drop (k + 1) := by
  rw [List.drop_eq_getElem_cons (by rw [blen']; exact h)]; rfl
theorem drop_all (s : ByteArray) (k : Nat) (h : ¬ k < s.size) : s.data.toList.drop k = [] := List.drop_of_length_le (by rw [blen']; omega)
theorem wA_tok {k : Nat} {b : UInt8} {l : List UInt8} (h : tkb b = true) : wA k (b :: l) = wA (k + 1) l := by
  conv => lhs; unfold wA
  rw [if_pos h]
theorem wA_no {k : Nat} {b : UInt8} {l : List UInt8} (h : tkb b = false) (h2 : b ≠ 58 ∨ k = 0) : wA k (b :: l) = (k : Int) := by
  conv => lhs; unfold wA
  rw [if_neg (by rw [h]; decide), if_pos h2]
theorem wA_colon {k : Nat} {b : UInt8} {l : List UInt8} (h : tkb b = false) (h2 : b = 58) (h3 : k ≠ 0) : wA k (b :: l) = wB (k + 1) l := by
  conv => lhs; unfold wA
  rw [if_neg (by rw [h]; decide), if_neg (by rintro (e | e); exact e h2; exact h3 e)]
theorem wB_txt {k : Nat} {b : UInt8} {l : List UInt8} (h : txb b = true) : wB k (b :: l) = wB (k + 1) l := by
  conv => lhs; unfold wB
  rw [if_pos h]
theorem wB_no {k : Nat} {b : UInt8} {l : List UInt8} (h : txb b = false) (h2 : b ≠ 13) : wB k (b :: l) = (k : Int) := by
  conv => lhs; unfold wB
  rw [if_neg (by rw [h]; decide), if_pos h2]
theorem wB_end {k : Nat} {b : UInt8} (h : txb b = false) (h2 : b = 13) : wB k [b] = -1 := by subst h2; simp [wB, h]
theorem wB_hit {k : Nat} {b d : UInt8} {l : List UInt8} (h : txb b = false) (h2 : b = 13) (h3 : d = 10) : wB k (b :: d :: l) = -1 := by subst h2; subst h3; simp [wB, h]
theorem wB_miss {k : Nat} {b d : UInt8} {l : List UInt8} (h : txb b = false) (h2 : b = 13) (h3 : d ≠ 10) : wB k (b :: d :: l) = (k : Int) + 1 := by subst h2; simp [wB, h, h3]
theorem wB_nil (k : Nat) : wB k [] = -1 := by unfold wB; rfl
theorem wA_nil (k : Nat) : wA k [] = -1 := by unfold wA; rfl
theorem one_cut (s : ByteArray) (k : Nat) (h : k < s.size) : (s.extract k (k + 1)).data.toList = [s[k]] := by
  have hl : k < s.data.toList.length := by rw [blen']; exact h
  simp only [ByteArray.data_extract, Array.toList_extract, List.extract_eq_take_drop]
  rw [show k + 1 - k = 1 by omega, List.drop_eq_getElem_cons hl]
  rfl
theorem rtok_cut (s : ByteArray) (k : Nat) (h : k < s.size) (w : World) : Calls Tryz.prog 51 #[.string (s.extract k (k + 1))] w fun e w' => e = .returned (.bool (tkb s[k])) ∧ w = w' := by
  have hl := one_cut s k h
  have := rtoken_any (s.extract k (k + 1)) w (by rw [← blen', hl]; simp)
  rw [hl] at this
  simpa [token, every, tkb] using this

end Go.Proofs.YtilebfpaibajcaaGreatDoor
