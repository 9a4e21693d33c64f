/- What octet.Trim, octet.Value, and the document's Trim and Value answer. -/
import Derived.Test.YtnmjdpmfmbgoeaaRRROctetKinds
import Derived.Test.YtnmjdpmfmbgoeaaRRRShelf
namespace Go.Proofs.YtnmjdpmfmbgoeaaRRR
open Go.ChangeShapes Go.WideShapes Go.ChangeAt Go.RowKit
open Oc
set_option linter.unusedVariables false
set_option maxRecDepth 100000

theorem ret_str {a b : ByteArray} (h : a = b) : Ending.returned (.string a) = .returned (.string b) := by rw [h]

theorem blen (s : ByteArray) : s.data.toList.length = s.size := by simp
theorem bsize (l : List UInt8) : (⟨l.toArray⟩ : ByteArray).size = l.length := by rw [← blen]

theorem bhead {s : ByteArray} (h : 0 < s.size) : s.data.toList.head? = some s[0] := by
  rw [List.head?_eq_getElem?, List.getElem?_eq_getElem (by simpa using h)]; rfl
theorem blast {s : ByteArray} (h : s.size - 1 < s.size) : s.data.toList.getLast? = some (s[s.size - 1]'h) := by
  rw [List.getLast?_eq_getElem?, List.getElem?_eq_getElem (by simp; omega)]; simp [ByteArray.getElem_eq_getElem_data]

def strOf : Value → Nat
  | .string t => t.size
  | _ => 0
theorem lcons {t : ByteArray} (h : 0 < t.size) : t.data.toList = t[0] :: t.data.toList.drop 1 := by
  have h1 := bhead h
  cases h2 : t.data.toList with
  | nil => rw [h2] at h1; simp at h1
  | cons a l => rw [h2, List.head?_cons, Option.some.injEq] at h1; rw [← h1]; rfl
theorem lsnoc {t : ByteArray} (h : t.size - 1 < t.size) : t.data.toList = t.data.toList.take (t.size - 1) ++ [t[t.size - 1]] := by
  rw [← btake t (t.size - 1) h, List.take_of_length_le (by rw [blen]; omega)]
theorem ext_head (t : ByteArray) : (t.extract 1 t.size).data.toList = t.data.toList.drop 1 := by
  rw [ByteArray.data_extract, Array.toList_extract, List.extract_eq_take_drop, List.take_of_length_le (by rw [List.length_drop, blen]; omega)]
theorem ext_last (t : ByteArray) : (t.extract 0 (t.size - 1)).data.toList = t.data.toList.take (t.size - 1) := by
  rw [ByteArray.data_extract, Array.toList_extract, List.extract_eq_take_drop]; simp
theorem head_step {t : ByteArray} (h : 0 < t.size) (hb : blkB (t[0].toNat : Int) = true) : trimL (t.extract 1 t.size).data.toList = trimL t.data.toList := by
  rw [ext_head]; conv => rhs; rw [lcons h, trimL_cons, if_pos (show blk t[0] = true from hb)]
theorem head_stop {t : ByteArray} (h : 0 < t.size) (hb : blkB (t[0].toNat : Int) = false) : trimL t.data.toList = t.data.toList := by
  rw [lcons h, trimL_cons, if_neg (by unfold blk; rw [hb]; simp)]
theorem last_step {t : ByteArray} (h : t.size - 1 < t.size) (hb : blkB (t[t.size - 1].toNat : Int) = true) : trimR (t.extract 0 (t.size - 1)).data.toList = trimR t.data.toList := by
  rw [ext_last]; conv => rhs; rw [lsnoc h, trimR_snoc, if_pos (show blk t[t.size - 1] = true from hb)]
theorem last_stop {t : ByteArray} (h : t.size - 1 < t.size) (hb : blkB (t[t.size - 1].toNat : Int) = false) : trimR t.data.toList = t.data.toList := by
  conv => lhs; rw [lsnoc h, trimR_snoc, if_neg (by unfold blk; rw [hb]; simp)]
  exact (lsnoc h).symm

end Go.Proofs.YtnmjdpmfmbgoeaaRRR
