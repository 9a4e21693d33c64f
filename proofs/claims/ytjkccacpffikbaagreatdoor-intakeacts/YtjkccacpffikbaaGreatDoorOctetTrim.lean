/- What octet.Trim, octet.Value, and the document's Trim and Value answer. -/
import Derived.Test.YtjkccacpffikbaaGreatDoorOctetKinds
import Derived.Test.YtjkccacpffikbaaGreatDoorShelf
namespace Go.Proofs.YtjkccacpffikbaaGreatDoor
open Go.ChangeShapes Go.WideShapes Go.ChangeAt Go.RowKit
open Oc
set_option linter.unusedVariables false
set_option maxRecDepth 100000

theorem ret_str {a b : ByteArray} (h : a = b) : Ending.returned (.string a) = .returned (.string b) := by rw [h]

set_option maxHeartbeats 400000 in
theorem trim_any (s : ByteArray) (w : World) (hs : s.size ≤ 1099511627776) :
    Calls Tryz.prog 67 #[.string s] w fun e w' => e = .returned (.string ⟨(trim s.data.toList).toArray⟩) ∧ Below w.heap.size w w' := by
  have hT := Tryz.strings_Trim_blanks s w (by omega)
  rw [trim_lib] at hT
  generalize (⟨(trim s.data.toList).toArray⟩ : ByteArray) = r at hT ⊢
  go_enter Tryz.func67, Tryz.ntmps67
  go_wp2_with (go_at_call 71; refine hT.mono ?_; rintro e w' ⟨rfl, hb⟩)
  go_ret
  exact ⟨rfl, hb⟩

theorem blen (s : ByteArray) : s.data.toList.length = s.size := by simp
theorem bsize (l : List UInt8) : (⟨l.toArray⟩ : ByteArray).size = l.length := by rw [← blen]

theorem bhead {s : ByteArray} (h : 0 < s.size) : s.data.toList.head? = some s[0] := by
  rw [List.head?_eq_getElem?, List.getElem?_eq_getElem (by simpa using h)]; rfl
theorem blast {s : ByteArray} (h : s.size - 1 < s.size) : s.data.toList.getLast? = some (s[s.size - 1]'h) := by
  rw [List.getLast?_eq_getElem?, List.getElem?_eq_getElem (by simp; omega)]; simp [ByteArray.getElem_eq_getElem_data]

def strOf : Value → Nat
  | .string t => t.size
  | _ => 0
theorem lcons {t : ByteArray} (h : 0 < t.size) : t.data.toList = t[0] :: t.data.toList.drop 1 := by
  have h1 := bhead h
  cases h2 : t.data.toList with
  | nil => rw [h2] at h1; simp at h1
  | cons a l => rw [h2, List.head?_cons, Option.some.injEq] at h1; rw [← h1]; rfl
theorem lsnoc {t : ByteArray} (h : t.size - 1 < t.size) : t.data.toList = t.data.toList.take (t.size - 1) ++ [t[t.size - 1]] := by
  rw [← btake t (t.size - 1) h, List.take_of_length_le (by rw [blen]; omega)]
theorem ext_head (t : ByteArray) : (t.extract 1 t.size).data.toList = t.data.toList.drop 1 := by
  rw [ByteArray.data_extract, Array.toList_extract, List.extract_eq_take_drop, List.take_of_length_le (by rw [List.length_drop, blen]; omega)]
theorem ext_last (t : ByteArray) : (t.extract 0 (t.size - 1)).data.toList = t.data.toList.take (t.size - 1) := by
  rw [ByteArray.data_extract, Array.toList_extract, List.extract_eq_take_drop]; simp
theorem head_step {t : ByteArray} (h : 0 < t.size) (hb : blkB (t[0].toNat : Int) = true) : trimL (t.extract 1 t.size).data.toList = trimL t.data.toList := by
  rw [ext_head]; conv => rhs; rw [lcons h, trimL_cons, if_pos (show blk t[0] = true from hb)]
theorem head_stop {t : ByteArray} (h : 0 < t.size) (hb : blkB (t[0].toNat : Int) = false) : trimL t.data.toList = t.data.toList := by
  rw [lcons h, trimL_cons, if_neg (by unfold blk; rw [hb]; simp)]
theorem last_step {t : ByteArray} (h : t.size - 1 < t.size) (hb : blkB (t[t.size - 1].toNat : Int) = true) : trimR (t.extract 0 (t.size - 1)).data.toList = trimR t.data.toList := by
  rw [ext_last]; conv => rhs; rw [lsnoc h, trimR_snoc, if_pos (show blk t[t.size - 1] = true from hb)]
theorem last_stop {t : ByteArray} (h : t.size - 1 < t.size) (hb : blkB (t[t.size - 1].toNat : Int) = false) : trimR t.data.toList = t.data.toList := by
  conv => lhs; rw [lsnoc h, trimR_snoc, if_neg (by unfold blk; rw [hb]; simp)]
  exact (lsnoc h).symm

set_option maxHeartbeats 800000 in
theorem rtrim_any (s : ByteArray) (w : World) (hs : s.size ≤ 1099511627776) :
    Calls Tryz.prog 59 #[.string s] w fun e w' => e = .returned (.string ⟨(trim s.data.toList).toArray⟩) ∧ w = w' := by
  go_enter Tryz.func59, Tryz.ntmps59
  go_wp2_with fail
  go_loop [0] (fun v => ∃ t : ByteArray, v = .string t ∧ t.size ≤ 1099511627776 ∧ Hid (trimL t.data.toList = trimL s.data.toList)) strOf
  case atStart => exact ⟨s, rfl, hs, Lib.hid rfl⟩
  case round =>
    obtain ⟨t, rfl, ht, hr⟩ := hrel
    by_cases h0 : 0 < t.size
    · cases ha : blkB (t[0].toNat : Int)
      · have HE := Lib.hid (head_stop h0 ha)
        go_wp2_with (go_at_call 68; refine (rblank_any _ (byte_lo _) (byte_hi _) _).mono ?_; rintro e w' ⟨rfl, rfl⟩)
        clear ha
        go_loop [0] (fun v => ∃ t : ByteArray, v = .string t ∧ t.size ≤ 1099511627776 ∧ Hid (trimR t.data.toList = trim s.data.toList)) strOf
        case atStart => exact ⟨t, rfl, ht, Lib.hid (by rw [← trim_turn, ← hr.out, HE.out])⟩
        case round =>
          clear ht hr HE
          obtain ⟨t2, rfl, ht2, hr2⟩ := hrel
          by_cases h2 : 0 < t2.size
          · have h3 : t2.size - 1 < t2.size := by omega
            cases hb : blkB (t2[t2.size - 1].toNat : Int)
            · have HR := Lib.hid (last_stop h3 hb)
              go_wp2_with (go_at_call 68; refine (rblank_any _ (byte_lo _) (byte_hi _) _).mono ?_; rintro e w' ⟨rfl, rfl⟩)
              go_ret
              exact ⟨ret_str (by rw [← hr2.out, HR.out]), rfl⟩
            · have HR := Lib.hid (last_step h3 hb)
              go_wp2_with (go_at_call 68; refine (rblank_any _ (byte_lo _) (byte_hi _) _).mono ?_; rintro e w' ⟨rfl, rfl⟩)
              go_round
              case rel => exact ⟨_, rfl, by simp; omega, Lib.hid (by rw [HR.out, hr2.out])⟩
              case measure => simp [strOf]; omega
          · obtain rfl : t2 = ⟨#[]⟩ := bempty (by omega)
            go_wp2_with fail
            go_ret
            exact ⟨ret_str (by rw [← hr2.out]; rfl), rfl⟩
      · have HR := Lib.hid (head_step h0 ha)
        go_wp2_with (go_at_call 68; refine (rblank_any _ (byte_lo _) (byte_hi _) _).mono ?_; rintro e w' ⟨rfl, rfl⟩)
        go_round
        case rel => exact ⟨_, rfl, by simp; omega, Lib.hid (by rw [HR.out, hr.out])⟩
        case measure => simp [strOf]; omega
    · obtain rfl : t = ⟨#[]⟩ := bempty (by omega)
      have HZ := Lib.hid (show trim s.data.toList = [] by rw [← trim_turn, ← hr.out]; rfl)
      go_wp2_with fail
      go_rounds 1
      go_ret
      exact ⟨ret_str (by rw [HZ.out]), rfl⟩

end Go.Proofs.YtjkccacpffikbaaGreatDoor
