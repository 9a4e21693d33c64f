/- What octet.Trim, octet.Value, and the document's Trim and Value answer. -/
import Derived.Test.YtilebfpaibajcaaGreatDoorOctetKinds
import Derived.Test.YtilebfpaibajcaaGreatDoorShelf
namespace Go.Proofs.YtilebfpaibajcaaGreatDoor
open Go.ChangeShapes Go.WideShapes Go.ChangeAt Go.RowKit
open Oc
set_option linter.unusedVariables false
set_option maxRecDepth 100000

theorem ret_str {a b : ByteArray} (h : a = b) : Ending.returned (.string a) = .returned (.string b) := by rw [h]

set_option maxHeartbeats 400000 in
theorem trim_any (s : ByteArray) (w : World) (hs : s.size ≤ 1099511627776) :
    Calls Tryz.prog 92 #[.string s] w fun e w' => e = .returned (.string ⟨(trim s.data.toList).toArray⟩) ∧ Below w.heap.size w w' := by
  have hT := Tryz.strings_Trim_blanks s w (by omega)
  rw [trim_lib] at hT
  generalize (⟨(trim s.data.toList).toArray⟩ : ByteArray) = r at hT ⊢
  go_enter Tryz.func92, Tryz.ntmps92
  go_wp2_with (go_at_call 97; refine hT.mono ?_; rintro e w' ⟨rfl, hb⟩)
  go_ret
  exact ⟨rfl, hb⟩

theorem blen (s : ByteArray) : s.data.toList.length = s.size := by simp
theorem bsize (l : List UInt8) : (⟨l.toArray⟩ : ByteArray).size = l.length := by rw [← blen]

set_option maxHeartbeats 400000 in
theorem value_any (s : ByteArray) (w : World) (hs : s.size ≤ 1099511627776) :
    Calls Tryz.prog 144 #[.string s] w fun e w' => e = .returned (.bool (value s.data.toList)) ∧ Below w.heap.size w w' := by
  have hX := text_any s w hs
  have hv : value s.data.toList = (text s.data.toList && decide ((trim s.data.toList).length = s.size)) := by unfold value; rw [blen]
  have hsz := bsize (trim s.data.toList)
  generalize ht : (⟨(trim s.data.toList).toArray⟩ : ByteArray) = r at hsz
  have hT : ∀ w, Calls Tryz.prog 92 #[.string s] w fun e w' => e = .returned (.string r) ∧ Below w.heap.size w w' := fun w => by rw [← ht]; exact trim_any s w hs
  have HT := Lib.hid hT
  clear ht hT
  rw [← hsz] at hv
  have HV := Lib.hid hv
  clear hv hsz
  cases hx : text s.data.toList
  · go_enter Tryz.func144, Tryz.ntmps144
    go_wp2_with (go_at_call 82; refine hX.mono ?_; rintro e w' ⟨rfl, hb⟩)
    go_ret
    exact ⟨ret_bool (by rw [HV.out, hx]; rfl), hb⟩
  · go_enter Tryz.func144, Tryz.ntmps144
    go_wp2_with (first
      | (go_at_call 82; refine hX.mono ?_; rintro e w' ⟨rfl, hb⟩)
      | (go_at_call 92; refine (HT.out _).mono ?_; rintro e w'' ⟨rfl, hb2⟩))
    go_ret
    exact ⟨ret_bool (by rw [HV.out, hx, Bool.eq_iff_iff]; simp; omega), hb.trans (hb2.mono hb.size)⟩

theorem bhead {s : ByteArray} (h : 0 < s.size) : s.data.toList.head? = some s[0] := by
  rw [List.head?_eq_getElem?, List.getElem?_eq_getElem (by simpa using h)]; rfl
theorem blast {s : ByteArray} (h : s.size - 1 < s.size) : s.data.toList.getLast? = some (s[s.size - 1]'h) := by
  rw [List.getLast?_eq_getElem?, List.getElem?_eq_getElem (by simp; omega)]; simp [ByteArray.getElem_eq_getElem_data]

set_option maxHeartbeats 400000 in
theorem rvalue_any (s : ByteArray) (w : World) (hs : s.size ≤ 1099511627776) :
    Calls Tryz.prog 52 #[.string s] w fun e w' => e = .returned (.bool (value s.data.toList)) ∧ w = w' := by
  have hX := rtext_any s w hs
  cases hx : text s.data.toList
  · have HV := Lib.hid (show value s.data.toList = false by unfold value; rw [hx]; rfl)
    go_enter Tryz.func52, Tryz.ntmps52
    go_wp2_with (go_at_call 66; refine hX.mono ?_; rintro e w' ⟨rfl, rfl⟩)
    go_ret
    exact ⟨ret_bool (by rw [HV.out]), rfl⟩
  · by_cases h0 : s.size = 0
    · obtain rfl : s = ⟨#[]⟩ := bempty h0
      go_enter Tryz.func52, Tryz.ntmps52
      go_wp2_with (go_at_call 66; refine hX.mono ?_; rintro e w' ⟨rfl, rfl⟩)
      go_ret
      exact ⟨ret_bool (by decide), rfl⟩
    · have hpos : 0 < s.size := by omega
      have hlast : s.size - 1 < s.size := by omega
      have hne : ((s.size : Int) == 0) = false := beq_eq_false_iff_ne.2 (by omega)
      cases ha : blkB (s[0].toNat : Int)
      · cases hb : blkB (s[s.size - 1].toNat : Int)
        · have HV := Lib.hid (value_ends (bhead hpos) (blast hlast) ha hb)
          go_enter Tryz.func52, Tryz.ntmps52
          go_wp2_with (first
            | (go_at_call 66; refine hX.mono ?_; rintro e w' ⟨rfl, rfl⟩)
            | (go_at_call 67; refine (rblank_any _ (byte_lo _) (byte_hi _) _).mono ?_; rintro e w' ⟨rfl, rfl⟩))
          go_ret
          exact ⟨ret_bool (by rw [HV.out, hx]), rfl⟩
        · have HV := Lib.hid (value_last (blast hlast) hb)
          go_enter Tryz.func52, Tryz.ntmps52
          go_wp2_with (first
            | (go_at_call 66; refine hX.mono ?_; rintro e w' ⟨rfl, rfl⟩)
            | (go_at_call 67; refine (rblank_any _ (byte_lo _) (byte_hi _) _).mono ?_; rintro e w' ⟨rfl, rfl⟩))
          go_ret
          exact ⟨ret_bool (by rw [HV.out]), rfl⟩
      · have HV := Lib.hid (value_head (bhead hpos) ha)
        go_enter Tryz.func52, Tryz.ntmps52
        go_wp2_with (first
          | (go_at_call 66; refine hX.mono ?_; rintro e w' ⟨rfl, rfl⟩)
          | (go_at_call 67; refine (rblank_any _ (byte_lo _) (byte_hi _) _).mono ?_; rintro e w' ⟨rfl, rfl⟩))
        go_ret
        exact ⟨ret_bool (by rw [HV.out]), rfl⟩

def strOf : Value → Nat
  | .string t => t.size
  | _ => 0
theorem lcons {t : ByteArray} (h : 0 < t.size) : t.data.toList = t[0] :: t.data.toList.drop 1 := by
  have h1 := bhead h
  cases h2 : t.data.toList with
  | nil => rw [h2] at h1; simp at h1
  | cons a l => rw [h2, List.head?_cons, Option.some.injEq] at h1; rw [← h1]; rfl
theorem lsnoc {t : ByteArray} (h : t.size - 1 < t.size) : t.data.toList = t.data.toList.take (t.size - 1) ++ [t[t.size - 1]] := by
  rw [← btake t (t.size - 1) h, List.take_of_length_le (by rw [blen]; omega)]
theorem ext_head (t : ByteArray) : (t.extract 1 t.size).data.toList = t.data.toList.drop 1 := by
  rw [ByteArray.data_extract, Array.toList_extract, List.extract_eq_take_drop, List.take_of_length_le (by rw [List.length_drop, blen]; omega)]
theorem ext_last (t : ByteArray) : (t.extract 0 (t.size - 1)).data.toList = t.data.toList.take (t.size - 1) := by
  rw [ByteArray.data_extract, Array.toList_extract, List.extract_eq_take_drop]; simp
theorem head_step {t : ByteArray} (h : 0 < t.size) (hb : blkB (t[0].toNat : Int) = true) : trimL (t.extract 1 t.size).data.toList = trimL t.data.toList := by
  rw [ext_head]; conv => rhs; rw [lcons h, trimL_cons, if_pos (show blk t[0] = true from hb)]
theorem head_stop {t : ByteArray} (h : 0 < t.size) (hb : blkB (t[0].toNat : Int) = false) : trimL t.data.toList = t.data.toList := by
  rw [lcons h, trimL_cons, if_neg (by unfold blk; rw [hb]; simp)]
theorem last_step {t : ByteArray} (h : t.size - 1 < t.size) (hb : blkB (t[t.size - 1].toNat : Int) = true) : trimR (t.extract 0 (t.size - 1)).data.toList = trimR t.data.toList := by
  rw [ext_last]; conv => rhs; rw [lsnoc h, trimR_snoc, if_pos (show blk t[t.size - 1] = true from hb)]
theorem last_stop {t : ByteArray} (h : t.size - 1 < t.size) (hb : blkB (t[t.size - 1].toNat : Int) = false) : trimR t.data.toList = t.data.toList := by
  conv => lhs; rw [lsnoc h, trimR_snoc, if_neg (by unfold blk; rw [hb]; simp)]
  exact (lsnoc h).symm

set_option maxHeartbeats 800000 in
theorem rtrim_any (s : ByteArray) (w : World) (hs : s.size ≤ 1099511627776) :
    Calls Tryz.prog 78 #[.string s] w fun e w' => e = .returned (.string ⟨(trim s.data.toList).toArray⟩) ∧ w = w' := by
  go_enter Tryz.func78, Tryz.ntmps78
  go_wp2_with fail
  go_loop [0] (fun v => ∃ t : ByteArray, v = .string t ∧ t.size ≤ 1099511627776 ∧ Hid (trimL t.data.toList = trimL s.data.toList)) strOf
  case atStart => exact ⟨s, rfl, hs, Lib.hid rfl⟩
  case round =>
    obtain ⟨t, rfl, ht, hr⟩ := hrel
    by_cases h0 : 0 < t.size
    · cases ha : blkB (t[0].toNat : Int)
      · have HE := Lib.hid (head_stop h0 ha)
        go_wp2_with (go_at_call 67; refine (rblank_any _ (byte_lo _) (byte_hi _) _).mono ?_; rintro e w' ⟨rfl, rfl⟩)
        clear ha
        go_loop [0] (fun v => ∃ t : ByteArray, v = .string t ∧ t.size ≤ 1099511627776 ∧ Hid (trimR t.data.toList = trim s.data.toList)) strOf
        case atStart => exact ⟨t, rfl, ht, Lib.hid (by rw [← trim_turn, ← hr.out, HE.out])⟩
        case round =>
          clear ht hr HE
          obtain ⟨t2, rfl, ht2, hr2⟩ := hrel
          by_cases h2 : 0 < t2.size
          · have h3 : t2.size - 1 < t2.size := by omega
            cases hb : blkB (t2[t2.size - 1].toNat : Int)
            · have HR := Lib.hid (last_stop h3 hb)
              go_wp2_with (go_at_call 67; refine (rblank_any _ (byte_lo _) (byte_hi _) _).mono ?_; rintro e w' ⟨rfl, rfl⟩)
              go_ret
              exact ⟨ret_str (by rw [← hr2.out, HR.out]), rfl⟩
            · have HR := Lib.hid (last_step h3 hb)
              go_wp2_with (go_at_call 67; refine (rblank_any _ (byte_lo _) (byte_hi _) _).mono ?_; rintro e w' ⟨rfl, rfl⟩)
              go_round
              case rel => exact ⟨_, rfl, by simp; omega, Lib.hid (by rw [HR.out, hr2.out])⟩
              case measure => simp [strOf]; omega
          · obtain rfl : t2 = ⟨#[]⟩ := bempty (by omega)
            go_wp2_with fail
            go_ret
            exact ⟨ret_str (by rw [← hr2.out]; rfl), rfl⟩
      · have HR := Lib.hid (head_step h0 ha)
        go_wp2_with (go_at_call 67; refine (rblank_any _ (byte_lo _) (byte_hi _) _).mono ?_; rintro e w' ⟨rfl, rfl⟩)
        go_round
        case rel => exact ⟨_, rfl, by simp; omega, Lib.hid (by rw [HR.out, hr.out])⟩
        case measure => simp [strOf]; omega
    · obtain rfl : t = ⟨#[]⟩ := bempty (by omega)
      have HZ := Lib.hid (show trim s.data.toList = [] by rw [← trim_turn, ← hr.out]; rfl)
      go_wp2_with fail
      go_rounds 1
      go_ret
      exact ⟨ret_str (by rw [HZ.out]), rfl⟩

end Go.Proofs.YtilebfpaibajcaaGreatDoor
