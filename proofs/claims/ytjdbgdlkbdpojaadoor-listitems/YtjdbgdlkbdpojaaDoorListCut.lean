/- strings.Cut at a comma and at a semicolon; list.nameOf. -/
import Derived.Test.YtjdbgdlkbdpojaaDoorListMath
import Derived.Test.YtjdbgdlkbdpojaaDoorOctetTrim
import Derived.Test.YtjdbgdlkbdpojaaDoorFieldRows
namespace Go.Proofs.YtjdbgdlkbdpojaaDoor
open Go.ChangeShapes Go.WideShapes Go.ChangeAt Go.RowKit
open Oc Fl Ls
set_option linter.unusedVariables false

/-- As the library tells it. -/
def posI (c : UInt8) (s : ByteArray) : Int := if pos c s.data.toList < s.data.toList.length then (pos c s.data.toList : Int) else -1

set_option maxHeartbeats 1000000 in
theorem byte_low (c : UInt8) (hc : c = 44 ∨ c = 59) (s : ByteArray) (w : World) :
    Calls Tryd.prog 53 #[.string s, .int .u8 (c.toNat : Int)] w fun e w' => e = .returned (.int .i64 (posI c s)) ∧ w = w' := by
  have hp : Hid (Lib.indexByte s.data.toList c = posI c s) := Lib.hid (pos_index c s.data.toList)
  rcases hc with rfl | rfl
  all_goals
    go_enter Tryd.func53, Tryd.ntmps53
    go_wp2
    rw [run_callFunc_extern Tryd.func58 (by kernel_rfl) (by kernel_rfl) (by kernel_rfl) (e := Extern.BytealgIndexByte.indexByte) (by kernel_rfl), Lib.run_indexByteString]
    simp only [Result.andThen]
    rw [Oper.upon_value]
    go_wp2
    go_ret
    exact ⟨by rw [← hp.out]; rfl, rfl⟩

theorem one_byte {c : UInt8} {s : ByteArray} (h : ([c] == s.toList) = true) : posI c s = 0 := by
  have h1 : s.data.toList = [c] := by rw [ByteArray.toList_eq] at h; exact (beq_iff_eq.1 h).symm
  unfold posI
  rw [h1, pos_cons, if_pos rfl]; rfl

set_option maxHeartbeats 1000000 in
theorem byte_any (c : UInt8) (hc : c = 44 ∨ c = 59) (s : ByteArray) (w : World) :
    Calls Tryd.prog 54 #[.string s, .string ⟨#[c]⟩] w fun e w' => e = .returned (.int .i64 (posI c s)) ∧ w = w' := by
  have hl := Lib.hid (byte_low c hc s w)
  cases h1 : ([c] == s.toList)
  · rcases hc with rfl | rfl
    all_goals
      go_enter Tryd.func54, Tryd.ntmps54
      go_wp2_with (go_at_call 53; refine hl.out.mono ?_; rintro e w' ⟨rfl, rfl⟩)
      go_ret
      exact ⟨rfl, rfl⟩
  · rw [one_byte h1]
    rcases hc with rfl | rfl
    all_goals
      go_enter Tryd.func54, Tryd.ntmps54
      go_wp2_with fail
      go_ret
      exact ⟨rfl, rfl⟩

/-- What stands ahead of the byte, and behind it. -/
def ahd (c : UInt8) (s : ByteArray) : ByteArray := arr (s.data.toList.take (pos c s.data.toList))
def bhd (c : UInt8) (s : ByteArray) : ByteArray := arr (s.data.toList.drop (pos c s.data.toList + 1))
theorem ahd_eq (c : UInt8) (s : ByteArray) : s.extract 0 (pos c s.data.toList) = ahd c s := b_ext (by
  unfold ahd; rw [arr_list]; simp [ByteArray.data_extract, List.extract_eq_take_drop])
theorem bhd_eq (c : UInt8) (s : ByteArray) : s.extract (pos c s.data.toList + 1) s.size = bhd c s := b_ext (by
  unfold bhd; rw [arr_list]
  have : s.size = s.data.toList.length := (blen' s).symm
  simp only [ByteArray.data_extract, Array.toList_extract, List.extract_eq_take_drop]
  rw [this, List.take_of_length_le]
  simp)

set_option maxHeartbeats 2000000 in
theorem bcut_some (c : UInt8) (hc : c = 44 ∨ c = 59) (s : ByteArray) (w : World) (hs : s.size ≤ 1099511627776) (h : pos c s.data.toList < s.data.toList.length) :
    Calls Tryd.prog 48 #[.string s, .string ⟨#[c]⟩] w fun e w' => e = .returned (.tuple #[.string (ahd c s), .string (bhd c s), .bool true]) ∧ ∃ n, w' = w.drewN n := by
  have hl := Lib.hid (byte_any c hc s w)
  rw [show posI c s = (pos c s.data.toList : Int) from if_pos h] at hl
  have hbf := Lib.hid (ahd_eq c s)
  have hbh := Lib.hid (bhd_eq c s)
  rw [blen'] at h
  generalize ahd c s = x at hbf ⊢
  generalize bhd c s = y at hbh ⊢
  generalize pos c s.data.toList = k at hl h hbf hbh
  have c1 : (0 : Int) ≤ (k : Int) := by omega
  have c2 : (k : Int) ≤ (s.size : Int) := by omega
  have c3 : (0 : Int) ≤ (k : Int) + 1 := by omega
  have c4 : (k : Int) + 1 ≤ (s.size : Int) := by omega
  rcases hc with rfl | rfl
  all_goals
    go_enter Tryd.func48, Tryd.ntmps48
    go_wp2_with (go_at_call 54; refine hl.out.mono ?_; rintro e w' ⟨rfl, rfl⟩)
    go_quiet (fail)
    go_wp2
    go_ret3
    refine ⟨?_, _, rfl⟩
    first | (rw [← hbf.out, ← hbh.out]; rfl) | (rw [← hbf.out, ← hbh.out]; simp)

set_option maxHeartbeats 1000000 in
theorem bcut_none (c : UInt8) (hc : c = 44 ∨ c = 59) (s : ByteArray) (w : World) (h : ¬ pos c s.data.toList < s.data.toList.length) :
    Calls Tryd.prog 48 #[.string s, .string ⟨#[c]⟩] w fun e w' => e = .returned (.tuple #[.string s, .string ⟨#[]⟩, .bool false]) ∧ ∃ n, w' = w.drewN n := by
  have hl := Lib.hid (byte_any c hc s w)
  rw [show posI c s = -1 from if_neg h] at hl
  clear h
  rcases hc with rfl | rfl
  all_goals
    go_enter Tryd.func48, Tryd.ntmps48
    go_wp2_with (go_at_call 54; refine hl.out.mono ?_; rintro e w' ⟨rfl, rfl⟩)
    go_ret3
    exact ⟨rfl, 0, rfl⟩

set_option maxHeartbeats 1000000 in
theorem bcut_yes (c : UInt8) (hc : c = 44 ∨ c = 59) (s : ByteArray) (w : World) (hs : s.size ≤ 1099511627776) (h : pos c s.data.toList < s.data.toList.length) :
    Calls Tryd.prog 33 #[.string s, .string ⟨#[c]⟩] w fun e w' => e = .returned (.tuple #[.string (ahd c s), .string (bhd c s), .bool true]) ∧ ∃ n, w' = w.drewN n := by
  have hl := Lib.hid (bcut_some c hc s w hs h)
  clear h hc
  go_enter Tryd.func33, Tryd.ntmps33
  go_wp2_with (go_at_call 48; refine hl.out.mono ?_; rintro e w' ⟨rfl, n, rfl⟩)
  go_ret3
  exact ⟨rfl, n, rfl⟩
set_option maxHeartbeats 1000000 in
theorem bcut_no (c : UInt8) (hc : c = 44 ∨ c = 59) (s : ByteArray) (w : World) (h : ¬ pos c s.data.toList < s.data.toList.length) :
    Calls Tryd.prog 33 #[.string s, .string ⟨#[c]⟩] w fun e w' => e = .returned (.tuple #[.string s, .string ⟨#[]⟩, .bool false]) ∧ ∃ n, w' = w.drewN n := by
  have hl := Lib.hid (bcut_none c hc s w h)
  clear h hc
  go_enter Tryd.func33, Tryd.ntmps33
  go_wp2_with (go_at_call 48; refine hl.out.mono ?_; rintro e w' ⟨rfl, n, rfl⟩)
  go_ret3
  exact ⟨rfl, n, rfl⟩

theorem below_drew {w : World} (n : Nat) : Below w.heap.size w (w.drewN n) := ⟨rfl, rfl, rfl, Nat.le_refl _, fun _ _ => rfl⟩
/-- An item's name. -/
theorem name_any (s : ByteArray) (w : World) (hs : s.size ≤ 1099511627776) :
    Calls Tryd.prog 25 #[.string s] w fun e w' => e = .returned (.string (nm s)) ∧ Below w.heap.size w w' := by
  by_cases h : pos 59 s.data.toList < s.data.toList.length
  · have hC := Lib.hid (bcut_yes 59 (.inr rfl) s w hs h)
    have hz : (ahd 59 s).size ≤ 1099511627776 := by unfold ahd; rw [arr_size, List.length_take, blen']; omega
    have hT : Hid (∀ W, _) := Lib.hid fun W => trim_any (ahd 59 s) W hz
    rw [show (⟨(trim (ahd 59 s).data.toList).toArray⟩ : ByteArray) = nm s by unfold nm ahd; rw [arr_list]; rfl] at hT
    generalize nm s = u at hT ⊢
    generalize ahd 59 s = x at *
    generalize bhd 59 s = y at *
    clear h
    go_enter Tryd.func25, Tryd.ntmps25
    go_wp2_with fail
    refine hC.out.mono ?_
    rintro e w1 ⟨rfl, n, rfl⟩
    go_wp2_with fail
    refine (hT.out _).mono ?_
    rintro e w2 ⟨rfl, hb⟩
    go_wp2_with fail
    go_ret
    exact ⟨rfl, ahead (below_drew n) hb⟩
  · have hC := Lib.hid (bcut_no 59 (.inr rfl) s w h)
    have hT : Hid (∀ W, _) := Lib.hid fun W => trim_any s W hs
    rw [show (⟨(trim s.data.toList).toArray⟩ : ByteArray) = nm s by unfold nm; rw [List.take_of_length_le (Nat.not_lt.1 h)]; rfl] at hT
    generalize nm s = u at hT ⊢
    clear h
    go_enter Tryd.func25, Tryd.ntmps25
    go_wp2_with fail
    refine hC.out.mono ?_
    rintro e w1 ⟨rfl, n, rfl⟩
    go_wp2_with fail
    refine (hT.out _).mono ?_
    rintro e w2 ⟨rfl, hb⟩
    go_wp2_with fail
    go_ret
    exact ⟨rfl, ahead (below_drew n) hb⟩

end Go.Proofs.YtjdbgdlkbdpojaaDoor
