/- The five statements of layer 2: each answers true. -/
import Derived.Test.YtbddempoohiaoaaDoorOctetWake
namespace Go.Proofs.YtbddempoohiaoaaDoor
open Go.ChangeShapes Go.WideShapes Go.ChangeAt Go.RowKit
open Oc
set_option linter.unusedVariables false

theorem next {w w1 w2 : World} (h : Below w.heap.size w w1) (g : Below w1.heap.size w1 w2) : Below w.heap.size w w2 := h.trans (g.mono h.size)

set_option maxHeartbeats 800000 in
theorem kinds_walk (s : ByteArray) (w : World) (hsp : Spans w) :
    Calls Tryd.prog 3 #[.string s] w fun e w' => e = .returned (.bool true) ∧ Below w.heap.size w w' := by
  by_cases hl : (500 : Int) < (s.size : Int)
  · go_enter Tryd.func3, Tryd.ntmps3
    go_wp2_with fail
    refine (wakes2_any _ hsp).mono ?_; rintro e w1 ⟨rfl, hb1⟩
    go_wp2_with fail
    go_ret
    exact ⟨rfl, hb1⟩
  · have hs : s.size ≤ 1099511627776 := by omega
    go_enter Tryd.func3, Tryd.ntmps3
    go_wp2_with fail
    refine (wakes2_any _ hsp).mono ?_; rintro e w1 ⟨rfl, hb1⟩
    go_wp2_with fail
    refine (token_any s _ hs (hsp.below hb1)).mono ?_; rintro e w2 ⟨rfl, hb2⟩
    have hB2 := next hb1 hb2
    go_wp2_with fail
    refine (rtoken_any s _ hs).mono ?_; rintro e w3 ⟨rfl, rfl⟩
    go_wp2_with fail
    refine (text_any s _ hs).mono ?_; rintro e w4 ⟨rfl, hb4⟩
    have hB4 := next hB2 hb4
    go_wp2_with fail
    refine (rtext_any s _ hs).mono ?_; rintro e w5 ⟨rfl, rfl⟩
    go_wp2_with fail
    refine (value_any s _ hs).mono ?_; rintro e w6 ⟨rfl, hb6⟩
    have hB6 := next hB4 hb6
    go_wp2_with fail
    refine (rvalue_any s _ hs).mono ?_; rintro e w7 ⟨rfl, rfl⟩
    go_wp2_with fail
    go_ret
    exact ⟨rfl, hB6⟩

set_option maxHeartbeats 800000 in
theorem bytes_walk0 (c : UInt8) (w : World) (hsp : Spans w) :
    Calls Tryd.prog 4 #[.int .u8 (c.toNat : Int)] w fun e w' => e = .returned (.bool true) ∧ Below w.heap.size w w' := by
  obtain ⟨s, HS⟩ : ∃ s : ByteArray, Hid (s = ⟨[c].toArray⟩) := ⟨_, Lib.hid rfl⟩
  have hs : s.size ≤ 1099511627776 := by rw [HS.out]; show ([c].toArray).size ≤ _; simp
  have hcv : ∀ wx : World, (convert 24 9 (.slice (some ⟨wx.heap.size, 0, none⟩) 1 1)).run Tryd.prog (wx.alloc (.cells #[.int .u8 (c.toNat : Int)] 5)) = .ok (.string s) (wx.alloc (.cells #[.int .u8 (c.toNat : Int)] 5)) := by
    intro wx
    rw [HS.out]
    refine run_convert_bytes_back (P := Tryd.prog) _ 24 9 5 ⟨wx.heap.size, 0, none⟩ 1 [c] Tryd.underlying24 Tryd.underlying5 Tryd.underlying9 (fun j hj => ?_)
    obtain rfl : j = 0 := by simpa using hj
    exact cell_one_new _ _ _ 0 _ rfl
  go_enter Tryd.func4, Tryd.ntmps4
  go_wp2_with fail
  refine (wakes2_any _ hsp).mono ?_; rintro e w1 ⟨rfl, hb1⟩
  have hcv1 := hcv w1
  have hB1 := hb1.alloc hb1.size (.cells #[.int .u8 (c.toNat : Int)] 5)
  clear hcv
  generalize hw2 : w1.alloc (.cells #[.int .u8 (c.toNat : Int)] 5) = w1b at hcv1 hB1
  go_wp2_with fail
  refine (token_any s _ hs (hsp.below hB1)).mono ?_; rintro e w2 ⟨rfl, hb2⟩
  have hB2 := next hB1 hb2
  go_wp2_with fail
  refine (rtoken_any s _ hs).mono ?_; rintro e w3 ⟨rfl, rfl⟩
  go_wp2_with fail
  refine (text_any s _ hs).mono ?_; rintro e w4 ⟨rfl, hb4⟩
  have hB4 := next hB2 hb4
  go_wp2_with fail
  refine (rtext_any s _ hs).mono ?_; rintro e w5 ⟨rfl, rfl⟩
  go_wp2_with fail
  refine (value_any s _ hs).mono ?_; rintro e w6 ⟨rfl, hb6⟩
  have hB6 := next hB4 hb6
  go_wp2_with fail
  refine (rvalue_any s _ hs).mono ?_; rintro e w7 ⟨rfl, rfl⟩
  go_wp2_with fail
  go_ret
  exact ⟨rfl, hB6⟩

theorem bytes_walk (a0 : Int) (w0 : (Lit.int .u8 a0).wf = true) (w : World) (hsp : Spans w) :
    Calls Tryd.prog 4 #[.int .u8 a0] w fun e w' => e = .returned (.bool true) ∧ Below w.heap.size w w' := by
  have b0 := bounds_u8 w0
  obtain ⟨b, rfl⟩ : ∃ b : UInt8, a0 = (b.toNat : Int) := ⟨UInt8.ofNat a0.toNat, by simp; omega⟩
  exact bytes_walk0 b w hsp

set_option maxHeartbeats 800000 in
theorem trims_walk (s : ByteArray) (w : World) (hsp : Spans w) :
    Calls Tryd.prog 5 #[.string s] w fun e w' => e = .returned (.bool true) ∧ Below w.heap.size w w' := by
  by_cases hl : (500 : Int) < (s.size : Int)
  · go_enter Tryd.func5, Tryd.ntmps5
    go_wp2_with fail
    refine (wakes2_any _ hsp).mono ?_; rintro e w1 ⟨rfl, hb1⟩
    go_wp2_with fail
    go_ret
    exact ⟨rfl, hb1⟩
  · have hs : s.size ≤ 1099511627776 := by omega
    obtain ⟨a, HA⟩ : ∃ a : ByteArray, Hid (a = ⟨(trim s.data.toList).toArray⟩) := ⟨_, Lib.hid rfl⟩
    obtain ⟨b, HB⟩ : ∃ b : ByteArray, Hid (b = ⟨(small s.data.toList).toArray⟩) := ⟨_, Lib.hid rfl⟩
    have ha : a.size ≤ 1099511627776 := by rw [HA.out, bsize]; have := trim_le s.data.toList; rw [blen] at this; omega
    have hb : b.size ≤ 1099511627776 := by rw [HB.out, bsize, small_len, blen]; omega
    have HT := Lib.hid fun w => HA.out ▸ trim_any s w hs
    have HS := Lib.hid fun w => HB.out ▸ small_any s w hs
    have HRT := Lib.hid fun w => HA.out ▸ rtrim_any s w hs
    have HRS := Lib.hid fun w => HB.out ▸ rsmall_any s w hs
    have HTT := Lib.hid fun w => (show (⟨(trim a.data.toList).toArray⟩ : ByteArray) = a by rw [HA.out]; simp [trim_twice]) ▸ trim_any a w ha
    have HSS := Lib.hid fun w => (show (⟨(small b.data.toList).toArray⟩ : ByteArray) = b by rw [HB.out]; simp [small_twice]) ▸ small_any b w hb
    have HAL := Lib.hid fun w => (show alike s.data.toList b.data.toList = true by rw [HB.out]; exact alike_small _) ▸ alike_any s b w hs hb
    have HV := Lib.hid fun w => (show value a.data.toList = text a.data.toList by rw [HA.out]; exact value_trim _) ▸ value_any a w ha
    go_enter Tryd.func5, Tryd.ntmps5
    go_wp2_with fail
    refine (wakes2_any _ hsp).mono ?_; rintro e w1 ⟨rfl, hb1⟩
    go_wp2_with fail
    refine (HT.out _).mono ?_; rintro e w2 ⟨rfl, hb2⟩
    have hB2 := next hb1 hb2
    go_wp2_with fail
    refine (HS.out _).mono ?_; rintro e w3 ⟨rfl, hb3⟩
    have hB3 := next hB2 hb3
    go_wp2_with fail
    refine (HRT.out _).mono ?_; rintro e w4 ⟨rfl, rfl⟩
    go_wp2_with fail
    refine (HRS.out _).mono ?_; rintro e w5 ⟨rfl, hb5⟩
    have hB5 := next hB3 hb5
    go_wp2_with fail
    refine (HTT.out _).mono ?_; rintro e w6 ⟨rfl, hb6⟩
    have hB6 := next hB5 hb6
    go_wp2_with fail
    refine (HSS.out _).mono ?_; rintro e w7 ⟨rfl, hb7⟩
    have hB7 := next hB6 hb7
    go_wp2_with fail
    refine (HAL.out _).mono ?_; rintro e w8 ⟨rfl, hb8⟩
    have hB8 := next hB7 hb8
    go_wp2_with fail
    refine (HV.out _).mono ?_; rintro e w9 ⟨rfl, hb9⟩
    have hB9 := next hB8 hb9
    go_wp2_with fail
    refine (rtext_any a _ ha).mono ?_; rintro e w10 ⟨rfl, rfl⟩
    go_wp2_with fail
    go_ret
    exact ⟨rfl, hB9⟩

set_option maxHeartbeats 800000 in
theorem alike_walk (a b : ByteArray) (w : World) (hsp : Spans w) :
    Calls Tryd.prog 6 #[.string a, .string b] w fun e w' => e = .returned (.bool true) ∧ Below w.heap.size w w' := by
  by_cases hl : (500 : Int) < (a.size : Int)
  · go_enter Tryd.func6, Tryd.ntmps6
    go_wp2_with fail
    refine (wakes2_any _ hsp).mono ?_; rintro e w1 ⟨rfl, hb1⟩
    go_wp2_with fail
    go_ret
    exact ⟨rfl, hb1⟩
  by_cases hl2 : (500 : Int) < (b.size : Int)
  · go_enter Tryd.func6, Tryd.ntmps6
    go_wp2_with fail
    refine (wakes2_any _ hsp).mono ?_; rintro e w1 ⟨rfl, hb1⟩
    go_wp2_with fail
    go_ret
    exact ⟨rfl, hb1⟩
  have ha : a.size ≤ 1099511627776 := by omega
  have hb : b.size ≤ 1099511627776 := by omega
  have HX := Lib.hid fun w => alike_turn b.data.toList a.data.toList ▸ alike_any b a w hb ha
  go_enter Tryd.func6, Tryd.ntmps6
  go_wp2_with fail
  refine (wakes2_any _ hsp).mono ?_; rintro e w1 ⟨rfl, hb1⟩
  go_wp2_with fail
  refine (alike_any a b _ ha hb).mono ?_; rintro e w2 ⟨rfl, hb2⟩
  have hB2 := next hb1 hb2
  go_wp2_with fail
  refine (rsmall_any a _ ha).mono ?_; rintro e w3 ⟨rfl, hb3⟩
  have hB3 := next hB2 hb3
  go_wp2_with fail
  refine (rsmall_any b _ hb).mono ?_; rintro e w4 ⟨rfl, hb4⟩
  have hB4 := next hB3 hb4
  have e1 : (small a.data.toList == small b.data.toList) = alike a.data.toList b.data.toList := by unfold alike; rw [Bool.eq_iff_iff]; simp
  go_wp2_with fail
  refine (HX.out _).mono ?_; rintro e w5 ⟨rfl, hb5⟩
  have hB5 := next hB4 hb5
  go_wp2_with fail
  refine (alike_any a b _ ha hb).mono ?_; rintro e w6 ⟨rfl, hb6⟩
  have hB6 := next hB5 hb6
  go_wp2_with fail
  go_ret
  exact ⟨rfl, hB6⟩

theorem bjoin (a b : ByteArray) : (a ++ b).data.toList = a.data.toList ++ b.data.toList := by simp
theorem bjoin_size (a b : ByteArray) : (a ++ b).size = a.size + b.size := by simp

set_option maxHeartbeats 800000 in
theorem joins_walk (a b : ByteArray) (w : World) (hsp : Spans w) :
    Calls Tryd.prog 7 #[.string a, .string b] w fun e w' => e = .returned (.bool true) ∧ Below w.heap.size w w' := by
  by_cases hl : (300 : Int) < (a.size : Int)
  · go_enter Tryd.func7, Tryd.ntmps7
    go_wp2_with fail
    refine (wakes2_any _ hsp).mono ?_; rintro e w1 ⟨rfl, hb1⟩
    go_wp2_with fail
    go_ret
    exact ⟨rfl, hb1⟩
  by_cases hl2 : (300 : Int) < (b.size : Int)
  · go_enter Tryd.func7, Tryd.ntmps7
    go_wp2_with fail
    refine (wakes2_any _ hsp).mono ?_; rintro e w1 ⟨rfl, hb1⟩
    go_wp2_with fail
    go_ret
    exact ⟨rfl, hb1⟩
  have ha : a.size ≤ 1099511627776 := by omega
  have hb : b.size ≤ 1099511627776 := by omega
  have hab : (a ++ b).size ≤ 1099511627776 := by rw [bjoin_size]; omega
  have HX := Lib.hid fun w => (show text (a ++ b).data.toList = (text a.data.toList && text b.data.toList) by rw [bjoin, text_append]) ▸ text_any (a ++ b) w hab
  go_enter Tryd.func7, Tryd.ntmps7
  go_wp2_with fail
  refine (wakes2_any _ hsp).mono ?_; rintro e w1 ⟨rfl, hb1⟩
  go_wp2_with fail
  refine (HX.out _).mono ?_; rintro e w2 ⟨rfl, hb2⟩
  have hB2 := next hb1 hb2
  go_wp2_with fail
  refine (text_any a _ ha).mono ?_; rintro e w3 ⟨rfl, hb3⟩
  have hB3 := next hB2 hb3
  cases hta : text a.data.toList
  · go_wp2_with fail
    refine (token_any a _ ha (hsp.below hB3)).mono ?_; rintro e w5 ⟨rfl, hb5⟩
    have hB5 := next hB3 hb5
    cases hka : token a.data.toList
    · go_wp2_with fail
      go_ret
      exact ⟨rfl, hB5⟩
    · go_wp2_with fail
      refine (token_any b _ hb (hsp.below hB5)).mono ?_; rintro e w6 ⟨rfl, hb6⟩
      have hB6 := next hB5 hb6
      cases hkb : token b.data.toList
      · go_wp2_with fail
        go_ret
        exact ⟨rfl, hB6⟩
      · go_wp2_with fail
        have hk := (show token (a ++ b).data.toList = true by rw [bjoin]; exact token_append _ _ hka hkb) ▸ token_any (a ++ b) w6 hab (hsp.below hB6)
        refine hk.mono ?_; rintro e w7 ⟨rfl, hb7⟩
        have hB7 := next hB6 hb7
        go_wp2_with fail
        go_ret
        exact ⟨rfl, hB7⟩
  · go_wp2_with fail
    refine (text_any b _ hb).mono ?_; rintro e w4 ⟨rfl, hb4⟩
    have hB4 := next hB3 hb4
    go_wp2_with fail
    refine (token_any a _ ha (hsp.below hB4)).mono ?_; rintro e w5 ⟨rfl, hb5⟩
    have hB5 := next hB4 hb5
    cases hka : token a.data.toList
    · go_wp2_with fail
      go_ret
      exact ⟨rfl, hB5⟩
    · go_wp2_with fail
      refine (token_any b _ hb (hsp.below hB5)).mono ?_; rintro e w6 ⟨rfl, hb6⟩
      have hB6 := next hB5 hb6
      cases hkb : token b.data.toList
      · go_wp2_with fail
        go_ret
        exact ⟨rfl, hB6⟩
      · go_wp2_with fail
        have hk := (show token (a ++ b).data.toList = true by rw [bjoin]; exact token_append _ _ hka hkb) ▸ token_any (a ++ b) w6 hab (hsp.below hB6)
        refine hk.mono ?_; rintro e w7 ⟨rfl, hb7⟩
        have hB7 := next hB6 hb7
        go_wp2_with fail
        go_ret
        exact ⟨rfl, hB7⟩

end Go.Proofs.YtbddempoohiaoaaDoor
