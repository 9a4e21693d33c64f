/- What octet.Token, octet.Text, and the document's Token, Text, token, Byte, blank answer. -/
import Derived.Test.YtilebfpaibajcaaGreatDoorOctetGo
namespace Go.Proofs.YtilebfpaibajcaaGreatDoor
open Go.ChangeShapes Go.WideShapes Go.ChangeAt Go.RowKit
open Oc
set_option linter.unusedVariables false
set_option maxRecDepth 100000

theorem bempty {s : ByteArray} (h : s.size = 0) : s = ⟨#[]⟩ := ByteArray.size_eq_zero_iff.1 h
theorem bne_of (s : ByteArray) (h : ¬ s.size = 0) : s.toList.isEmpty = false := by
  rw [ByteArray.toList_eq]; cases s; rename_i d; cases d; rename_i l; cases l with
  | nil => exact absurd rfl h
  | cons => rfl
theorem bne_data (s : ByteArray) (h : ¬ s.size = 0) : s.data.toList.isEmpty = false := by
  cases s; rename_i d; cases d; rename_i l; cases l with
  | nil => exact absurd rfl h
  | cons => rfl
theorem token_ne {s : ByteArray} (h : ¬ s.size = 0) : token s.data.toList = every tokB s.data.toList := by
  unfold token; rw [bne_data s h]; rfl

set_option maxHeartbeats 400000 in
theorem token_any (s : ByteArray) (w : World) (hs : s.size ≤ 1099511627776) (hsp : Spans w) :
    Calls Tryz.prog 91 #[.string s] w fun e w' => e = .returned (.bool (token s.data.toList)) ∧ Below w.heap.size w w' := by
  by_cases h0 : s.size = 0
  · obtain rfl : s = ⟨#[]⟩ := bempty h0
    go_enter Tryz.func91, Tryz.ntmps91
    go_wp2_with fail
    go_ret
    exact ⟨ret_bool (by decide), Below.refl _ _⟩
  · have hne := bne_of s h0
    have hA := all_any tokB 94 s w hs (enters_of Tryz.func94 (by kernel_rfl) rfl) (fun c w' c0 c1 hb => tok_any c c0 c1 w' (hsp.below hb))
    go_enter Tryz.func91, Tryz.ntmps91
    go_wp2_with (go_at_call 86; refine hA.mono ?_; rintro e w' ⟨rfl, hb⟩)
    go_ret
    exact ⟨ret_bool (by rw [token_ne h0]), hb⟩

set_option maxHeartbeats 400000 in
theorem text_any (s : ByteArray) (w : World) (hs : s.size ≤ 1099511627776) :
    Calls Tryz.prog 82 #[.string s] w fun e w' => e = .returned (.bool (text s.data.toList)) ∧ Below w.heap.size w w' := by
  have hA := all_any txtB 87 s w hs (enters_of Tryz.func87 (by kernel_rfl) rfl) (fun c w' c0 c1 hb => (txt_any c c0 c1 w').mono fun e w'' ⟨he, hw⟩ => ⟨he, hw ▸ Below.refl _ _⟩)
  go_enter Tryz.func82, Tryz.ntmps82
  go_wp2_with (go_at_call 86; refine hA.mono ?_; rintro e w' ⟨rfl, hb⟩)
  go_ret
  exact ⟨rfl, hb⟩

set_option maxHeartbeats 400000 in
theorem rtok_any (c : Int) (h0 : 0 ≤ c) (h1 : c ≤ 255) (w : World) :
    Calls Tryz.prog 65 #[.int .u8 c] w fun e w' => e = .returned (.bool (tokB c)) ∧ w = w' := by
  go_enter Tryz.func65, Tryz.ntmps65
  go_wp2_with fail
  all_goals
    go_ret
    refine ⟨ret_bool ?_, rfl⟩
    try simp only [beq_iff_eq, beq_eq_false_iff_ne, ne_eq] at *
    unfold tokB wordB markB; rw [Bool.eq_iff_iff]; simp; omega

set_option maxHeartbeats 400000 in
theorem rbyte_any (c : Int) (h0 : 0 ≤ c) (h1 : c ≤ 255) (w : World) :
    Calls Tryz.prog 58 #[.int .u8 c] w fun e w' => e = .returned (.bool (txtB c)) ∧ w = w' := by
  go_enter Tryz.func58, Tryz.ntmps58
  go_wp2_with fail
  all_goals
    go_ret
    exact ⟨ret_bool (by unfold txtB; rw [Bool.eq_iff_iff]; simp; omega), rfl⟩

set_option maxHeartbeats 400000 in
theorem rblank_any (c : Int) (h0 : 0 ≤ c) (h1 : c ≤ 255) (w : World) :
    Calls Tryz.prog 67 #[.int .u8 c] w fun e w' => e = .returned (.bool (blkB c)) ∧ w = w' := by
  go_enter Tryz.func67, Tryz.ntmps67
  go_wp2_with fail
  all_goals
    go_ret
    exact ⟨ret_bool (by unfold blkB; rw [Bool.eq_iff_iff]; simp_all), rfl⟩

set_option maxHeartbeats 400000 in
theorem rtoken_any (s : ByteArray) (w : World) (hs : s.size ≤ 1099511627776) :
    Calls Tryz.prog 51 #[.string s] w fun e w' => e = .returned (.bool (token s.data.toList)) ∧ w = w' := by
  go_enter Tryz.func51, Tryz.ntmps51
  go_wp2_with fail
  go_loop [3] (fun i => ∃ k : Nat, k ≤ s.size ∧ i = .int .i64 k ∧ Hid (∀ c ∈ s.data.toList.take k, tokB (c.toNat : Int) = true)) (fun i => s.size - (intOf i).toNat)
  case atStart => exact ⟨0, Nat.zero_le _, rfl, Lib.hid (by simp)⟩
  case round =>
    obtain ⟨k, hk, rfl, ha⟩ := hrel
    by_cases hlt : k < s.size
    · have hb0 := byte_lo s[k]
      have hb1 := byte_hi s[k]
      cases hp : tokB (s[k].toNat : Int)
      · go_wp2_with (go_at_call 65; refine (rtok_any _ hb0 hb1 _).mono ?_; rintro e w' ⟨rfl, rfl⟩)
        go_ret
        exact ⟨ret_bool (by unfold token; rw [every_stop hlt hp, Bool.and_false]), rfl⟩
      · go_wp2_with (go_at_call 65; refine (rtok_any _ hb0 hb1 _).mono ?_; rintro e w' ⟨rfl, rfl⟩)
        go_round
        case rel => exact ⟨k + 1, by omega, by go_num, Lib.hid (bmem_succ hlt ha.out hp)⟩
        case measure => simp [intOf]; omega
    · by_cases h0 : s.size = 0
      · obtain rfl : s = ⟨#[]⟩ := bempty h0
        go_wp2
        go_ret
        exact ⟨ret_bool (by decide), rfl⟩
      · go_wp2
        go_ret
        exact ⟨ret_bool (by rw [token_ne h0, every_all hlt ha.out]; simp; omega), rfl⟩

set_option maxHeartbeats 400000 in
theorem rtext_any (s : ByteArray) (w : World) (hs : s.size ≤ 1099511627776) :
    Calls Tryz.prog 66 #[.string s] w fun e w' => e = .returned (.bool (text s.data.toList)) ∧ w = w' := by
  go_enter Tryz.func66, Tryz.ntmps66
  go_wp2_with fail
  go_loop [3] (fun i => ∃ k : Nat, k ≤ s.size ∧ i = .int .i64 k ∧ Hid (∀ c ∈ s.data.toList.take k, txtB (c.toNat : Int) = true)) (fun i => s.size - (intOf i).toNat)
  case atStart => exact ⟨0, Nat.zero_le _, rfl, Lib.hid (by simp)⟩
  case round =>
    obtain ⟨k, hk, rfl, ha⟩ := hrel
    by_cases hlt : k < s.size
    · have hb0 := byte_lo s[k]
      have hb1 := byte_hi s[k]
      cases hp : txtB (s[k].toNat : Int)
      · go_wp2_with (go_at_call 58; refine (rbyte_any _ hb0 hb1 _).mono ?_; rintro e w' ⟨rfl, rfl⟩)
        go_ret
        exact ⟨ret_bool (by unfold text; rw [every_stop hlt hp]), rfl⟩
      · go_wp2_with (go_at_call 58; refine (rbyte_any _ hb0 hb1 _).mono ?_; rintro e w' ⟨rfl, rfl⟩)
        go_round
        case rel => exact ⟨k + 1, by omega, by go_num, Lib.hid (bmem_succ hlt ha.out hp)⟩
        case measure => simp [intOf]; omega
    · go_wp2
      go_ret
      exact ⟨ret_bool (by unfold text; rw [every_all hlt ha.out]), rfl⟩

end Go.Proofs.YtilebfpaibajcaaGreatDoor
