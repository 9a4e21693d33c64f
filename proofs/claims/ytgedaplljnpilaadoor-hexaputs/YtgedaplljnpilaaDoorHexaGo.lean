/- What hexa.Digit, hexa.More, hexa.Digits and hexa.Parse answer. -/
import Derived.Test.YtgedaplljnpilaaDoorRows
import Derived.Test.YtgedaplljnpilaaDoorHexaMath
import Derived.WalkKit
import Derived.WalkLawsBesides
import Derived.ProofKit
import Derived.OpenShut
import Derived.Handy
import Derived.Outline
import Derived.Lib.Hide
import Derived.Deep.QuietTactic
import Derived.BigQuiet
import Derived.Deep.RegionWith
import Derived.Deep.DeepMust
import Derived.Maps.AppendAt
namespace Go.Proofs.YtgedaplljnpilaaDoor
open Go.ChangeShapes Go.WideShapes Go.ChangeAt Go.RowKit
open Hx
set_option linter.unusedVariables false

theorem ret_int {k : IntKind} {a b : Int} (h : a = b) : Ending.returned (.int k a) = .returned (.int k b) := by rw [h]
theorem ret_str {a b : ByteArray} (h : a = b) : Ending.returned (.string a) = .returned (.string b) := by rw [h]
theorem ret_two {k j : IntKind} {a b c d : Int} (h : a = b) (g : c = d) : Ending.returned (.tuple #[.int k a, .int j c]) = .returned (.tuple #[.int k b, .int j d]) := by rw [h, g]

set_option maxHeartbeats 400000 in
theorem digit_any (c : Int) (h0 : 0 ≤ c) (h1 : c ≤ 255) (w : World) :
    Calls Tryd.prog 13 #[.int .u8 c] w fun e w' => e = .returned (.int .i64 (dg c)) ∧ w = w' := by
  go_enter Tryd.func13, Tryd.ntmps13
  go_wp2_with fail
  all_goals
    go_ret
    exact ⟨ret_int (by unfold dg; (repeat' split) <;> omega), rfl⟩

theorem more_form (n c : Int) (h : dg c < 0) : more n c = (0, 2) := by unfold more; rw [if_pos h]
theorem more_big (n c : Int) (h : 0 ≤ dg c) (g : 288230376151711743 < n) : more n c = (0, 3) := by unfold more; rw [if_neg (by omega), if_pos g]
theorem more_ok (n c : Int) (h : 0 ≤ dg c) (g : n ≤ 288230376151711743) : more n c = (n * 16 + dg c, 0) := by unfold more; rw [if_neg (by omega), if_neg (by omega)]

set_option maxHeartbeats 400000 in
theorem more_any (n c : Int) (h0 : 0 ≤ c) (h1 : c ≤ 255) (n0 : 0 ≤ n) (n1 : n ≤ 18446744073709551615) (w : World) :
    Calls Tryd.prog 11 #[.int .u64 n, .int .u8 c] w fun e w' => e = .returned (.tuple #[.int .u64 (more n c).1, .int .i64 (more n c).2]) ∧ w = w' := by
  have hlo := dg_lo c
  have hhi := dg_hi c
  go_enter Tryd.func11, Tryd.ntmps11
  go_wp2_with (go_at_call 13; refine (digit_any _ h0 h1 _).mono ?_; rintro e w' ⟨rfl, rfl⟩)
  all_goals
    go_ret2
  · exact ⟨ret_two (by rw [more_form n c (by omega)]) (by rw [more_form n c (by omega)]), rfl⟩
  · exact ⟨ret_two (by rw [more_big n c (by omega) (by omega)]) (by rw [more_big n c (by omega) (by omega)]), rfl⟩
  · exact ⟨ret_two (by rw [more_ok n c (by omega) (by omega)]) (by rw [more_ok n c (by omega) (by omega)]), rfl⟩

theorem byte_lo (c : UInt8) : (0 : Int) ≤ (c.toNat : Int) := by omega
theorem byte_hi (c : UInt8) : (c.toNat : Int) ≤ 255 := by have := c.toNat_lt; omega
theorem btake (s : ByteArray) (k : Nat) (h : k < s.size) : s.data.toList.take (k + 1) = s.data.toList.take k ++ [s[k]] := by
  rw [List.take_succ_eq_append_getElem (by simpa using h)]; rfl
theorem bmem_succ {s : ByteArray} {k : Nat} (h : k < s.size) {P : UInt8 → Prop} (a : ∀ c ∈ s.data.toList.take k, P c) (b : P s[k]) : ∀ c ∈ s.data.toList.take (k + 1), P c := by
  intro c hc; rw [btake s k h, List.mem_append] at hc
  rcases hc with hc | hc
  · exact a c hc
  · simp at hc; subst hc; exact b
theorem bdigs_stop {s : ByteArray} {k : Nat} (h : k < s.size) (a : ∀ c ∈ s.data.toList.take k, isd c = true) (b : dg (s[k].toNat : Int) < 0) : digs s.data.toList = k :=
  digs_stop (by simpa using h) a (by unfold isd; rw [decide_eq_false_iff_not]; exact Int.not_le.2 b)
theorem bdigs_all {s : ByteArray} {k : Nat} (h : ¬ k < s.size) (a : ∀ c ∈ s.data.toList.take k, isd c = true) : digs s.data.toList = s.size := by
  have : digs s.data.toList = s.data.toList.length := digs_of_all (by rwa [List.take_of_length_le (by simp; exact Nat.le_of_not_lt h)] at a)
  rw [this]; simp

set_option maxHeartbeats 400000 in
theorem digits_any (s : ByteArray) (w : World) (hs : s.size ≤ 1099511627776) :
    Calls Tryd.prog 10 #[.string s] w fun e w' => e = .returned (.int .i64 (digs s.data.toList)) ∧ w = w' := by
  go_enter Tryd.func10, Tryd.ntmps10
  go_wp2; go_step3; go_wp2; go_step3; go_wp2
  go_loop [3, 7] (fun n i => ∃ k : Nat, k ≤ s.size ∧ i = .int .i64 k ∧ n = .int .i64 k ∧ Hid (∀ c ∈ s.data.toList.take k, isd c = true)) (fun _ i => s.size - (intOf i).toNat)
  case atStart => exact ⟨0, Nat.zero_le _, rfl, rfl, Lib.hid (by simp)⟩
  case round =>
    obtain ⟨k, hk, rfl, rfl, ha⟩ := hrel
    by_cases hlt : k < s.size
    · have hb0 := byte_lo s[k]
      have hb1 := byte_hi s[k]
      have hlo := dg_lo (s[k].toNat : Int)
      by_cases hd : dg (s[k].toNat : Int) < 0
      · have hb : (dg (s[k].toNat : Int) == -1) = true := beq_iff_eq.2 (by omega)
        go_wp2_with (go_at_call 13; refine (digit_any _ hb0 hb1 _).mono ?_; rintro e w' ⟨rfl, rfl⟩)
        rw [Exit.noGoto_ret]
        go_ret
        exact ⟨ret_int (by rw [bdigs_stop hlt ha.out hd]), rfl⟩
      · have hb : (dg (s[k].toNat : Int) == -1) = false := beq_eq_false_iff_ne.2 (by omega)
        go_wp2_with (go_at_call 13; refine (digit_any _ hb0 hb1 _).mono ?_; rintro e w' ⟨rfl, rfl⟩)
        go_round
        case rel => exact ⟨k + 1, by omega, by go_num, by go_num, Lib.hid (bmem_succ hlt ha.out (by unfold isd; simpa using hd))⟩
        case measure => simp [intOf]; omega
    · go_wp2
      go_ret
      exact ⟨ret_int (by have := bdigs_all hlt ha.out; omega), rfl⟩


theorem bempty {s : ByteArray} (h : s.size = 0) : s = ⟨#[]⟩ := ByteArray.size_eq_zero_iff.1 h
theorem parse_empty : parse [] = (0, 2) := by decide
theorem parse_bad (l : List UInt8) (h : digs l < l.length) : parse l = (0, 2) := by unfold parse; rw [if_pos (Or.inr h)]
theorem bne_of (s : ByteArray) (h : ¬ s.size = 0) : s.toList.isEmpty = false := by
  rw [ByteArray.toList_eq]; cases s; rename_i d; cases d; rename_i l; cases l with
  | nil => exact absurd rfl h
  | cons => rfl
theorem blen (s : ByteArray) : s.data.toList.length = s.size := by simp
theorem bisd {s : ByteArray} (h : ¬ digs s.data.toList < s.size) (k : Nat) (hk : k < s.size) : 0 ≤ dg (s[k].toNat : Int) :=
  isd_dg (digs_all (by rw [blen]; exact h) _ (by simp [ByteArray.getElem_eq_getElem_data]))
theorem bval_succ (s : ByteArray) (k : Nat) (hk : k < s.size) : val (s.data.toList.take (k + 1)) = 16 * val (s.data.toList.take k) + (dg (s[k].toNat : Int)).toNat := by
  rw [btake s k hk, val_snoc]
theorem bparse_big {s : ByteArray} (h0 : ¬ s.size = 0) (h : ¬ digs s.data.toList < s.size) (k : Nat) (hb : 4611686018427387903 < val (s.data.toList.take k)) : parse s.data.toList = (0, 3) := by
  have h1 := val_take_le s.data.toList k
  rw [parse_digits (fun e => h0 (by rw [← blen, e]; rfl)) (digs_all (by rw [blen]; exact h)), if_pos (by omega)]
theorem bparse_ok {s : ByteArray} (h0 : ¬ s.size = 0) (h : ¬ digs s.data.toList < s.size) (k : Nat) (hk : ¬ k < s.size) (hb : val (s.data.toList.take k) ≤ 4611686018427387903) : parse s.data.toList = ((val (s.data.toList.take k) : Int), 0) := by
  rw [List.take_of_length_le (by rw [blen]; omega)] at hb ⊢
  rw [parse_digits (fun e => h0 (by rw [← blen, e]; rfl)) (digs_all (by rw [blen]; exact h)), if_neg (by omega)]

set_option maxHeartbeats 400000 in
theorem parse_any (s : ByteArray) (w : World) (hs : s.size ≤ 1099511627776) :
    Calls Tryd.prog 7 #[.string s] w fun e w' => e = .returned (.tuple #[.int .u64 (parse s.data.toList).1, .int .i64 (parse s.data.toList).2]) ∧ w = w' := by
  by_cases h0 : s.size = 0
  · obtain rfl : s = ⟨#[]⟩ := bempty h0
    go_enter Tryd.func7, Tryd.ntmps7
    go_wp2; go_step3; go_wp2
    rw [Exit.noGoto_ret]
    go_ret2
    exact ⟨ret_two (by decide) (by decide), rfl⟩
  · have hdl := digs_le s.data.toList
    have hne := bne_of s h0
    by_cases hd : digs s.data.toList < s.size
    · have hp := Lib.hid (parse_bad s.data.toList (by rw [blen]; exact hd))
      go_enter Tryd.func7, Tryd.ntmps7
      go_wp2; go_step3; go_wp2_with (go_at_call 10; refine (digits_any _ _ hs).mono ?_; rintro e w' ⟨rfl, rfl⟩)
      rw [Exit.noGoto_ret]
      go_ret2
      exact ⟨ret_two (by rw [hp.out]) (by rw [hp.out]), rfl⟩
    · go_enter Tryd.func7, Tryd.ntmps7
      go_wp2; go_step3; go_wp2_with (go_at_call 10; refine (digits_any _ _ hs).mono ?_; rintro e w' ⟨rfl, rfl⟩)
      go_step3; go_wp2
      go_loop [4, 5, 18] (fun n e i => ∃ k : Nat, k ≤ s.size ∧ i = .int .i64 k ∧ e = .int .i64 0 ∧ n = .int .u64 (val (s.data.toList.take k)) ∧ val (s.data.toList.take k) ≤ 4611686018427387903) (fun _ _ i => s.size - (intOf i).toNat)
      case atStart => exact ⟨0, Nat.zero_le _, rfl, rfl, rfl, Nat.zero_le _⟩
      case round =>
        obtain ⟨k, hk, rfl, rfl, rfl, hv⟩ := hrel
        by_cases hlt : k < s.size
        · have hb0 := byte_lo s[k]
          have hb1 := byte_hi s[k]
          have hdk := bisd hd k hlt
          have hhi := dg_hi (s[k].toNat : Int)
          have hvs := Lib.hid (bval_succ s k hlt)
          by_cases hbig : 288230376151711743 < (val (s.data.toList.take k) : Int)
          · have hm := more_big (val (s.data.toList.take k)) (s[k].toNat : Int) hdk hbig
            have hp := Lib.hid (bparse_big h0 hd (k + 1) (by rw [hvs.out]; omega))
            have hm1 := congrArg Prod.fst hm
            have hm2 := congrArg Prod.snd hm
            clear hm
            go_wp2_with (go_at_call 11; refine (more_any _ _ hb0 hb1 (by omega) (by omega) _).mono ?_; rintro e w' ⟨rfl, rfl⟩)
            rw [Exit.noGoto_ret]
            go_ret2
            exact ⟨ret_two (by rw [hp.out]) (by rw [hp.out]), rfl⟩
          · have hm := more_ok (val (s.data.toList.take k)) (s[k].toNat : Int) hdk (by omega)
            have hm1 := congrArg Prod.fst hm
            have hm2 := congrArg Prod.snd hm
            clear hm
            go_wp2_with (go_at_call 11; refine (more_any _ _ hb0 hb1 (by omega) (by omega) _).mono ?_; rintro e w' ⟨rfl, rfl⟩)
            go_round
            case rel => exact ⟨k + 1, by omega, by go_num, rfl, by rw [hvs.out]; go_num, by rw [hvs.out]; omega⟩
            case measure => simp [intOf]; omega
        · have hp := Lib.hid (bparse_ok h0 hd k hlt hv)
          go_wp2
          go_ret2
          exact ⟨ret_two (by rw [hp.out]) (by rw [hp.out]), rfl⟩



end Go.Proofs.YtgedaplljnpilaaDoor
