/- What Digits and Parse answer, hexa's and the document's. -/
import Derived.Test.YtgedaplljnpilaaWalksA
namespace Go.Proofs.Ytgedaplljnpilaa
open Go.ChangeShapes Go.WideShapes Go.ChangeAt Go.RowKit
open Hx
set_option linter.unusedVariables false

theorem byte_lo (c : UInt8) : (0 : Int) ≤ (c.toNat : Int) := by omega
theorem byte_hi (c : UInt8) : (c.toNat : Int) ≤ 255 := by have := c.toNat_lt; omega
theorem btake (s : ByteArray) (k : Nat) (h : k < s.size) : s.data.toList.take (k + 1) = s.data.toList.take k ++ [s[k]] := by
  rw [List.take_succ_eq_append_getElem (by simpa using h)]; rfl
theorem bmem_succ {s : ByteArray} {k : Nat} (h : k < s.size) {P : UInt8 → Prop} (a : ∀ c ∈ s.data.toList.take k, P c) (b : P s[k]) : ∀ c ∈ s.data.toList.take (k + 1), P c := by
  intro c hc; rw [btake s k h, List.mem_append] at hc
  rcases hc with hc | hc
  · exact a c hc
  · simp at hc; subst hc; exact b
theorem bdigs_stop {s : ByteArray} {k : Nat} (h : k < s.size) (a : ∀ c ∈ s.data.toList.take k, isd c = true) (b : dg (s[k].toNat : Int) < 0) : digs s.data.toList = k :=
  digs_stop (by simpa using h) a (by unfold isd; rw [decide_eq_false_iff_not]; exact Int.not_le.2 b)
theorem bdigs_all {s : ByteArray} {k : Nat} (h : ¬ k < s.size) (a : ∀ c ∈ s.data.toList.take k, isd c = true) : digs s.data.toList = s.size := by
  have : digs s.data.toList = s.data.toList.length := digs_of_all (by rwa [List.take_of_length_le (by simp; exact Nat.le_of_not_lt h)] at a)
  rw [this]; simp

set_option maxHeartbeats 400000 in
theorem digits_any (s : ByteArray) (w : World) (hs : s.size ≤ 1099511627776) :
    Calls Try.prog 9 #[.string s] w fun e w' => e = .returned (.int .i64 (digs s.data.toList)) ∧ w = w' := by
  go_enter Try.func9, Try.ntmps9
  go_wp2; go_step3; go_wp2; go_step3; go_wp2
  go_loop [3, 7] (fun n i => ∃ k : Nat, k ≤ s.size ∧ i = .int .i64 k ∧ n = .int .i64 k ∧ Hid (∀ c ∈ s.data.toList.take k, isd c = true)) (fun _ i => s.size - (intOf i).toNat)
  case atStart => exact ⟨0, Nat.zero_le _, rfl, rfl, Lib.hid (by simp)⟩
  case round =>
    obtain ⟨k, hk, rfl, rfl, ha⟩ := hrel
    by_cases hlt : k < s.size
    · have hb0 := byte_lo s[k]
      have hb1 := byte_hi s[k]
      have hlo := dg_lo (s[k].toNat : Int)
      by_cases hd : dg (s[k].toNat : Int) < 0
      · have hb : (dg (s[k].toNat : Int) == -1) = true := beq_iff_eq.2 (by omega)
        go_wp2_with (go_at_call 13; refine (digit_any _ hb0 hb1 _).mono ?_; rintro e w' ⟨rfl, rfl⟩)
        rw [Exit.noGoto_ret]
        go_ret
        exact ⟨ret_int (by rw [bdigs_stop hlt ha.out hd]), rfl⟩
      · have hb : (dg (s[k].toNat : Int) == -1) = false := beq_eq_false_iff_ne.2 (by omega)
        go_wp2_with (go_at_call 13; refine (digit_any _ hb0 hb1 _).mono ?_; rintro e w' ⟨rfl, rfl⟩)
        go_round
        case rel => exact ⟨k + 1, by omega, by go_num, by go_num, Lib.hid (bmem_succ hlt ha.out (by unfold isd; simpa using hd))⟩
        case measure => simp [intOf]; omega
    · go_wp2
      go_ret
      exact ⟨ret_int (by have := bdigs_all hlt ha.out; omega), rfl⟩


set_option maxHeartbeats 400000 in
theorem rdigits_any (s : ByteArray) (w : World) (hs : s.size ≤ 1099511627776) :
    Calls Try.prog 10 #[.string s] w fun e w' => e = .returned (.int .i64 (digs s.data.toList)) ∧ w = w' := by
  go_enter Try.func10, Try.ntmps10
  go_wp2
  go_loop [3] (fun i => ∃ k : Nat, k ≤ s.size ∧ i = .int .i64 k ∧ Hid (∀ c ∈ s.data.toList.take k, isd c = true)) (fun i => s.size - (intOf i).toNat)
  case atStart => exact ⟨0, Nat.zero_le _, rfl, Lib.hid (by simp)⟩
  case round =>
    obtain ⟨k, hk, rfl, ha⟩ := hrel
    by_cases hlt : k < s.size
    · have hb0 := byte_lo s[k]
      have hb1 := byte_hi s[k]
      by_cases hd : dg (s[k].toNat : Int) < 0
      · go_wp2_with (go_at_call 12; refine (rdigit_any _ hb0 hb1 _).mono ?_; rintro e w' ⟨rfl, rfl⟩)
        go_ret
        exact ⟨ret_int (by rw [bdigs_stop hlt ha.out hd]), rfl⟩
      · go_wp2_with (go_at_call 12; refine (rdigit_any _ hb0 hb1 _).mono ?_; rintro e w' ⟨rfl, rfl⟩)
        go_round
        case rel => exact ⟨k + 1, by omega, by go_num, Lib.hid (bmem_succ hlt ha.out (by unfold isd; simpa using hd))⟩
        case measure => simp [intOf]; omega
    · go_wp2
      go_ret
      exact ⟨ret_int (by have := bdigs_all hlt ha.out; omega), rfl⟩

theorem bempty {s : ByteArray} (h : s.size = 0) : s = ⟨#[]⟩ := ByteArray.size_eq_zero_iff.1 h
theorem parse_empty : parse [] = (0, 2) := by decide
theorem parse_bad (l : List UInt8) (h : digs l < l.length) : parse l = (0, 2) := by unfold parse; rw [if_pos (Or.inr h)]
theorem bne_of (s : ByteArray) (h : ¬ s.size = 0) : s.toList.isEmpty = false := by
  rw [ByteArray.toList_eq]; cases s; rename_i d; cases d; rename_i l; cases l with
  | nil => exact absurd rfl h
  | cons => rfl
theorem blen (s : ByteArray) : s.data.toList.length = s.size := by simp
theorem bisd {s : ByteArray} (h : ¬ digs s.data.toList < s.size) (k : Nat) (hk : k < s.size) : 0 ≤ dg (s[k].toNat : Int) :=
  isd_dg (digs_all (by rw [blen]; exact h) _ (by simp [ByteArray.getElem_eq_getElem_data]))
theorem bval_succ (s : ByteArray) (k : Nat) (hk : k < s.size) : val (s.data.toList.take (k + 1)) = 16 * val (s.data.toList.take k) + (dg (s[k].toNat : Int)).toNat := by
  rw [btake s k hk, val_snoc]
theorem bparse_big {s : ByteArray} (h0 : ¬ s.size = 0) (h : ¬ digs s.data.toList < s.size) (k : Nat) (hb : 4611686018427387903 < val (s.data.toList.take k)) : parse s.data.toList = (0, 3) := by
  have h1 := val_take_le s.data.toList k
  rw [parse_digits (fun e => h0 (by rw [← blen, e]; rfl)) (digs_all (by rw [blen]; exact h)), if_pos (by omega)]
theorem bparse_ok {s : ByteArray} (h0 : ¬ s.size = 0) (h : ¬ digs s.data.toList < s.size) (k : Nat) (hk : ¬ k < s.size) (hb : val (s.data.toList.take k) ≤ 4611686018427387903) : parse s.data.toList = ((val (s.data.toList.take k) : Int), 0) := by
  rw [List.take_of_length_le (by rw [blen]; omega)] at hb ⊢
  rw [parse_digits (fun e => h0 (by rw [← blen, e]; rfl)) (digs_all (by rw [blen]; exact h)), if_neg (by omega)]

set_option maxHeartbeats 400000 in
theorem parse_any (s : ByteArray) (w : World) (hs : s.size ≤ 1099511627776) :
    Calls Try.prog 7 #[.string s] w fun e w' => e = .returned (.tuple #[.int .u64 (parse s.data.toList).1, .int .i64 (parse s.data.toList).2]) ∧ w = w' := by
  by_cases h0 : s.size = 0
  · obtain rfl : s = ⟨#[]⟩ := bempty h0
    go_enter Try.func7, Try.ntmps7
    go_wp2; go_step3; go_wp2
    rw [Exit.noGoto_ret]
    go_ret2
    exact ⟨ret_two (by decide) (by decide), rfl⟩
  · have hdl := digs_le s.data.toList
    have hne := bne_of s h0
    by_cases hd : digs s.data.toList < s.size
    · have hp := Lib.hid (parse_bad s.data.toList (by rw [blen]; exact hd))
      go_enter Try.func7, Try.ntmps7
      go_wp2; go_step3; go_wp2_with (go_at_call 9; refine (digits_any _ _ hs).mono ?_; rintro e w' ⟨rfl, rfl⟩)
      rw [Exit.noGoto_ret]
      go_ret2
      exact ⟨ret_two (by rw [hp.out]) (by rw [hp.out]), rfl⟩
    · go_enter Try.func7, Try.ntmps7
      go_wp2; go_step3; go_wp2_with (go_at_call 9; refine (digits_any _ _ hs).mono ?_; rintro e w' ⟨rfl, rfl⟩)
      go_step3; go_wp2
      go_loop [4, 5, 18] (fun n e i => ∃ k : Nat, k ≤ s.size ∧ i = .int .i64 k ∧ e = .int .i64 0 ∧ n = .int .u64 (val (s.data.toList.take k)) ∧ val (s.data.toList.take k) ≤ 4611686018427387903) (fun _ _ i => s.size - (intOf i).toNat)
      case atStart => exact ⟨0, Nat.zero_le _, rfl, rfl, rfl, Nat.zero_le _⟩
      case round =>
        obtain ⟨k, hk, rfl, rfl, rfl, hv⟩ := hrel
        by_cases hlt : k < s.size
        · have hb0 := byte_lo s[k]
          have hb1 := byte_hi s[k]
          have hdk := bisd hd k hlt
          have hhi := dg_hi (s[k].toNat : Int)
          have hvs := Lib.hid (bval_succ s k hlt)
          by_cases hbig : 288230376151711743 < (val (s.data.toList.take k) : Int)
          · have hm := more_big (val (s.data.toList.take k)) (s[k].toNat : Int) hdk hbig
            have hp := Lib.hid (bparse_big h0 hd (k + 1) (by rw [hvs.out]; omega))
            have hm1 := congrArg Prod.fst hm
            have hm2 := congrArg Prod.snd hm
            clear hm
            go_wp2_with (go_at_call 11; refine (more_any _ _ hb0 hb1 (by omega) (by omega) _).mono ?_; rintro e w' ⟨rfl, rfl⟩)
            rw [Exit.noGoto_ret]
            go_ret2
            exact ⟨ret_two (by rw [hp.out]) (by rw [hp.out]), rfl⟩
          · have hm := more_ok (val (s.data.toList.take k)) (s[k].toNat : Int) hdk (by omega)
            have hm1 := congrArg Prod.fst hm
            have hm2 := congrArg Prod.snd hm
            clear hm
            go_wp2_with (go_at_call 11; refine (more_any _ _ hb0 hb1 (by omega) (by omega) _).mono ?_; rintro e w' ⟨rfl, rfl⟩)
            go_round
            case rel => exact ⟨k + 1, by omega, by go_num, rfl, by rw [hvs.out]; go_num, by rw [hvs.out]; omega⟩
            case measure => simp [intOf]; omega
        · have hp := Lib.hid (bparse_ok h0 hd k hlt hv)
          go_wp2
          go_ret2
          exact ⟨ret_two (by rw [hp.out]) (by rw [hp.out]), rfl⟩


theorem val_noughts {m : List UInt8} (h : ∀ c ∈ m, c = 48) : val m = 0 := by
  induction m with
  | nil => rfl
  | cons c m ih => rw [val_cons, ih (fun d hd => h d (by simp [hd])), h c (by simp)]; simp [dg]
theorem val_take_bound {l : List UInt8} {k j : Nat} (h : ∀ c ∈ l.take k, c = 48) (hkj : k ≤ j) : val (l.take j) < 16 ^ (j - k) := by
  have e : l.take j = l.take k ++ (l.take j).drop k := by
    conv => lhs; rw [← List.take_append_drop k (l.take j)]
    rw [List.take_take, Nat.min_eq_left hkj]
  rw [e, val_append, val_noughts h, Nat.zero_mul, Nat.zero_add]
  exact Nat.lt_of_lt_of_le (val_lt _) (Nat.pow_le_pow_right (by omega) (by simp; omega))
theorem bfits {s : ByteArray} {k j : Nat} (h : ∀ c ∈ s.data.toList.take k, c = 48) (hkj : k ≤ j) (hj : j ≤ k + 16) : val (s.data.toList.take j) ≤ 18446744073709551615 := by
  have h1 := val_take_bound h hkj
  have h2 : 16 ^ (j - k) ≤ 16 ^ 16 := Nat.pow_le_pow_right (by omega) (by omega)
  have h3 : (16 : Nat) ^ 16 = 18446744073709551616 := by decide
  omega
theorem bgreat {s : ByteArray} {k : Nat} (h : k + 16 < s.size) (hd : 1 ≤ dg (s[k].toNat : Int)) : 4611686018427387903 < val (s.data.toList.take s.size) := by
  rw [List.take_of_length_le (by simp)]
  have e : s.data.toList = s.data.toList.take k ++ (s[k] :: s.data.toList.drop (k + 1)) := by
    conv => lhs; rw [← List.take_append_drop k s.data.toList]
    rw [List.drop_eq_getElem_cons (by rw [blen]; omega)]; rfl
  rw [e, val_append, val_cons, List.length_drop, blen]
  have h2 : 16 ^ 16 ≤ 16 ^ (s.size - (k + 1)) := Nat.pow_le_pow_right (by omega) (by omega)
  have h3 : (16 : Nat) ^ 16 = 18446744073709551616 := by decide
  have h4 : 1 * 16 ^ (s.size - (k + 1)) ≤ (dg (s[k].toNat : Int)).toNat * 16 ^ (s.size - (k + 1)) := Nat.mul_le_mul_right _ (by omega)
  generalize val (s.data.toList.take k) * 16 ^ (s[k] :: s.data.toList.drop (k + 1)).length = X
  generalize (dg (s[k].toNat : Int)).toNat * 16 ^ (s.size - (k + 1)) = Y at *
  generalize val (s.data.toList.drop (k + 1)) = Z
  omega
theorem nought_of (c : UInt8) (h : ((c.toNat : Int) == 48) = true) : c = 48 := by
  have h1 : (c.toNat : Int) = 48 := by simpa using h
  apply UInt8.toNat_inj.1; show c.toNat = 48; omega
theorem nonzero_of (c : UInt8) (h : ((c.toNat : Int) == 48) = false) (hd : 0 ≤ dg (c.toNat : Int)) : 1 ≤ dg (c.toNat : Int) := by
  have h1 : (c.toNat : Int) ≠ 48 := by simpa using h
  revert hd; unfold dg; (repeat' split) <;> omega

set_option maxHeartbeats 400000 in
theorem rparse_any (s : ByteArray) (w : World) (hs : s.size ≤ 1099511627776) :
    Calls Try.prog 8 #[.string s] w fun e w' => e = .returned (.tuple #[.int .u64 (parse s.data.toList).1, .int .i64 (parse s.data.toList).2]) ∧ w = w' := by
  by_cases h0 : s.size = 0
  · obtain rfl : s = ⟨#[]⟩ := bempty h0
    go_enter Try.func8, Try.ntmps8
    go_wp2
    go_ret2
    exact ⟨ret_two (by decide) (by decide), rfl⟩
  · have hdl := digs_le s.data.toList
    have hz : ((s.size : Int) == 0) = false := beq_eq_false_iff_ne.2 (by omega)
    by_cases hd : digs s.data.toList < s.size
    · have hp := Lib.hid (parse_bad s.data.toList (by rw [blen]; exact hd))
      go_enter Try.func8, Try.ntmps8
      go_wp2_with (go_at_call 10; refine (rdigits_any _ _ hs).mono ?_; rintro e w' ⟨rfl, rfl⟩)
      go_ret2
      exact ⟨ret_two (by rw [hp.out]) (by rw [hp.out]), rfl⟩
    · go_enter Try.func8, Try.ntmps8
      go_wp2_with (go_at_call 10; refine (rdigits_any _ _ hs).mono ?_; rintro e w' ⟨rfl, rfl⟩)
      go_loop [4] (fun i => ∃ k : Nat, k + 1 ≤ s.size ∧ i = .int .i64 k ∧ Hid (∀ c ∈ s.data.toList.take k, c = 48)) (fun i => s.size - (intOf i).toNat)
      case atStart => exact ⟨0, by omega, rfl, Lib.hid (by simp)⟩
      case round =>
        obtain ⟨k, hk, rfl, ha⟩ := hrel
        have hks : k < s.size := by omega
        have hcase : (k + 1 < s.size ∧ ((s[k].toNat : Int) == 48) = true) ∨ (k + 1 < s.size ∧ ((s[k].toNat : Int) == 48) = false) ∨ ¬ k + 1 < s.size := by
          by_cases g : k + 1 < s.size
          · cases hb : ((s[k].toNat : Int) == 48) <;> simp [g]
          · exact Or.inr (Or.inr g)
        rcases hcase with ⟨hlt, hb⟩ | hcase
        · go_wp2
          go_round
          case rel => exact ⟨k + 1, by omega, by go_num, Lib.hid (bmem_succ hks ha.out (nought_of _ hb))⟩
          case measure => simp [intOf]; omega
        · have hgr : k + 16 < s.size → parse s.data.toList = (0, 3) := by
            intro g
            refine bparse_big h0 hd s.size (bgreat g (nonzero_of _ ?_ (bisd hd k hks)))
            rcases hcase with ⟨_, hb⟩ | hb
            · exact hb
            · omega
          have HG := Lib.hid hgr
          clear hgr
          by_cases h16 : k + 16 < s.size
          · have hp := Lib.hid (HG.out h16)
            rcases hcase with ⟨hlt, hb⟩ | hlt
            · go_wp2
              go_ret2
              exact ⟨ret_two (by rw [hp.out]) (by rw [hp.out]), rfl⟩
            · omega
          · clear HG
            have hst : val (s.data.toList.take k) = 0 := val_noughts ha.out
            have HST := Lib.hid hst
            clear hst
            rcases hcase with ⟨hlt, hb⟩ | hlt
            all_goals
              go_wp2
              go_loop [5, 6] (fun n i => ∃ j : Nat, k ≤ j ∧ j ≤ s.size ∧ i = .int .i64 j ∧ n = .int .u64 (val (s.data.toList.take j))) (fun _ i => s.size - (intOf i).toNat)
              case atStart => exact ⟨k, Nat.le_refl _, by omega, rfl, by rw [HST.out]; rfl⟩
              case round =>
                obtain ⟨j, hkj, hjs, rfl, rfl⟩ := hrel
                by_cases hjl : j < s.size
                · have hb0 := byte_lo s[j]
                  have hb1 := byte_hi s[j]
                  have hdj := bisd hd j hjl
                  have hhi := dg_hi (s[j].toNat : Int)
                  have hvs := Lib.hid (bval_succ s j hjl)
                  have hfit : 16 * val (s.data.toList.take j) + (dg (s[j].toNat : Int)).toNat ≤ 18446744073709551615 := by
                    rw [← bval_succ s j hjl]; exact bfits ha.out (by omega) (by omega)
                  go_wp2_with (go_at_call 12; refine (rdigit_any _ hb0 hb1 _).mono ?_; rintro e w' ⟨rfl, rfl⟩)
                  go_round
                  case rel => exact ⟨j + 1, by omega, by omega, by go_num, by rw [hvs.out]; go_num⟩
                  case measure => simp [intOf]; omega
                · by_cases hbig : 4611686018427387903 < val (s.data.toList.take j)
                  · have hp := Lib.hid (bparse_big h0 hd j hbig)
                    go_wp2
                    go_ret2
                    exact ⟨ret_two (by rw [hp.out]) (by rw [hp.out]), rfl⟩
                  · have hp := Lib.hid (bparse_ok h0 hd j hjl (by omega))
                    go_wp2
                    go_ret2
                    exact ⟨ret_two (by rw [hp.out]) (by rw [hp.out]), rfl⟩

end Go.Proofs.Ytgedaplljnpilaa
