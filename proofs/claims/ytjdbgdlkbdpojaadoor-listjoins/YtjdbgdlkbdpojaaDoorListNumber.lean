/- What list.Number, and the document's Number, answer. -/
import Derived.Test.YtjdbgdlkbdpojaaDoorListMarks
namespace Go.Proofs.YtjdbgdlkbdpojaaDoor
open Go.ChangeShapes Go.WideShapes Go.ChangeAt Go.RowKit
open Oc Fl Ls
set_option linter.unusedVariables false

theorem ret_two {k j : IntKind} {a b c d : Int} (h : a = b) (g : c = d) : Ending.returned (.tuple #[.int k a, .int j c]) = .returned (.tuple #[.int k b, .int j d]) := by rw [h, g]
theorem dgb_contains (b : UInt8) : ([48, 49, 50, 51, 52, 53, 54, 55, 56, 57] : List UInt8).contains b = dgb b := by
  have key : ∀ k : Fin 256, ([48, 49, 50, 51, 52, 53, 54, 55, 56, 57] : List UInt8).contains (UInt8.ofNat k.val) = dgb (UInt8.ofNat k.val) := by decide +kernel
  have h := key ⟨b.toNat, b.toNat_lt⟩
  simpa using h
theorem dw_nil (p : UInt8 → Bool) (l : List UInt8) : l.dropWhile p = [] ↔ l.all p = true := by
  induction l with
  | nil => simp
  | cons x l ih =>
    rw [List.dropWhile_cons, List.all_cons]
    cases h : p x
    · simp
    · simpa using ih
theorem dw_all (p : UInt8 → Bool) (l : List UInt8) : (l.dropWhile p).all p = l.all p := by
  induction l with
  | nil => rfl
  | cons x l ih =>
    rw [List.dropWhile_cons, List.all_cons]
    cases h : p x
    · simp [h]
    · simpa using ih
theorem digits_lib (l : List UInt8) : Lib.trimS l [48, 49, 50, 51, 52, 53, 54, 55, 56, 57] = [] ↔ l.all dgb = true := by
  unfold Lib.trimS Lib.trimLeftS Lib.trimRightS
  have e : (fun b => ([48, 49, 50, 51, 52, 53, 54, 55, 56, 57] : List UInt8).contains b) = dgb := funext dgb_contains
  simp only [e]
  rw [dw_nil, List.all_reverse, dw_all, List.all_reverse]
theorem empty_of {s : ByteArray} (h : s.size = 0) : s = ⟨#[]⟩ := ByteArray.size_eq_zero_iff.1 h
theorem some_of {s : ByteArray} (h : ¬ s.size = 0) : s.data.toList ≠ [] := fun e => h (by rw [← blen', e]; rfl)
theorem num_bad {l : List UInt8} (h : ¬ l.all dgb = true) : num l = (0, 2) := by
  unfold num form
  rw [if_pos]
  cases hh : l.all dgb
  · simp
  · exact absurd hh h
theorem num_big {l : List UInt8} (h0 : l ≠ []) (h : l.all dgb = true) (hb : val l > top) : num l = (0, 3) := by
  unfold num form
  rw [h, if_neg (by simpa using h0), if_pos hb]
theorem num_ok {l : List UInt8} (h0 : l ≠ []) (h : l.all dgb = true) (hb : ¬ val l > top) : num l = (val l, 0) := by
  unfold num form
  rw [h, if_neg (by simpa using h0), if_neg hb]
theorem dig_at {s : ByteArray} (h : s.data.toList.all dgb = true) {k : Nat} (hk : k < s.size) : 48 ≤ s[k].toNat ∧ s[k].toNat ≤ 57 :=
  of_decide_eq_true (List.all_eq_true.1 h s[k] (by simp [ByteArray.getElem_eq_getElem_data]))
theorem sb_get {s : ByteArray} {k : Nat} (h : k < s.size) : s.data.toList[k]? = some s[k] := by
  rw [List.getElem?_eq_getElem (by rw [blen']; exact h)]; simp [ByteArray.getElem_eq_getElem_data]
theorem noByte {b : UInt8} (h : ¬ b = 48) : ((b.toNat : Int) == 48) = false := by
  rw [beq_eq_false_iff_ne]; intro e; exact h (UInt8.toNat_inj.1 (by show b.toNat = 48; omega))

set_option maxHeartbeats 2000000 in
theorem number_any (s : ByteArray) (w : World) (hs : s.size ≤ 1099511627776) :
    Calls Tryd.prog 17 #[.string s] w fun e w' => e = .returned (.tuple #[.int .u64 (num s.data.toList).1, .int .i64 (num s.data.toList).2]) ∧ Below w.heap.size w w' := by
  by_cases h0 : s.size = 0
  · obtain rfl := empty_of h0
    go_enter Tryd.func17, Tryd.ntmps17
    go_wp2_with fail
    go_ret2
    exact ⟨ret_two (by decide) (by decide), Below.refl _ _⟩
  · have hne : (s.toList == []) = false := by rw [ByteArray.toList_eq]; simpa using some_of h0
    have hT := Tryd.strings_Trim_digits s w (by omega)
    by_cases hd : s.data.toList.all dgb = true
    · rw [(digits_lib _).2 hd] at hT
      have HT := Lib.hid hT
      have HD := Lib.hid hd
      have HN := Lib.hid (some_of h0)
      clear hT hd
      go_enter Tryd.func17, Tryd.ntmps17
      go_wp2_with (go_at_call 28; refine HT.out.mono ?_; rintro e w' ⟨rfl, hb⟩)
      have HB := Lib.hid hb
      clear hb HT
      go_loop [4, 16] (fun n i => ∃ k : Nat, k ≤ s.size ∧ i = .int .i64 k ∧ n = .int .u64 (val (s.data.toList.take k)) ∧ val (s.data.toList.take k) ≤ 4611686018427387903) (fun _ i => s.size - (intOf i).toNat)
      case atStart => exact ⟨0, Nat.zero_le _, rfl, rfl, Nat.zero_le _⟩
      case round =>
        obtain ⟨k, hk, rfl, rfl, hv⟩ := hrel
        by_cases hlt : k < s.size
        · obtain ⟨hb0, hb1⟩ := dig_at HD.out hlt
          have hvs := val_take (sb_get hlt)
          have hvm := val_mono s.data.toList (k + 1)
          by_cases hbig : val (s.data.toList.take (k + 1)) > top
          · have hp := Lib.hid (num_big HN.out HD.out (Nat.lt_of_lt_of_le hbig hvm))
            unfold top at hbig
            rw [hvs] at hbig
            clear hvs hvm
            go_wp2_with fail
            go_ret2
            exact ⟨ret_two (by rw [hp.out]; rfl) (by rw [hp.out]; rfl), HB.out⟩
          · unfold top at hbig
            have HVS := Lib.hid hvs
            rw [hvs] at hbig
            clear hvs hvm
            go_wp2_with fail
            go_round
            case rel => exact ⟨k + 1, by omega, by go_num, by rw [HVS.out]; go_num, by rw [HVS.out]; omega⟩
            case measure => simp [intOf]; omega
        · obtain rfl : k = s.size := by omega
          rw [List.take_of_length_le (by rw [blen']; omega)] at hv ⊢
          have hp := Lib.hid (num_ok HN.out HD.out (by unfold top; omega))
          go_wp2_with fail
          go_ret2
          exact ⟨ret_two (by rw [hp.out]) (by rw [hp.out]; rfl), HB.out⟩
    · have hp := Lib.hid (num_bad hd)
      have hnt : (Lib.trimS s.data.toList [48, 49, 50, 51, 52, 53, 54, 55, 56, 57]) ≠ [] := fun e => hd ((digits_lib _).1 e)
      have hne2 := arr_ne hnt
      have hT2 : Calls Tryd.prog 28 #[.string s, .string ⟨#[48, 49, 50, 51, 52, 53, 54, 55, 56, 57]⟩] w fun e w' => e = .returned (.string (arr (Lib.trimS s.data.toList [48, 49, 50, 51, 52, 53, 54, 55, 56, 57]))) ∧ Below w.heap.size w w' := hT
      have HT := Lib.hid hT2
      clear hT hT2 hnt hd
      generalize arr (Lib.trimS s.data.toList [48, 49, 50, 51, 52, 53, 54, 55, 56, 57]) = r at *
      have hnn : (r.toList != []) = true := by unfold bne; rw [hne2]; rfl
      go_enter Tryd.func17, Tryd.ntmps17
      go_wp2_with (go_at_call 28; refine HT.out.mono ?_; rintro e w' ⟨rfl, hb⟩)
      go_ret2
      exact ⟨ret_two (by rw [hp.out]; rfl) (by rw [hp.out]; rfl), hb⟩

theorem lead_zero (l : List UInt8) : val (l.take (lead l)) = 0 := by
  induction l with
  | nil => rfl
  | cons x l ih =>
    cases l with
    | nil => rfl
    | cons y l =>
      unfold lead
      by_cases hx : x = 48
      · rw [if_pos hx, List.take_succ_cons, hx]; exact ih
      · rw [if_neg hx]; rfl
theorem lead_less {l : List UInt8} (h : l ≠ []) : lead l < l.length := by
  cases l with
  | nil => exact absurd rfl h
  | cons x l => exact lead_lt x l
theorem all_succ {s : ByteArray} {k : Nat} (h : k < s.size) (ha : (s.data.toList.take k).all dgb = true) (hd : dgb s[k] = true) : (s.data.toList.take (k + 1)).all dgb = true := by
  rw [List.take_add_one, sb_get h, Option.toList_some, List.all_append, ha]; simp [hd]
theorem not_all {s : ByteArray} {k : Nat} (h : k < s.size) (hd : dgb s[k] = false) : ¬ s.data.toList.all dgb = true := fun e => by
  have := List.all_eq_true.1 e s[k] (by simp [ByteArray.getElem_eq_getElem_data])
  rw [hd] at this; cases this

set_option maxHeartbeats 4000000 in
theorem rnumber_any (s : ByteArray) (w : World) (hs : s.size ≤ 1099511627776) :
    Calls Tryd.prog 18 #[.string s] w fun e w' => e = .returned (.tuple #[.int .u64 (num s.data.toList).1, .int .i64 (num s.data.toList).2]) ∧ w = w' := by
  by_cases h0 : s.size = 0
  · obtain rfl := empty_of h0
    go_enter Tryd.func18, Tryd.ntmps18
    go_wp2_with fail
    go_ret2
    exact ⟨ret_two (by decide) (by decide), rfl⟩
  · have HN := Lib.hid (some_of h0)
    have hz : ((s.size : Int) == 0) = false := beq_eq_false_iff_ne.2 (by omega)
    have hll := lead_less (some_of h0)
    rw [blen'] at hll
    go_enter Tryd.func18, Tryd.ntmps18
    go_wp2_with fail
    go_loop [4, 5] (fun a i => ∃ k : Nat, k ≤ s.size ∧ i = .int .i64 k ∧ a = .int .i64 (min k (lead s.data.toList) : Nat) ∧ Hid ((s.data.toList.take k).all dgb = true)) (fun _ i => s.size - (intOf i).toNat)
    case atStart => exact ⟨0, Nat.zero_le _, rfl, by simp, Lib.hid rfl⟩
    case round =>
      obtain ⟨k, hk, rfl, rfl, HA⟩ := hrel
      by_cases hlt : k < s.size
      · have hb0 := byte_lo s[k]
        have hb1 := byte_hi s[k]
        have hbd : dgb s[k] = decide (48 ≤ s[k].toNat ∧ s[k].toNat ≤ 57) := rfl
        have HLA : Hid (k ≤ lead s.data.toList → (k < lead s.data.toList ↔ (s[k] = 48 ∧ k + 1 < s.size))) := Lib.hid fun h => by
          have := lead_at h
          rw [sb_get hlt, blen'] at this
          simpa using this
        by_cases hd : dgb s[k] = true
        · have HA2 := Lib.hid (all_succ hlt HA.out hd)
          rw [hbd] at hd
          obtain ⟨hd0, hd1⟩ := of_decide_eq_true hd
          clear hbd HA hd
          by_cases hkl : k < lead s.data.toList
          · obtain ⟨hq, hq2⟩ := (HLA.out (by omega)).1 hkl
            have e1 : ((s[k].toNat : Int) == 48) = true := by rw [hq]; rfl
            have e2 : min k (lead s.data.toList) = k := by omega
            have e3 : min (k + 1) (lead s.data.toList) = k + 1 := by omega
            rw [e2]
            have E3 := Lib.hid e3
            clear hq HLA e2 e3
            go_wp2_with fail
            go_round
            case rel => exact ⟨k + 1, by omega, by go_num, by rw [E3.out]; go_num, HA2⟩
            case measure => simp [intOf]; omega
          · have e3 : min (k + 1) (lead s.data.toList) = lead s.data.toList := by omega
            have e2 : min k (lead s.data.toList) = lead s.data.toList := by omega
            rw [e2]
            have E3 := Lib.hid e3
            by_cases hke : k = lead s.data.toList
            · have hno := mt (HLA.out (by omega)).2 hkl
              by_cases hq : s[k] = 48
              · have e1 : ((s[k].toNat : Int) == 48) = true := by rw [hq]; rfl
                have hq2 : ¬ k + 1 < s.size := fun h => hno ⟨hq, h⟩
                have e4 : (((lead s.data.toList : Nat) : Int) == (k : Int)) = true := beq_iff_eq.2 (by omega)
                clear hq hno HLA e2 e3 hke
                generalize lead s.data.toList = a at *
                go_wp2_with fail
                go_round
                case rel => exact ⟨k + 1, by omega, by go_num, by rw [E3.out], HA2⟩
                case measure => simp [intOf]; omega
              · have e1 : ((s[k].toNat : Int) == 48) = false := noByte hq
                clear hq hno HLA e2 e3 hke
                generalize lead s.data.toList = a at *
                go_wp2_with fail
                go_round
                case rel => exact ⟨k + 1, by omega, by go_num, by rw [E3.out], HA2⟩
                case measure => simp [intOf]; omega
            · have e4 : (((lead s.data.toList : Nat) : Int) == (k : Int)) = false := beq_eq_false_iff_ne.2 (by omega)
              clear HLA e2 e3
              generalize lead s.data.toList = a at *
              cases e1 : ((s[k].toNat : Int) == 48)
              all_goals
                go_wp2_with fail
                go_round
                case rel => exact ⟨k + 1, by omega, by go_num, by rw [E3.out], HA2⟩
                case measure => simp [intOf]; omega
        · have hp := Lib.hid (num_bad (not_all hlt (by simpa using hd)))
          rw [hbd] at hd
          replace hd := mt decide_eq_true hd
          clear hbd HLA HA
          by_cases hl : s[k].toNat < 48
          · go_wp2_with fail
            go_ret2
            exact ⟨ret_two (by rw [hp.out]; rfl) (by rw [hp.out]; rfl), rfl⟩
          · have hh : 57 < s[k].toNat := by omega
            clear hd
            go_wp2_with fail
            go_ret2
            exact ⟨ret_two (by rw [hp.out]; rfl) (by rw [hp.out]; rfl), rfl⟩
      · obtain rfl : k = s.size := by omega
        have hd := HA.out
        rw [List.take_of_length_le (by rw [blen']; omega)] at hd
        have e2 : min s.size (lead s.data.toList) = lead s.data.toList := by omega
        rw [e2]
        have HLZ := Lib.hid (lead_zero s.data.toList)
        have HD := Lib.hid hd
        clear HA e2
        by_cases hfar : s.size - lead s.data.toList > 19
        · have hp := Lib.hid (num_big HN.out hd (lead_far (by rw [blen']; exact hfar) hd))
          clear hd
          go_wp2_with fail
          go_ret2
          exact ⟨ret_two (by rw [hp.out]; rfl) (by rw [hp.out]; rfl), rfl⟩
        · have hnear := lead_near (by rw [blen']; exact hfar) hd
          clear hd
          generalize lead s.data.toList = a at *
          go_wp2_with fail
          go_loop [6, 7] (fun n i => ∃ j : Nat, a ≤ j ∧ j ≤ s.size ∧ i = .int .i64 j ∧ n = .int .u64 (val (s.data.toList.take j))) (fun _ i => s.size - (intOf i).toNat)
          case atStart => exact ⟨a, Nat.le_refl _, by omega, rfl, by rw [HLZ.out]; rfl⟩
          case round =>
            obtain ⟨j, hkj, hjs, rfl, rfl⟩ := hrel
            by_cases hjl : j < s.size
            · obtain ⟨hb0, hb1⟩ := dig_at HD.out hjl
              have hvs := val_take (sb_get hjl)
              have hvm := val_mono s.data.toList (j + 1)
              have HVS := Lib.hid hvs
              rw [hvs] at hvm
              clear hvs
              go_wp2_with fail
              go_round
              case rel => exact ⟨j + 1, by omega, by omega, by go_num, by rw [HVS.out]; go_num⟩
              case measure => simp [intOf]; omega
            · obtain rfl : j = s.size := by omega
              rw [List.take_of_length_le (by rw [blen']; omega)]
              by_cases hbig : val s.data.toList > top
              · have hp := Lib.hid (num_big HN.out HD.out hbig)
                unfold top at hbig
                go_wp2_with fail
                go_ret2
                exact ⟨ret_two (by rw [hp.out]; rfl) (by rw [hp.out]; rfl), rfl⟩
              · have hp := Lib.hid (num_ok HN.out HD.out hbig)
                unfold top at hbig
                go_wp2_with fail
                go_ret2
                exact ⟨ret_two (by rw [hp.out]) (by rw [hp.out]; rfl), rfl⟩

end Go.Proofs.YtjdbgdlkbdpojaaDoor
