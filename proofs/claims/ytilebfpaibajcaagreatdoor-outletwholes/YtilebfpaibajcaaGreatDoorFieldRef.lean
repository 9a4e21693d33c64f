/- What the document's Parse, Put, and field.Put, answer. -/
import Derived.Test.YtilebfpaibajcaaGreatDoorFieldGo
namespace Go.Proofs.YtilebfpaibajcaaGreatDoor
open Go.ChangeShapes Go.WideShapes Go.ChangeAt Go.RowKit
open Oc Fl
set_option linter.unusedVariables false
set_option maxRecDepth 100000

theorem col_stop {s : ByteArray} {k : Nat} (hk : k ≤ col s) (h : k < s.size) (hb : ((s[k].toNat : Int) == 58) = true) : k = col s := by
  have : s[k] = 58 := by
    have := beq_iff_eq.1 hb
    have h2 : s[k].toNat = 58 := by omega
    exact UInt8.toNat_inj.1 h2
  have := col_le_of h this
  omega
theorem col_go {s : ByteArray} {k : Nat} (hk : k ≤ col s) (h : k < s.size) (hb : ((s[k].toNat : Int) == 58) = false) : k + 1 ≤ col s := by
  by_cases e : k = col s
  · subst e
    have := col_at h
    rw [this] at hb
    exact absurd hb (by decide)
  · omega

set_option maxHeartbeats 2000000 in
theorem rparse_bad (s : ByteArray) (w : World) (hs : s.size ≤ 1099511627776) (hg : good s = false) :
    Calls Tryz.prog 69 #[.string s] w fun e w' => e = .returned (.tuple #[fld noFld, .bool false]) ∧ Below w.heap.size w w' := by
  have HG := Lib.hid hg
  clear hg
  go_enter Tryz.func69, Tryz.ntmps69
  go_wp2_with fail
  go_loop [4] (fun i => ∃ k : Nat, k ≤ col s ∧ i = .int .i64 k) (fun i => col s - (intOf i).toNat)
  case atStart => exact ⟨0, Nat.zero_le _, rfl⟩
  case round =>
    obtain ⟨k, hk, rfl⟩ := hrel
    have hcs := col_le s
    by_cases hlt : k < s.size
    · cases hb : ((s[k].toNat : Int) == 58)
      · have hk' := col_go hk hlt hb
        go_wp2_with fail
        go_round
        case rel => exact ⟨k + 1, hk', by go_num⟩
        case measure => simp [intOf]; omega
      · obtain rfl := col_stop hk hlt hb
        have h1 := before_size s
        have h2 := behind_size s
        have hT : Hid (∀ W, _) := Lib.hid fun W => rtoken_any (before s) W (by omega)
        have hX : Hid (∀ W, _) := Lib.hid fun W => rtext_any (behind s) W (by omega)
        have hgg := HG.out
        unfold good at hgg
        rw [decide_eq_true hlt, Bool.true_and] at hgg
        have hne : ((col s : Int) == (s.size : Int)) = false := beq_eq_false_iff_ne.2 (by omega)
        have HF : Hid (TwoAt w (w.alloc (.cells #[.string ⟨#[]⟩, .string ⟨#[]⟩] 86)) (.string ⟨#[]⟩) (.string ⟨#[]⟩)) := Lib.hid (TwoAt.drew w _ _ 0)
        clear h1 h2 hcs hk
        cases ht : token (before s).data.toList
        · rw [ht] at hT
          clear hgg ht
          go_wp2_with fail
          refine (hT.out _).mono ?_
          rintro e w' ⟨rfl, rfl⟩
          go_wp2_with fail
          refine bodyPost_ret (results_two rfl _ _ w.heap.size 86 _ (0, 0) _ rfl HF.out.1 Tryz.underlying86 rfl (by kernel_rfl)) rfl ?_
          exact ⟨rfl, HF.out.2⟩
        · rw [ht, Bool.true_and] at hgg
          rw [ht] at hT
          rw [hgg] at hX
          clear hgg ht
          go_wp2_with fail
          refine (hT.out _).mono ?_
          rintro e w' ⟨rfl, rfl⟩
          go_wp2_with fail
          refine (hX.out _).mono ?_
          rintro e w' ⟨rfl, rfl⟩
          go_wp2_with fail
          refine bodyPost_ret (results_two rfl _ _ w.heap.size 86 _ (0, 0) _ rfl HF.out.1 Tryz.underlying86 rfl (by kernel_rfl)) rfl ?_
          exact ⟨rfl, HF.out.2⟩
    · have e : k = s.size := by omega
      subst e
      have HF : Hid (TwoAt w (w.alloc (.cells #[.string ⟨#[]⟩, .string ⟨#[]⟩] 86)) (.string ⟨#[]⟩) (.string ⟨#[]⟩)) := Lib.hid (TwoAt.drew w _ _ 0)
      clear hk hcs
      go_wp2_with fail
      refine bodyPost_ret (results_two rfl _ _ w.heap.size 86 _ (0, 0) _ rfl HF.out.1 Tryz.underlying86 rfl (by kernel_rfl)) rfl ?_
      exact ⟨rfl, HF.out.2⟩

set_option maxHeartbeats 2000000 in
theorem rparse_good (s : ByteArray) (w : World) (hs : s.size ≤ 1099511627776) (hg : good s = true) :
    Calls Tryz.prog 69 #[.string s] w fun e w' => e = .returned (.tuple #[fld (parsed s), .bool true]) ∧ Below w.heap.size w w' := by
  have HG := Lib.hid hg
  clear hg
  go_enter Tryz.func69, Tryz.ntmps69
  go_wp2_with fail
  go_loop [4] (fun i => ∃ k : Nat, k ≤ col s ∧ i = .int .i64 k) (fun i => col s - (intOf i).toNat)
  case atStart => exact ⟨0, Nat.zero_le _, rfl⟩
  case round =>
    obtain ⟨k, hk, rfl⟩ := hrel
    have hcs := col_le s
    have hgg := HG.out
    unfold good at hgg
    simp only [Bool.and_eq_true, decide_eq_true_eq] at hgg
    obtain ⟨⟨hc, ht⟩, hx⟩ := hgg
    have hlt : k < s.size := by omega
    cases hb : ((s[k].toNat : Int) == 58)
    · have hk' := col_go hk hlt hb
      clear ht hx
      go_wp2_with fail
      go_round
      case rel => exact ⟨k + 1, hk', by go_num⟩
      case measure => simp [intOf]; omega
    · obtain rfl := col_stop hk hlt hb
      have h1 := before_size s
      have h2 := behind_size s
      have hT : Hid (∀ W, _) := Lib.hid fun W => rtoken_any (before s) W (by omega)
      have hX : Hid (∀ W, _) := Lib.hid fun W => rtext_any (behind s) W (by omega)
      have hR : Hid (∀ W, _) := Lib.hid fun W => rtrim_any (behind s) W (by omega)
      have hne : ((col s : Int) == (s.size : Int)) = false := beq_eq_false_iff_ne.2 (by omega)
      have HF : Hid (TwoAt w (w.alloc (.cells #[.string ⟨#[]⟩, .string ⟨#[]⟩] 86)) (.string ⟨#[]⟩) (.string ⟨#[]⟩)) := Lib.hid (TwoAt.drew w _ _ 0)
      rw [ht] at hT
      rw [hx] at hX
      clear h1 h2 hcs hk ht hx
      go_wp2_with fail
      refine (hT.out _).mono ?_
      rintro e w' ⟨rfl, rfl⟩
      go_wp2_with fail
      refine (hX.out _).mono ?_
      rintro e w' ⟨rfl, rfl⟩
      go_wp2_with fail
      have c1 : (0 : Int) ≤ (col s : Int) := by omega
      have c2 : (col s : Int) ≤ (s.size : Int) := by omega
      have c3 : (0 : Int) ≤ (col s : Int) + 1 := by omega
      have c4 : (col s : Int) + 1 ≤ (s.size : Int) := by omega
      have c5 : IntKind.i64.wrap ((col s : Int) + 1) = (col s : Int) + 1 := IntWalk.i64_in _ (by omega)
      go_region_with (go_at_call 78; refine (hR.out _).mono ?_; rintro e w' ⟨rfl, rfl⟩)
      go_wp2_with fail
      have HZ := TwoAt.drew w (.string (before s)) (.string ⟨(trim (behind s).data.toList).toArray⟩) 1
      refine bodyPost_ret (results_two rfl _ _ w.heap.size 86 _ (0, 0) _ rfl HZ.1 Tryz.underlying86 rfl (by kernel_rfl)) rfl ?_
      exact ⟨rfl, HZ.2⟩

theorem put_val (f : Fld) (h : f.value.size = 0) : f.name ++ ⟨#[58]⟩ = line f := by unfold line; rw [if_pos h]
theorem put_val' (f : Fld) (h : ¬ f.value.size = 0) : f.name ++ ⟨#[58]⟩ ++ ⟨#[32]⟩ ++ f.value = line f := by unfold line; rw [if_neg h]
theorem put_val'' (f : Fld) (h : ¬ f.value.size = 0) : f.name ++ ⟨#[58, 32]⟩ ++ f.value = line f := by
  rw [← put_val' f h]
  refine b_ext ?_
  simp

set_option maxHeartbeats 2000000 in
theorem put_bad (f : Fld) (w : World) (hn : f.name.size ≤ 1099511627776) (hv : f.value.size ≤ 1099511627776) (hsp : Spans w) (hr : right f = false) :
    Calls Tryz.prog 153 #[fld f] w fun e w' => e = .returned (.tuple #[.string ⟨#[]⟩, .int .i64 1]) ∧ Below w.heap.size w w' := by
  have hR : Hid (∀ W, Below w.heap.size w W → _) := Lib.hid fun W hb => right_any f W hn hv (hsp.below hb)
  rw [hr] at hR
  clear hsp hr
  obtain ⟨n, v⟩ := f
  have hbox : Hid (∀ t, Below w.heap.size w (w.alloc (.cells #[.string n, .string v] t))) := Lib.hid fun t => below_box w _
  go_enter Tryz.func153, Tryz.ntmps153
  go_wp2_with fail
  refine (hR.out _ (below_box _ _)).mono ?_
  rintro e w' ⟨rfl, hb1⟩
  replace hb1 := Lib.hid (ahead (hbox.out _) hb1)
  go_wp2_with fail
  go_ret2
  exact ⟨rfl, hb1.out⟩

set_option maxHeartbeats 2000000 in
theorem put_good (f : Fld) (w : World) (hn : f.name.size ≤ 1099511627776) (hv : f.value.size ≤ 1099511627776) (hsp : Spans w) (hr : right f = true) :
    Calls Tryz.prog 153 #[fld f] w fun e w' => e = .returned (.tuple #[.string (line f), .int .i64 0]) ∧ Below w.heap.size w w' := by
  have hR : Hid (∀ W, Below w.heap.size w W → _) := Lib.hid fun W hb => right_any f W hn hv (hsp.below hb)
  rw [hr] at hR
  clear hsp hr
  have hP0 := Lib.hid (put_val f)
  have hP1 := Lib.hid (put_val' f)
  obtain ⟨n, v⟩ := f
  have hbox : Hid (∀ t, Below w.heap.size w (w.alloc (.cells #[.string n, .string v] t))) := Lib.hid fun t => below_box w _
  generalize line ⟨n, v⟩ = z at *
  simp only at hP0 hP1 hn hv
  by_cases h0 : v.size = 0
  · have hz := Lib.hid (hP0.out h0)
    obtain rfl : v = ⟨#[]⟩ := bempty h0
    clear h0 hP0 hP1
    go_enter Tryz.func153, Tryz.ntmps153
    go_wp2_with fail
    refine (hR.out _ (below_box _ _)).mono ?_
    rintro e w' ⟨rfl, hb1⟩
    have hx := two_cells (two_below (box_cells w _ _ _) hb1)
    obtain ⟨c0, c1, _⟩ := hx
    replace hb1 := Lib.hid (ahead (hbox.out _) hb1)
    go_wp2_with fail
    go_ret2
    refine ⟨?_, hb1.out⟩
    rw [← hz.out]
    first | rfl | simp
  · have hz := Lib.hid (hP1.out h0)
    have hne : (v.toList == []) = false := by
      rw [ByteArray.toList_eq, beq_eq_false_iff_ne]
      intro e
      exact h0 (by rw [← blen', e]; rfl)
    clear h0 hP0 hP1
    go_enter Tryz.func153, Tryz.ntmps153
    go_wp2_with fail
    refine (hR.out _ (below_box _ _)).mono ?_
    rintro e w' ⟨rfl, hb1⟩
    have hx := two_cells (two_below (box_cells w _ _ _) hb1)
    obtain ⟨c0, c1, _⟩ := hx
    replace hb1 := Lib.hid (ahead (hbox.out _) hb1)
    go_wp2_with fail
    go_ret2
    refine ⟨?_, hb1.out⟩
    rw [← hz.out]
    first | rfl | simp

set_option maxHeartbeats 2000000 in
theorem rput_any (f : Fld) (w : World) (hn : f.name.size ≤ 1099511627776) (hv : f.value.size ≤ 1099511627776) :
    Calls Tryz.prog 68 #[fld f] w fun e w' => e = .returned (.string (line f)) ∧ Below w.heap.size w w' := by
  have hP0 := Lib.hid (put_val f)
  have hP1 := Lib.hid (put_val'' f)
  obtain ⟨n, v⟩ := f
  have hbox : Hid (∀ t, Below w.heap.size w (w.alloc (.cells #[.string n, .string v] t))) := Lib.hid fun t => below_box w _
  generalize line ⟨n, v⟩ = z at *
  simp only at hP0 hP1 hn hv
  by_cases h0 : v.size = 0
  · have hz := Lib.hid (hP0.out h0)
    obtain rfl : v = ⟨#[]⟩ := bempty h0
    clear h0 hP0 hP1
    go_enter Tryz.func68, Tryz.ntmps68
    go_wp2_with fail
    go_ret
    refine ⟨?_, hbox.out _⟩
    rw [← hz.out]
    first | rfl | simp
  · have hz := Lib.hid (hP1.out h0)
    have hne : ((v.size : Int) == 0) = false := beq_eq_false_iff_ne.2 (by omega)
    clear h0 hP0 hP1
    go_enter Tryz.func68, Tryz.ntmps68
    go_wp2_with fail
    go_ret
    refine ⟨?_, hbox.out _⟩
    rw [← hz.out]
    first | rfl | simp

end Go.Proofs.YtilebfpaibajcaaGreatDoor
