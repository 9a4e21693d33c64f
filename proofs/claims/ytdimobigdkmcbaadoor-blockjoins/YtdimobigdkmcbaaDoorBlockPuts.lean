/- The laws BlockCuts, BlockSizes, BlockPuts. -/
import Derived.Test.YtdimobigdkmcbaaDoorBlockLaws
namespace Go.Proofs.YtdimobigdkmcbaaDoor
open Go.ChangeShapes Go.WideShapes Go.ChangeAt Go.RowKit
open Oc Fl Bk
set_option linter.unusedVariables false

theorem sec_two (l : List Fld) : 2 ≤ (sec l).length := by rw [sec_len]; omega
theorem sec_top {l : List Fld} (h : bulk l ≤ 2000) : (sec l).length ≤ 8002 := by rw [sec_len]; have := body_len l; omega
theorem told_no {t : List UInt8} {a : Nat} (h : run 1 t = (a, 4)) : told t = [] := by unfold told; rw [h]; rfl
theorem told_sec {l : List Fld} (h : rights l = true) (y : List UInt8) : told (sec l ++ y) = l := by unfold told; rw [run_sec h, if_pos rfl, fof_sec h]

set_option maxHeartbeats 4000000 in
theorem cuts6_walk (l : List Fld) (n : Nat) (hn : n ≤ 65535) (p : Option Addr) (c : Nat) (w : World) (hsp : Spans w) (hbd : Bound w) (hF : FS w (.slice p l.length c) l) (hl : l.length ≤ 140737488355328) (hfs : ∀ f ∈ l, f.name.size ≤ 140737488355328 ∧ f.value.size ≤ 140737488355328) :
    Calls Tryd.prog 5 #[.slice p l.length c, .int .u16 (n : Int)] w fun e w' => e = .returned (.bool true) ∧ Below w.heap.size w w' := by
  have hW := Lib.hid (wakes6 w hsp hbd)
  have hG : Hid (∀ W, Below w.heap.size w W → _) := Lib.hid fun W hb => great_any l p c W (hF.below hb) hl hfs
  by_cases hg : 2000 < bulk l
  · rw [decide_eq_true hg] at hG
    clear hsp hbd hF hfs hg
    go_enter Tryd.func5, Tryd.ntmps5
    go_wp2_with fail
    refine hW.out.mono ?_
    rintro e w1 ⟨rfl, hb1⟩
    have HB := Lib.hid hb1
    clear hb1 hW
    go_wp2_with fail
    refine (hG.out _ HB.out).mono ?_
    rintro e w2 ⟨rfl, hb2⟩
    replace HB := Lib.hid (ahead HB.out hb2)
    clear hb2 hG
    go_wp2_with fail
    go_ret
    exact ⟨rfl, HB.out⟩
  · rw [decide_eq_false hg] at hG
    have hP : Hid (∀ W, Below w.heap.size w W → _) := Lib.hid fun W hb => rput6_any l p c W (hF.below hb) (by omega)
    cases hr : rights l
    · rw [hr, putB_no hr] at hP
      clear hsp hbd hF hfs hg hr
      go_enter Tryd.func5, Tryd.ntmps5
      go_wp2_with fail
      refine hW.out.mono ?_
      rintro e w1 ⟨rfl, hb1⟩
      have HB := Lib.hid hb1
      clear hb1 hW
      go_wp2_with fail
      refine (hG.out _ HB.out).mono ?_
      rintro e w2 ⟨rfl, hb2⟩
      replace HB := Lib.hid (ahead HB.out hb2)
      clear hb2 hG
      go_wp2_with fail
      refine (hP.out _ HB.out).mono ?_
      rintro e w3 ⟨rfl, hb3⟩
      replace HB := Lib.hid (ahead HB.out hb3)
      clear hb3 hP
      go_wp2_with fail
      go_ret
      exact ⟨rfl, HB.out⟩
    · rw [hr, putB_yes hr] at hP
      have h2 := sec_two l
      have ht := sec_top (l := l) (by omega)
      have hz := arr_size (sec l)
      have hrun := run_sec hr []
      rw [List.append_nil] at hrun
      have hmlt : n % (sec l).length < (sec l).length := Nat.mod_lt _ (by omega)
      have hc : run 1 ((arr (sec l)).extract 0 (n % (sec l).length)).data.toList = (n % (sec l).length, 4) := by
        rw [head_list, arr_list]
        exact run_cut 1 _ _ (by rw [hrun]; simp only; omega) (by rw [hrun]; intro _; exact hmlt)
      have hcz : ((arr (sec l)).extract 0 (n % (sec l).length)).size ≤ 100000 := by rw [← blen', head_list, arr_list, List.length_take]; omega
      have hS : Hid (∀ W, Below w.heap.size w W → _) := Lib.hid fun W hb => scan_is _ _ _ W hcz (hsp.below hb) (hbd.below hb) hc
      rw [told_no hc] at hS
      have hmod : (n : Int).tmod ((arr (sec l)).size : Int) = ((n % (sec l).length : Nat) : Int) := by rw [hz, Int.tmod_eq_emod_of_nonneg (by omega)]; rfl
      have HMOD := Lib.hid hmod
      clear hsp hbd hF hfs hg hr hrun hc hcz hmod
      generalize n % (sec l).length = k at *
      rw [← hz] at hmlt h2 ht
      have hk : k ≤ 8002 := by omega
      clear hz
      generalize arr (sec l) = sb at *
      have n0 : ((sb.size : Int) == 0) = false := beq_eq_false_iff_ne.2 (by omega)
      have n1 : ¬ (sb.size : Int) = 0 := by omega
      have k1 : (0 : Int) ≤ (k : Int) := by omega
      have k2 : (k : Int) ≤ (sb.size : Int) := by omega
      have e1 : IntKind.i64.wrap ((n : Int).tmod (sb.size : Int)) = (k : Int) := by rw [HMOD.out]; exact IntWalk.i64_in _ (by omega)
      have hm2 := HMOD.out
      go_enter Tryd.func5, Tryd.ntmps5
      go_wp2_with fail
      refine hW.out.mono ?_
      rintro e w1 ⟨rfl, hb1⟩
      have HB := Lib.hid hb1
      clear hb1 hW
      go_wp2_with fail
      refine (hG.out _ HB.out).mono ?_
      rintro e w2 ⟨rfl, hb2⟩
      replace HB := Lib.hid (ahead HB.out hb2)
      clear hb2 hG
      go_wp2_with fail
      refine (hP.out _ HB.out).mono ?_
      rintro e w3 ⟨rfl, hb3⟩
      replace HB := Lib.hid (ahead HB.out hb3)
      clear hb3 hP
      go_wp2_with fail
      refine (hS.out _ HB.out).mono ?_
      rintro e w4 ⟨p4, c4, rfl, -, hb4⟩
      replace HB := Lib.hid (ahead HB.out hb4)
      clear hb4 hS
      go_wp2_with fail
      go_ret
      exact ⟨ret_bool (by simp), HB.out⟩

set_option maxHeartbeats 4000000 in
theorem sizes6_walk (l : List Fld) (p : Option Addr) (c : Nat) (w : World) (hsp : Spans w) (hbd : Bound w) (hF : FS w (.slice p l.length c) l) (hl : l.length ≤ 140737488355328) (hfs : ∀ f ∈ l, f.name.size ≤ 140737488355328 ∧ f.value.size ≤ 140737488355328) :
    Calls Tryd.prog 8 #[.slice p l.length c] w fun e w' => e = .returned (.bool true) ∧ Below w.heap.size w w' := by
  have hW := Lib.hid (wakes6 w hsp hbd)
  have hG : Hid (∀ W, Below w.heap.size w W → _) := Lib.hid fun W hb => great_any l p c W (hF.below hb) hl hfs
  by_cases hg : 2000 < bulk l
  · rw [decide_eq_true hg] at hG
    clear hsp hbd hF hfs hg
    go_enter Tryd.func8, Tryd.ntmps8
    go_wp2_with fail
    refine hW.out.mono ?_
    rintro e w1 ⟨rfl, hb1⟩
    have HB := Lib.hid hb1
    clear hb1 hW
    go_wp2_with fail
    refine (hG.out _ HB.out).mono ?_
    rintro e w2 ⟨rfl, hb2⟩
    replace HB := Lib.hid (ahead HB.out hb2)
    clear hb2 hG
    go_wp2_with fail
    go_ret
    exact ⟨rfl, HB.out⟩
  · rw [decide_eq_false hg] at hG
    have hZ : Hid (∀ W, Below w.heap.size w W → _) := Lib.hid fun W hb => size6_any l p c W (hF.below hb) (by omega) (hsp.below hb)
    have hll := bulk_len l
    have HF := Lib.hid hF
    clear hsp hbd hfs hF
    go_enter Tryd.func8, Tryd.ntmps8
    go_wp2_with fail
    refine hW.out.mono ?_
    rintro e w1 ⟨rfl, hb1⟩
    have HB1 := Lib.hid hb1
    clear hb1 hW
    go_wp2_with fail
    refine (hG.out _ HB1.out).mono ?_
    rintro e w2 ⟨rfl, hb2⟩
    replace HB1 := Lib.hid (ahead HB1.out hb2)
    clear hb2 hG
    go_wp2_with fail
    go_loopw [3, 12] (fun v i wr => ∃ (k : Nat), k ≤ l.length ∧ i = .int .i64 k ∧ v = .int .i64 ((2 + (body (l.take k)).length : Nat) : Int) ∧ Hid (rights (l.take k) = true) ∧ Hid (Below w.heap.size w wr)) (fun _ i _ => l.length - (intOf i).toNat)
    case atStart => exact ⟨0, Nat.zero_le _, rfl, rfl, Lib.hid rfl, HB1⟩
    case round =>
      clear HB1
      obtain ⟨k, hk, rfl, rfl, HR, HB⟩ := hrel
      have hbl := body_take_len l k
      by_cases hlt : k < l.length
      · obtain ⟨f, hf⟩ : ∃ f, l[k]? = some f := ⟨_, List.getElem?_eq_getElem hlt⟩
        obtain ⟨-, ad, rfl, c0, c1⟩ := ((HF.out).below HB.out).at hf
        have hfz := bulk_mem (List.mem_of_getElem? hf)
        have HRI : Hid (∀ W, _) := Lib.hid fun W => rright_any f W (by omega) (by omega)
        have HPU : Hid (∀ W, _) := Lib.hid fun W => rput_any f W (by omega) (by omega)
        cases hr : right f
        · rw [hr] at HRI
          clear hf hr hbl
          generalize (body (l.take k)).length = m at *
          obtain ⟨x, y⟩ := f
          go_wp2_with fail
          refine (HRI.out _).mono ?_
          rintro e w3 ⟨rfl, hb3⟩
          replace HB := Lib.hid (ahead (ahead HB.out (below_box _ _)) hb3)
          clear hb3 c0 c1
          go_wp2_with fail
          go_ret
          exact ⟨rfl, HB.out⟩
        · have HR2 := Lib.hid (show rights (l.take (k + 1)) = true by rw [rights_take hf, HR.out, hr]; rfl)
          have hbt := congrArg List.length (body_take hf)
          rw [List.length_append, List.length_append, blen'] at hbt
          have HBT := Lib.hid hbt
          have hls := line_size f
          rw [hr] at HRI
          clear hf hr hbt
          obtain ⟨m', hm'⟩ : ∃ x, (body (l.take (k + 1))).length = x := ⟨_, rfl⟩
          rw [hm'] at HBT
          have HM := Lib.hid hm'
          clear hm'
          generalize (body (l.take k)).length = m at *
          generalize line f = lf at *
          obtain ⟨x, y⟩ := f
          simp only at hfz hls
          have hlf : lf.size ≤ 8000 := by omega
          have hm8 : m ≤ 8000 := by omega
          go_wp2_with fail
          refine (HRI.out _).mono ?_
          rintro e w3 ⟨rfl, hb3⟩
          have hh := two_below (box_cells wr (.string x) (.string y) 51) hb3
          replace HB := Lib.hid (ahead (ahead HB.out (below_box _ _)) hb3)
          obtain ⟨d0, d1, _⟩ := two_cells hh
          clear hb3 c0 c1 hh
          go_wp2_with fail
          refine (HPU.out _).mono ?_
          rintro e w4 ⟨rfl, hb4⟩
          replace HB := Lib.hid (ahead HB.out hb4)
          clear hb4 d0 d1 HRI HPU
          go_wp2_with fail
          go_roundw
          case rel => exact ⟨k + 1, by omega, by go_num, by rw [HM.out]; have := HBT.out; simp at this; go_num, HR2, HB⟩
          case measure => simp [intOf]; omega
      · obtain rfl : k = l.length := by omega
        rw [List.take_length] at *
        have HS := Lib.hid (show ((putB l).size : Int) = ((2 + (body l).length : Nat) : Int) by rw [putB_yes HR.out, arr_size, sec_len]; omega)
        rw [HS.out] at hZ
        generalize (body l).length = m at *
        go_wp2_with fail
        refine (hZ.out _ HB.out).mono ?_
        rintro e w3 ⟨rfl, hb3⟩
        replace HB := Lib.hid (ahead HB.out hb3)
        clear hb3 hZ
        go_wp2_with fail
        go_ret
        exact ⟨ret_bool (by simp), HB.out⟩

set_option maxHeartbeats 4000000 in
theorem puts6_walk (l : List Fld) (more : ByteArray) (p : Option Addr) (c : Nat) (w : World) (hsp : Spans w) (hbd : Bound w) (hF : FS w (.slice p l.length c) l) (hl : l.length ≤ 140737488355328) (hfs : ∀ f ∈ l, f.name.size ≤ 140737488355328 ∧ f.value.size ≤ 140737488355328) :
    Calls Tryd.prog 4 #[.slice p l.length c, .string more] w fun e w' => e = .returned (.bool true) ∧ Below w.heap.size w w' := by
  have hW := Lib.hid (wakes6 w hsp hbd)
  have hG : Hid (∀ W, Below w.heap.size w W → _) := Lib.hid fun W hb => great_any l p c W (hF.below hb) hl hfs
  by_cases hg : 2000 < bulk l
  · rw [decide_eq_true hg] at hG
    clear hsp hbd hF hfs hg
    go_enter Tryd.func4, Tryd.ntmps4
    go_wp2_with fail
    refine hW.out.mono ?_
    rintro e w1 ⟨rfl, hb1⟩
    have HB := Lib.hid hb1
    clear hb1 hW
    go_wp2_with fail
    refine (hG.out _ HB.out).mono ?_
    rintro e w2 ⟨rfl, hb2⟩
    replace HB := Lib.hid (ahead HB.out hb2)
    clear hb2 hG
    go_wp2_with fail
    go_ret
    exact ⟨rfl, HB.out⟩
  · rw [decide_eq_false hg] at hG
    by_cases hm : (200 : Int) < (more.size : Int)
    · clear hsp hbd hF hfs hg
      go_enter Tryd.func4, Tryd.ntmps4
      go_wp2_with fail
      refine hW.out.mono ?_
      rintro e w1 ⟨rfl, hb1⟩
      have HB := Lib.hid hb1
      clear hb1 hW
      go_wp2_with fail
      refine (hG.out _ HB.out).mono ?_
      rintro e w2 ⟨rfl, hb2⟩
      replace HB := Lib.hid (ahead HB.out hb2)
      clear hb2 hG
      go_wp2_with fail
      go_ret
      exact ⟨rfl, HB.out⟩
    · have hP : Hid (∀ W, Below w.heap.size w W → _) := Lib.hid fun W hb => put6_any l p c W (hF.below hb) (by omega) (hsp.below hb)
      have hQ : Hid (∀ W, Below w.heap.size w W → _) := Lib.hid fun W hb => rput6_any l p c W (hF.below hb) (by omega)
      have hZ : Hid (∀ W, Below w.heap.size w W → _) := Lib.hid fun W hb => size6_any l p c W (hF.below hb) (by omega) (hsp.below hb)
      have hll := bulk_len l
      cases hr : rights l
      · rw [putB_no hr, putE_no hr] at hP
        rw [hr, putB_no hr] at hQ
        rw [putB_no hr, show ((⟨#[]⟩ : ByteArray).size : Int) = 0 from rfl] at hZ
        clear hsp hbd hF hfs hg hr
        go_enter Tryd.func4, Tryd.ntmps4
        go_wp2_with fail
        refine hW.out.mono ?_
        rintro e w1 ⟨rfl, hb1⟩
        have HB := Lib.hid hb1
        clear hb1 hW
        go_wp2_with fail
        refine (hG.out _ HB.out).mono ?_
        rintro e w2 ⟨rfl, hb2⟩
        replace HB := Lib.hid (ahead HB.out hb2)
        clear hb2 hG
        go_wp2_with fail
        refine (hP.out _ HB.out).mono ?_
        rintro e w3 ⟨rfl, hb3⟩
        replace HB := Lib.hid (ahead HB.out hb3)
        clear hb3 hP
        go_wp2_with fail
        refine (hQ.out _ HB.out).mono ?_
        rintro e w4 ⟨rfl, hb4⟩
        replace HB := Lib.hid (ahead HB.out hb4)
        clear hb4 hQ
        go_wp2_with fail
        refine (hZ.out _ HB.out).mono ?_
        rintro e w5 ⟨rfl, hb5⟩
        replace HB := Lib.hid (ahead HB.out hb5)
        clear hb5 hZ
        go_wp2_with fail
        go_ret
        exact ⟨rfl, HB.out⟩
      · rw [putB_yes hr, putE_yes hr] at hP
        rw [hr, putB_yes hr] at hQ
        rw [putB_yes hr] at hZ
        have ht := sec_top (l := l) (by omega)
        have hz := arr_size (sec l)
        have hal : (arr (sec l) ++ more).data.toList = sec l ++ more.data.toList := by rw [app_list, arr_list]
        have has := app_size (arr (sec l)) more
        have hc : run 1 (arr (sec l) ++ more).data.toList = ((arr (sec l)).size, 0) := by rw [hal, run_sec hr, hz]
        have hS : Hid (∀ W, Below w.heap.size w W → _) := Lib.hid fun W hb => scan_is _ _ _ W (by omega) (hsp.below hb) (hbd.below hb) hc
        rw [hal, told_sec hr] at hS
        have hE : Hid (∀ W, Below w.heap.size w W → _) := Lib.hid fun W hb (p' : Option Addr) (c' : Nat) (h' : FS W (.slice p' l.length c') l) => fields_any l l (.slice p' l.length c') (.slice p l.length c) W h' (hF.below hb) (by omega) (by omega) rfl
        rw [← hz] at ht
        have hss : ((arr (sec l)).toList == (arr (sec l)).toList) = true := beq_self_eq_true _
        clear hsp hbd hF hfs hg hr hal has hc hz
        generalize arr (sec l) = sb at *
        go_enter Tryd.func4, Tryd.ntmps4
        go_wp2_with fail
        refine hW.out.mono ?_
        rintro e w1 ⟨rfl, hb1⟩
        have HB := Lib.hid hb1
        clear hb1 hW
        go_wp2_with fail
        refine (hG.out _ HB.out).mono ?_
        rintro e w2 ⟨rfl, hb2⟩
        replace HB := Lib.hid (ahead HB.out hb2)
        clear hb2 hG
        go_wp2_with fail
        refine (hP.out _ HB.out).mono ?_
        rintro e w3 ⟨rfl, hb3⟩
        replace HB := Lib.hid (ahead HB.out hb3)
        clear hb3 hP
        go_wp2_with fail
        refine (hQ.out _ HB.out).mono ?_
        rintro e w4 ⟨rfl, hb4⟩
        replace HB := Lib.hid (ahead HB.out hb4)
        clear hb4 hQ
        go_wp2_with fail
        refine (hS.out _ HB.out).mono ?_
        rintro e w5 ⟨p5, c5, rfl, hfs5, hb5⟩
        replace HB := Lib.hid (ahead HB.out hb5)
        have HF5 := Lib.hid hfs5
        clear hb5 hS hfs5
        go_wp2_with fail
        refine (hZ.out _ HB.out).mono ?_
        rintro e w6 ⟨rfl, hb6⟩
        replace HF5 := Lib.hid (HF5.out.below hb6)
        replace HB := Lib.hid (ahead HB.out hb6)
        clear hb6 hZ
        go_wp2_with fail
        refine (hE.out _ HB.out p5 c5 HF5.out).mono ?_
        rintro e w7 ⟨rfl, hb7⟩
        replace HB := Lib.hid (ahead HB.out hb7)
        clear hb7 hE
        go_wp2_with fail
        go_ret
        exact ⟨rfl, HB.out⟩

end Go.Proofs.YtdimobigdkmcbaaDoor
