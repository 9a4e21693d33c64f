/- The laws BlockJoins, BlockCuts, BlockSizes, BlockPuts. -/
import Derived.Test.YtdimobigdkmcbaaDoorBlockScan
import Derived.Test.YtdimobigdkmcbaaDoorBlockPut
namespace Go.Proofs.YtdimobigdkmcbaaDoor
open Go.ChangeShapes Go.WideShapes Go.ChangeAt Go.RowKit
open Oc Fl Bk
set_option linter.unusedVariables false

theorem wakeA_run : run 1 [97, 58, 32, 49, 13, 10, 13, 10, 120] = (8, 0) := by decide
theorem wakeB_run : run 1 [97, 32, 98] = (1, 2) := by decide
theorem wakeA_told : (told [97, 58, 32, 49, 13, 10, 13, 10, 120]).length = 1 := by
  have h : ([97, 58, 32, 49, 13, 10, 13, 10, 120] : List UInt8) = sec [⟨⟨#[97]⟩, ⟨#[49]⟩⟩] ++ [120] := by decide
  unfold told
  rw [wakeA_run, if_pos rfl, h, fof_sec (by decide)]
  rfl
/-- What a scan answers, told by its run. -/
theorem scan_is (s : ByteArray) (a b : Nat) (w : World) (hs : s.size ≤ 100000) (hsp : Spans w) (hbd : Bound w) (h : run 1 s.data.toList = (a, b)) :
    Calls Tryd.prog 10 #[.string s] w fun e w' => ∃ p c, e = .returned (.tuple #[.slice p (told s.data.toList).length c, .int .i64 (a : Int), .int .i64 (b : Int)]) ∧ FS w' (.slice p (told s.data.toList).length c) (told s.data.toList) ∧ Below w.heap.size w w' := by
  have hS := scan_any s w hs hsp hbd
  rw [h] at hS
  refine hS.mono ?_
  rintro e w' ⟨v, rfl, h1, h2⟩
  obtain ⟨p, c, rfl, -, -⟩ := RS.slice h1
  exact ⟨p, c, rfl, h1, h2⟩

set_option maxHeartbeats 2000000 in
theorem wakes6 (w : World) (hsp : Spans w) (hbd : Bound w) :
    Calls Tryd.prog 9 #[] w fun e w' => e = .returned (.bool true) ∧ Below w.heap.size w w' := by
  have hA := Lib.hid (scan_is ⟨#[97, 58, 32, 49, 13, 10, 13, 10, 120]⟩ 8 0 w (by decide) hsp hbd wakeA_run)
  rw [show (⟨#[97, 58, 32, 49, 13, 10, 13, 10, 120]⟩ : ByteArray).data.toList = [97, 58, 32, 49, 13, 10, 13, 10, 120] from rfl, wakeA_told] at hA
  have hB : Hid (∀ W, Below w.heap.size w W → _) := Lib.hid fun W hb => scan_is ⟨#[97, 32, 98]⟩ 1 2 W (by decide) (hsp.below hb) (hbd.below hb) wakeB_run
  clear hsp hbd
  go_enter Tryd.func9, Tryd.ntmps9
  go_wp2_with fail
  refine hA.out.mono ?_
  rintro e w1 ⟨p, c, rfl, -, hb1⟩
  have HB1 := Lib.hid hb1
  clear hb1 hA
  go_wp2_with fail
  refine (hB.out _ HB1.out).mono ?_
  rintro e w2 ⟨p2, c2, rfl, -, hb2⟩
  replace HB1 := Lib.hid (ahead HB1.out hb2)
  clear hb2 hB
  go_wp2_with fail
  go_ret
  exact ⟨rfl, HB1.out⟩

theorem app_list (a b : ByteArray) : (a ++ b).data.toList = a.data.toList ++ b.data.toList := by simp
theorem app_size (a b : ByteArray) : (a ++ b).size = a.size + b.size := by simp

set_option maxHeartbeats 4000000 in
theorem joins6_walk (s more : ByteArray) (w : World) (hsp : Spans w) (hbd : Bound w) :
    Calls Tryd.prog 7 #[.string s, .string more] w fun e w' => e = .returned (.bool true) ∧ Below w.heap.size w w' := by
  have hW := Lib.hid (wakes6 w hsp hbd)
  by_cases hl : (700 : Int) < (s.size : Int)
  · clear hsp hbd
    go_enter Tryd.func7, Tryd.ntmps7
    go_wp2_with (go_at_call 9; refine hW.out.mono ?_; rintro e w' ⟨rfl, hb⟩)
    go_ret
    exact ⟨rfl, hb⟩
  · by_cases hm : (200 : Int) < (more.size : Int)
    · clear hsp hbd
      go_enter Tryd.func7, Tryd.ntmps7
      go_wp2_with (go_at_call 9; refine hW.out.mono ?_; rintro e w' ⟨rfl, hb⟩)
      go_ret
      exact ⟨rfl, hb⟩
    · have hz := app_size s more
      have hS : Hid (∀ W, Below w.heap.size w W → _) := Lib.hid fun W hb => scan_is s _ _ W (by omega) (hsp.below hb) (hbd.below hb) rfl
      by_cases he : (run 1 s.data.toList).2 = 2
      · have hk := run_kind 1 s.data.toList
        rw [blen'] at hk
        have r1 : run 1 (s ++ more).data.toList = ((run 1 s.data.toList).1, (run 1 s.data.toList).2) := by rw [app_list, run_app 1 _ _ (by omega)]
        have r2 : run 1 (s.extract 0 ((run 1 s.data.toList).1 + 1)).data.toList = ((run 1 s.data.toList).1, (run 1 s.data.toList).2) := by rw [head_list, run_wrong 1 _ he]
        have r3 : run 1 (s.extract 0 (run 1 s.data.toList).1).data.toList = ((run 1 s.data.toList).1, 4) := by rw [head_list, run_cut 1 _ _ (Nat.le_refl _) (by omega)]
        have z2 : (s.extract 0 ((run 1 s.data.toList).1 + 1)).size ≤ 100000 := by rw [← blen', head_list, List.length_take, blen']; omega
        have z3 : (s.extract 0 (run 1 s.data.toList).1).size ≤ 100000 := by rw [← blen', head_list, List.length_take, blen']; omega
        have h1 : Hid (∀ W, Below w.heap.size w W → _) := Lib.hid fun W hb => scan_is _ _ _ W (by omega) (hsp.below hb) (hbd.below hb) r1
        have h2 : Hid (∀ W, Below w.heap.size w W → _) := Lib.hid fun W hb => scan_is _ _ _ W z2 (hsp.below hb) (hbd.below hb) r2
        have h3 : Hid (∀ W, Below w.heap.size w W → _) := Lib.hid fun W hb => scan_is _ _ _ W z3 (hsp.below hb) (hbd.below hb) r3
        rw [he] at hS h1 h2
        have ha : (run 1 s.data.toList).1 < s.size := by omega
        clear r1 r2 r3 z2 z3 hk he hsp hbd
        generalize (run 1 s.data.toList).1 = a at *
        generalize (told s.data.toList) = t0 at *
        generalize (told (s ++ more).data.toList) = t1 at *
        generalize (told (s.extract 0 (a + 1)).data.toList) = t2 at *
        generalize (told (s.extract 0 a).data.toList) = t3 at *
        have a1 : (0 : Int) ≤ (a : Int) + 1 := by omega
        have a2 : (a : Int) + 1 ≤ (s.size : Int) := by omega
        have a3 : (0 : Int) ≤ (a : Int) := by omega
        have a4 : (a : Int) ≤ (s.size : Int) := by omega
        go_enter Tryd.func7, Tryd.ntmps7
        go_wp2_with fail
        refine hW.out.mono ?_
        rintro e w1 ⟨rfl, hb1⟩
        have HB := Lib.hid hb1
        clear hb1 hW
        go_wp2_with fail
        refine (hS.out _ HB.out).mono ?_
        rintro e w2 ⟨p2, c2, rfl, -, hb2⟩
        replace HB := Lib.hid (ahead HB.out hb2)
        clear hb2 hS
        go_wp2_with fail
        refine (h1.out _ HB.out).mono ?_
        rintro e w3 ⟨p3, c3, rfl, -, hb3⟩
        replace HB := Lib.hid (ahead HB.out hb3)
        clear hb3 h1
        go_wp2_with fail
        refine (h2.out _ HB.out).mono ?_
        rintro e w4 ⟨p4, c4, rfl, -, hb4⟩
        replace HB := Lib.hid (ahead HB.out hb4)
        clear hb4 h2
        go_wp2_with fail
        refine (h3.out _ HB.out).mono ?_
        rintro e w5 ⟨p5, c5, rfl, -, hb5⟩
        replace HB := Lib.hid (ahead HB.out hb5)
        clear hb5 h3
        go_wp2_with fail
        go_ret
        exact ⟨ret_bool (by simp), HB.out⟩
      · have hne : (((run 1 s.data.toList).2 : Int) == 2) = false := beq_eq_false_iff_ne.2 (by omega)
        have hnn : (((run 1 s.data.toList).2 : Int) != 2) = true := by unfold bne; rw [hne]; rfl
        clear hsp hbd he
        generalize (run 1 s.data.toList).2 = b at *
        generalize (run 1 s.data.toList).1 = a at *
        generalize (told s.data.toList) = t0 at *
        go_enter Tryd.func7, Tryd.ntmps7
        go_wp2_with fail
        refine hW.out.mono ?_
        rintro e w1 ⟨rfl, hb1⟩
        have HB := Lib.hid hb1
        clear hb1 hW
        go_wp2_with fail
        refine (hS.out _ HB.out).mono ?_
        rintro e w2 ⟨p2, c2, rfl, -, hb2⟩
        replace HB := Lib.hid (ahead HB.out hb2)
        clear hb2 hS
        go_wp2_with fail
        go_ret
        exact ⟨rfl, HB.out⟩

end Go.Proofs.YtdimobigdkmcbaaDoor
