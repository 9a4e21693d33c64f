/- The laws FieldParses, FieldPuts, FieldBlanks. -/
import Derived.Test.YtpjmeikeliiepaaDoorFieldRef
namespace Go.Proofs.YtpjmeikeliiepaaDoor
open Go.ChangeShapes Go.WideShapes Go.ChangeAt Go.RowKit
open Oc Fl
set_option linter.unusedVariables false

abbrev hostLine : ByteArray := ⟨#[72, 111, 115, 116, 58, 32, 32, 97, 32, 98, 32]⟩
theorem host_good : good hostLine = true := by decide +kernel
theorem host_parsed : fld (parsed hostLine) = .agg #[.string ⟨#[72, 111, 115, 116]⟩, .string ⟨#[97, 32, 98]⟩] := by
  have h1 : (parsed hostLine).name = ⟨#[72, 111, 115, 116]⟩ := by decide +kernel
  have h2 : (parsed hostLine).value = ⟨#[97, 32, 98]⟩ := by decide +kernel
  unfold fld
  rw [h1, h2]

set_option maxHeartbeats 2000000 in
theorem wakes5 (w : World) (hsp : Spans w) :
    Calls Tryd.prog 8 #[] w fun e w' => e = .returned (.bool true) ∧ Below w.heap.size w w' := by
  have hP := Lib.hid (parse_good hostLine w (by decide) hsp host_good)
  rw [host_parsed] at hP
  clear hsp
  go_enter Tryd.func8, Tryd.ntmps8
  go_wp2_with (go_at_call 9; refine hP.out.mono ?_; rintro e w' ⟨rfl, hb⟩)
  go_ret
  refine ⟨rfl, ?_⟩
  exact ahead hb (below_box _ _)

set_option maxHeartbeats 2000000 in
theorem parses_walk (s : ByteArray) (w : World) (hsp : Spans w) :
    Calls Tryd.prog 3 #[.string s] w fun e w' => e = .returned (.bool true) ∧ Below w.heap.size w w' := by
  have hW := Lib.hid (wakes5 w hsp)
  by_cases hl : (500 : Int) < (s.size : Int)
  · clear hsp
    go_enter Tryd.func3, Tryd.ntmps3
    go_wp2_with (go_at_call 8; refine hW.out.mono ?_; rintro e w' ⟨rfl, hb⟩)
    go_ret
    exact ⟨rfl, hb⟩
  · have hs : s.size ≤ 1099511627776 := by omega
    cases hg : good s
    · have hP : Hid (∀ W, Below w.heap.size w W → _) := Lib.hid fun W hb => parse_bad s W hs (hsp.below hb) hg
      have hR : Hid (∀ W, _) := Lib.hid fun W => rparse_bad s W hs hg
      clear hsp hg
      go_enter Tryd.func3, Tryd.ntmps3
      go_wp2_with fail
      refine hW.out.mono ?_
      rintro e w1 ⟨rfl, hb1⟩
      replace hb1 := Lib.hid hb1
      go_wp2_with fail
      refine (hP.out _ hb1.out).mono ?_
      rintro e w2 ⟨rfl, hb2⟩
      replace hb2 := Lib.hid (ahead hb1.out hb2)
      clear hP hW
      go_wp2_with fail
      have hA := Lib.hid (TwoAt.drew w2 (.string noFld.name) (.string noFld.value) 0)
      simp only [World.drewN_zero] at hA
      generalize w2.alloc _ = W at hA ⊢
      refine (hR.out _).mono ?_
      rintro e W1 ⟨rfl, hb3⟩
      replace hA := Lib.hid (hA.out.below hb3)
      clear hb3 hR
      obtain ⟨c0, c1, c2⟩ := two_cells hA.out.1
      have hlt : w2.heap.size < W1.heap.size := (Array.getElem?_eq_some_iff.1 hA.out.1).1
      unfold noFld at c0 c1
      go_wp2_with fail
      go_ret
      refine ⟨rfl, ?_⟩
      exact ahead (ahead hb2.out hA.out.2) (below_box _ _)
    · have hP : Hid (∀ W, Below w.heap.size w W → _) := Lib.hid fun W hb => parse_good s W hs (hsp.below hb) hg
      have hR : Hid (∀ W, _) := Lib.hid fun W => rparse_good s W hs hg
      have h1 := before_size s
      have h2 := behind_size s
      have h3 := trim_le (behind s).data.toList
      rw [blen] at h3
      have hcs := col_le s
      have hz : (⟨(trim (behind s).data.toList).toArray⟩ : ByteArray).size ≤ 1099511627776 := by rw [bsize]; omega
      have hF : Hid (∀ W, Below w.heap.size w W → _) := Lib.hid fun W hb => right_any (parsed s) W (show (before s).size ≤ _ by omega) hz (hsp.below hb)
      rw [parsed_right hg] at hF
      clear hsp hg h1 h2 h3 hcs hz
      generalize parsed s = f at *
      obtain ⟨x, y⟩ := f
      go_enter Tryd.func3, Tryd.ntmps3
      go_wp2_with fail
      refine hW.out.mono ?_
      rintro e w1 ⟨rfl, hb1⟩
      replace hb1 := Lib.hid hb1
      go_wp2_with fail
      refine (hP.out _ hb1.out).mono ?_
      rintro e w2 ⟨rfl, hb2⟩
      replace hb2 := Lib.hid (ahead hb1.out hb2)
      clear hP hW
      go_wp2_with fail
      have hA := Lib.hid (TwoAt.drew w2 (.string x) (.string y) 0)
      simp only [World.drewN_zero] at hA
      generalize w2.alloc _ = W at hA ⊢
      refine (hR.out _).mono ?_
      rintro e W1 ⟨rfl, hb3⟩
      replace hA := Lib.hid (hA.out.below hb3)
      clear hb3 hR
      obtain ⟨c0, c1, c2⟩ := two_cells hA.out.1
      have hlt : w2.heap.size < W1.heap.size := (Array.getElem?_eq_some_iff.1 hA.out.1).1
      go_wp2_with fail
      refine (hF.out _ (ahead (ahead hb2.out hA.out.2) (below_box _ _))).mono ?_
      rintro e W2 ⟨rfl, hb4⟩
      have hE := Lib.hid (ahead (ahead (ahead hb2.out hA.out.2) (below_box _ _)) hb4)
      go_wp2_with fail
      go_ret
      exact ⟨rfl, hE.out⟩

end Go.Proofs.YtpjmeikeliiepaaDoor
