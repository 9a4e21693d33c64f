/- The document's examples of layer 2 hold. -/
import Derived.Test.YtbddempoohiaoaaDoorOctetSmall
import Derived.Test.YtbddempoohiaoaaDoorOctetLaid
namespace Go.Proofs.YtbddempoohiaoaaDoor
open Go.ChangeShapes Go.WideShapes Go.ChangeAt Go.RowKit
open Oc
set_option linter.unusedVariables false

theorem wk1 : token (⟨#[84, 114, 97, 110, 115, 102, 101, 114, 45, 69, 110, 99, 111, 100, 105, 110, 103]⟩ : ByteArray).data.toList = true := by decide
theorem wk2 : token (⟨#[97, 32, 98]⟩ : ByteArray).data.toList = false := by decide
theorem wk3 : (⟨(trim (⟨#[32, 97, 32]⟩ : ByteArray).data.toList).toArray⟩ : ByteArray) = ⟨#[97]⟩ := by decide

set_option maxHeartbeats 400000 in
theorem wakes2_any (w : World) (hsp : Spans w) :
    Calls Tryd.prog 8 #[] w fun e w' => e = .returned (.bool true) ∧ Below w.heap.size w w' := by
  have c1 := token_any ⟨#[84, 114, 97, 110, 115, 102, 101, 114, 45, 69, 110, 99, 111, 100, 105, 110, 103]⟩ w (by decide) hsp
  rw [wk1] at c1
  have c2 := fun w (h : Spans w) => token_any ⟨#[97, 32, 98]⟩ w (by decide) h
  rw [wk2] at c2
  have c3 := fun w => trim_any ⟨#[32, 97, 32]⟩ w (by decide)
  rw [wk3] at c3
  have C2 := Lib.hid c2
  have C3 := Lib.hid c3
  clear c2 c3
  go_enter Tryd.func8, Tryd.ntmps8
  go_wp2_with fail
  refine c1.mono ?_; rintro e w1 ⟨rfl, hb1⟩
  go_wp2_with fail
  refine (C2.out _ (hsp.below hb1)).mono ?_; rintro e w2 ⟨rfl, hb2⟩
  go_wp2_with fail
  refine (C3.out _).mono ?_; rintro e w3 ⟨rfl, hb3⟩
  go_wp2_with fail
  go_ret
  have hb12 := hb1.trans (hb2.mono hb1.size)
  exact ⟨rfl, hb12.trans (hb3.mono hb12.size)⟩

end Go.Proofs.YtbddempoohiaoaaDoor
