/- The examples of layer 1 hold. -/
import Derived.Test.YtgedaplljnpilaaDoorHexaGo
namespace Go.Proofs.YtgedaplljnpilaaDoor
open Go.ChangeShapes Go.WideShapes Go.ChangeAt Go.RowKit
open Hx
set_option linter.unusedVariables false

theorem wake1 (w : World) : Calls Tryd.prog 7 #[.string ⟨#[49, 97]⟩] w fun e w' => e = .returned (.tuple #[.int .u64 26, .int .i64 0]) ∧ w = w' :=
  (parse_any ⟨#[49, 97]⟩ w (by decide)).mono fun e w' h => by
    rw [show parse (⟨#[49, 97]⟩ : ByteArray).data.toList = (26, 0) from by decide] at h; exact h
theorem wake2 (w : World) : Calls Tryd.prog 7 #[.string ⟨#[48, 48, 70, 70]⟩] w fun e w' => e = .returned (.tuple #[.int .u64 255, .int .i64 0]) ∧ w = w' :=
  (parse_any ⟨#[48, 48, 70, 70]⟩ w (by decide)).mono fun e w' h => by
    rw [show parse (⟨#[48, 48, 70, 70]⟩ : ByteArray).data.toList = (255, 0) from by decide] at h; exact h
theorem wake3 (w : World) : Calls Tryd.prog 7 #[.string ⟨#[]⟩] w fun e w' => e = .returned (.tuple #[.int .u64 0, .int .i64 2]) ∧ w = w' :=
  (parse_any ⟨#[]⟩ w (by decide)).mono fun e w' h => by
    rw [show parse (⟨#[]⟩ : ByteArray).data.toList = (0, 2) from by decide] at h; exact h

set_option maxHeartbeats 400000 in
theorem wakes_any (w : World) : Calls Tryd.prog 5 #[] w fun e w' => e = .returned (.bool true) ∧ w = w' := by
  go_enter Tryd.func5, Tryd.ntmps5
  go_wp2_with fail
  refine (wake1 _).mono ?_; rintro e w' ⟨rfl, rfl⟩
  go_wp2_with fail
  refine (wake2 _).mono ?_; rintro e w' ⟨rfl, rfl⟩
  go_wp2_with fail
  refine (wake3 _).mono ?_; rintro e w' ⟨rfl, rfl⟩
  go_wp2_with fail
  go_ret
  exact ⟨rfl, rfl⟩


end Go.Proofs.YtgedaplljnpilaaDoor
