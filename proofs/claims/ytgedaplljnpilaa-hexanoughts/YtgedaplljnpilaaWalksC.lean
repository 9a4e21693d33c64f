/- The examples hold; the document's Put answers a number's text. -/
import Derived.Test.YtgedaplljnpilaaWalksB
namespace Go.Proofs.Ytgedaplljnpilaa
open Go.ChangeShapes Go.WideShapes Go.ChangeAt Go.RowKit
open Hx
set_option linter.unusedVariables false

theorem wake1 (w : World) : Calls Try.prog 7 #[.string ⟨#[49, 97]⟩] w fun e w' => e = .returned (.tuple #[.int .u64 26, .int .i64 0]) ∧ w = w' :=
  (parse_any ⟨#[49, 97]⟩ w (by decide)).mono fun e w' h => by
    rw [show parse (⟨#[49, 97]⟩ : ByteArray).data.toList = (26, 0) from by decide] at h; exact h
theorem wake2 (w : World) : Calls Try.prog 7 #[.string ⟨#[48, 48, 70, 70]⟩] w fun e w' => e = .returned (.tuple #[.int .u64 255, .int .i64 0]) ∧ w = w' :=
  (parse_any ⟨#[48, 48, 70, 70]⟩ w (by decide)).mono fun e w' h => by
    rw [show parse (⟨#[48, 48, 70, 70]⟩ : ByteArray).data.toList = (255, 0) from by decide] at h; exact h
theorem wake3 (w : World) : Calls Try.prog 7 #[.string ⟨#[]⟩] w fun e w' => e = .returned (.tuple #[.int .u64 0, .int .i64 2]) ∧ w = w' :=
  (parse_any ⟨#[]⟩ w (by decide)).mono fun e w' h => by
    rw [show parse (⟨#[]⟩ : ByteArray).data.toList = (0, 2) from by decide] at h; exact h

set_option maxHeartbeats 400000 in
theorem wakes_any (w : World) : Calls Try.prog 6 #[] w fun e w' => e = .returned (.bool true) ∧ w = w' := by
  go_enter Try.func6, Try.ntmps6
  go_wp2_with fail
  refine (wake1 _).mono ?_; rintro e w' ⟨rfl, rfl⟩
  go_wp2_with fail
  refine (wake2 _).mono ?_; rintro e w' ⟨rfl, rfl⟩
  go_wp2_with fail
  refine (wake3 _).mono ?_; rintro e w' ⟨rfl, rfl⟩
  go_wp2_with fail
  go_ret
  exact ⟨rfl, rfl⟩

set_option maxHeartbeats 400000 in
theorem parses_walk (a0 : ByteArray) (w0 : a0.size ≤ maxLen) (w : World) :
    Calls Try.prog 3 #[.string a0] w fun e w' => e = .returned (.bool true) ∧ Grown w w' := by
  unfold maxLen at w0
  by_cases h : 500 < a0.size
  · go_enter Try.func3, Try.ntmps3
    go_wp2_with (go_at_call 6; refine (wakes_any _).mono ?_; rintro e w' ⟨rfl, rfl⟩)
    go_ret
    exact ⟨rfl, Grown.refl _⟩
  · have hs : a0.size ≤ 1099511627776 := by omega
    go_enter Try.func3, Try.ntmps3
    go_wp2_with fail
    refine (wakes_any _).mono ?_; rintro e w' ⟨rfl, rfl⟩
    go_wp2_with fail
    refine (parse_any _ _ hs).mono ?_; rintro e w' ⟨rfl, rfl⟩
    go_wp2_with fail
    refine (rparse_any _ _ hs).mono ?_; rintro e w' ⟨rfl, rfl⟩
    go_wp2_with fail
    refine (digits_any _ _ hs).mono ?_; rintro e w' ⟨rfl, rfl⟩
    go_wp2_with fail
    refine (rdigits_any _ _ hs).mono ?_; rintro e w' ⟨rfl, rfl⟩
    go_wp2_with fail
    go_ret
    exact ⟨rfl, Grown.refl _⟩

end Go.Proofs.Ytgedaplljnpilaa
