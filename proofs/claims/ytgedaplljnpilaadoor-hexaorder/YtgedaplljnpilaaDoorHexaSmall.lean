/- The digits' two lists. -/
import Derived.Test.YtgedaplljnpilaaDoorHexaGo
namespace Go.Proofs.YtgedaplljnpilaaDoor
open Go.ChangeShapes Go.WideShapes Go.ChangeAt Go.RowKit
open Hx
set_option linter.unusedVariables false

/-- The digits' two lists. -/
abbrev small : ByteArray := ⟨#[48, 49, 50, 51, 52, 53, 54, 55, 56, 57, 97, 98, 99, 100, 101, 102]⟩
abbrev great : ByteArray := ⟨#[48, 49, 50, 51, 52, 53, 54, 55, 56, 57, 65, 66, 67, 68, 69, 70]⟩
theorem small_hexd : ∀ (k : Nat) (h : k < small.size), small[k] = hexd k := by decide

end Go.Proofs.YtgedaplljnpilaaDoor
