/- The laws' example. -/
import Derived.Test.YtjkccacpffikbaaDoorDecAt
import Derived.Lib.SlBytesConst
namespace Go.Proofs.YtjkccacpffikbaaDoor
open Go.ChangeShapes Go.WideShapes Go.ChangeAt Go.RowKit
open Go.Shelf
open Oc Fl Bk Bd Dk
set_option linter.unusedVariables false
set_option maxRecDepth 100000

theorem wk1 : cont ⟨0, 0, 0⟩ (sz [] 0 0, 0, 4) [51] = (sz [] 3 1, 1, 4) := by rfl
theorem wk2 : cont ⟨0, 0, 0⟩ (sz [] 3 1, 1, 4) [13, 10, 97, 98] = (⟨3, 1, 1, 0, 0, [], [97, 98], []⟩, 5, 4) := by rfl

end Go.Proofs.YtjkccacpffikbaaDoor
