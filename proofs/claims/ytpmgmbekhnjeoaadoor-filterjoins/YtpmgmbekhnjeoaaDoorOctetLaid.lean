/- Where the listed variable octet.wordSpans reads as it is listed, the letters and digits lie in its cells. -/
import Derived.Test.YtpmgmbekhnjeoaaDoorOctetGo
import Derived.LaidMore
import Derived.Stop.Joined
import Derived.Stop.LaidErr
import Derived.Lib.LaidU8
namespace Go.Proofs.YtpmgmbekhnjeoaaDoor
open Go.ChangeShapes Go.WideShapes Go.ChangeAt Go.RowKit
set_option linter.unusedVariables false
set_option maxRecDepth 100000

theorem sp_c1 : Tryd.prog.cellsOf 5 = 1 := by kernel_rfl
theorem cell_size {W : World} {g off : Nat} {v : Value} (h : W.cell? ⟨g, off, none⟩ = some v) : g < W.heap.size := by
  rcases Nat.lt_or_ge g W.heap.size with h1 | h1
  · exact h1
  · simp [World.cell?, Array.getElem?_eq_none h1] at h

end Go.Proofs.YtpmgmbekhnjeoaaDoor
