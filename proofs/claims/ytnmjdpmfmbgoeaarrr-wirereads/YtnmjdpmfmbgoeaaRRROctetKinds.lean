/- What octet.Token, octet.Text, and the document's Token, Text, token, Byte, blank answer. -/
import Derived.Test.YtnmjdpmfmbgoeaaRRROctetGo
namespace Go.Proofs.YtnmjdpmfmbgoeaaRRR
open Go.ChangeShapes Go.WideShapes Go.ChangeAt Go.RowKit
open Oc
set_option linter.unusedVariables false
set_option maxRecDepth 100000

theorem bempty {s : ByteArray} (h : s.size = 0) : s = ⟨#[]⟩ := ByteArray.size_eq_zero_iff.1 h
theorem bne_of (s : ByteArray) (h : ¬ s.size = 0) : s.toList.isEmpty = false := by
  rw [ByteArray.toList_eq]; cases s; rename_i d; cases d; rename_i l; cases l with
  | nil => exact absurd rfl h
  | cons => rfl
theorem bne_data (s : ByteArray) (h : ¬ s.size = 0) : s.data.toList.isEmpty = false := by
  cases s; rename_i d; cases d; rename_i l; cases l with
  | nil => exact absurd rfl h
  | cons => rfl
theorem token_ne {s : ByteArray} (h : ¬ s.size = 0) : token s.data.toList = every tokB s.data.toList := by
  unfold token; rw [bne_data s h]; rfl

end Go.Proofs.YtnmjdpmfmbgoeaaRRR
