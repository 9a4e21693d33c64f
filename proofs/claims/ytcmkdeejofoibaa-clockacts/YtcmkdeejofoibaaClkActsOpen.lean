/- ClockActs from what came in. -/
import Derived.Test.YtcmkdeejofoibaaClkActs
import Derived.Test.YtcmkdeejofoibaaClkForm
import Derived.Test.YtcmkdeejofoibaaClkOpenIn
namespace Go.Proofs.Ytcmkdeejofoibaa
open Go.ChangeShapes Go.WideShapes Go.ChangeAt Go.RowKit Go.Deep
set_option linter.unusedVariables false
set_option maxRecDepth 100000

set_option maxRecDepth 100000 in
theorem acts15_data {H : Type} {enc : TypeId × Value → H} {W : World} {base : Nat} {v0 : Value} {d0 : DataW H} {p0 : List MemPlace} (u0 : Value.okWide Try.prog W .any base 22 v0) (h0 : DataW.Trod enc Try.prog W 0 (fun _ => true) true 22 v0 d0 p0) (hz : (DataW.weightsEach Try.prog [22] [d0]).all (· ≤ reachBytes) = true) :
    Calls Try.prog 3 #[v0] W fun e w' => e = .returned (.bool true) ∧ Below W.heap.size W w' := by
  obtain ⟨os, q, c, rfl, hO, -, hf⟩ := open_ops15 u0 h0 (each_weight hz (j := 0) rfl rfl)
  exact acts15_walk forms15 apart15 os W hO hf

end Go.Proofs.Ytcmkdeejofoibaa
