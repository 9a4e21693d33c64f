/- ClockLate from what came in. -/
import Derived.Test.YtcmkdeejofoibaaClkLate
import Derived.Test.YtcmkdeejofoibaaClkForm
import Derived.Test.YtcmkdeejofoibaaClkOpenIn
namespace Go.Proofs.Ytcmkdeejofoibaa
open Go.ChangeShapes Go.WideShapes Go.ChangeAt Go.RowKit Go.Deep
set_option linter.unusedVariables false
set_option maxRecDepth 100000

set_option maxRecDepth 100000 in
theorem late15_data {H : Type} {enc : TypeId × Value → H} {W : World} {base : Nat} {v0 v1 : Value} {d0 d1 : DataW H} {p0 p1 : List MemPlace} (u0 : Value.okWide Try.prog W .any base 5 v0) (h0 : DataW.Trod enc Try.prog W 0 (fun _ => true) true 5 v0 d0 p0) (u1 : Value.okWide Try.prog W .any base 57 v1) (h1 : DataW.Trod enc Try.prog W 0 (fun _ => true) true 57 v1 d1 p1) :
    Calls Try.prog 6 #[v0, v1] W fun e w' => e = .returned (.bool true) ∧ Below W.heap.size W w' := by
  obtain ⟨a, rfl, a0, a1⟩ := open_u8n u0 h0
  obtain ⟨T, hR, -⟩ := open_bytes u1 h1
  obtain ⟨p, c, rfl, -⟩ := id hR
  exact late15_walk forms15 a a0 a1 p _ c T W hR

end Go.Proofs.Ytcmkdeejofoibaa
