/- WireAll from what came in. -/
import Derived.Test.YtnmjdpmfmbgoeaaRRRWireAll
import Derived.Test.YtnmjdpmfmbgoeaaRRRWireOpenIn
namespace Go.Proofs.YtnmjdpmfmbgoeaaRRR
open Go.ChangeShapes Go.WideShapes Go.ChangeAt Go.RowKit Go.Deep
set_option linter.unusedVariables false
set_option maxRecDepth 100000

set_option maxRecDepth 100000 in
theorem all16_data {H : Type} {enc : TypeId × Value → H} {W : World} {base : Nat} {v0 v1 : Value} {d0 d1 : DataW H} {p0 p1 : List MemPlace} (u0 : Value.okWide Try.prog W .any base 22 v0) (h0 : DataW.Trod enc Try.prog W 0 (fun _ => true) true 22 v0 d0 p0)
    (u1 : Value.okWide Try.prog W .any base 5 v1) (h1 : DataW.Trod enc Try.prog W 0 (fun _ => true) true 5 v1 d1 p1) (hz : (DataW.weightsEach Try.prog [22, 5] [d0, d1]).all (· ≤ reachBytes) = true) :
    Calls Try.prog 4 #[v0, v1] W fun e w' => e = .returned (.bool true) ∧ Below W.heap.size W w' := by
  obtain ⟨L, q, c, rfl, hC, hl, hx⟩ := open_chunks16 u0 h0 (each_weight hz (j := 0) rfl rfl)
  obtain ⟨n, rfl, n0, n1⟩ := open_u8n u1 h1
  exact all16_walk L q c n W hC hl hx ⟨n0, n1⟩

end Go.Proofs.YtnmjdpmfmbgoeaaRRR
