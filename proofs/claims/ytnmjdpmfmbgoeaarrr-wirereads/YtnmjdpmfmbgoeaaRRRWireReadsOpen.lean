/- WireReads from what came in. -/
import Derived.Test.YtnmjdpmfmbgoeaaRRRWireReads
namespace Go.Proofs.YtnmjdpmfmbgoeaaRRR
open Go.ChangeShapes Go.WideShapes Go.ChangeAt Go.RowKit Go.Deep
set_option linter.unusedVariables false
set_option maxRecDepth 100000

set_option maxRecDepth 100000 in
theorem reads16_data {H : Type} {enc : TypeId × Value → H} {W : World} {base : Nat} {v0 v1 v2 : Value} {d0 d1 d2 : DataW H} {p0 p1 p2 : List MemPlace} (u0 : Value.okWide Try.prog W .any base 22 v0) (h0 : DataW.Trod enc Try.prog W 0 (fun _ => true) true 22 v0 d0 p0)
    (u1 : Value.okWide Try.prog W .any base 3 v1) (h1 : DataW.Trod enc Try.prog W 0 (fun _ => true) true 3 v1 d1 p1) (u2 : Value.okWide Try.prog W .any base 23 v2) (h2 : DataW.Trod enc Try.prog W 0 (fun _ => true) true 23 v2 d2 p2) (hz : (DataW.weightsEach Try.prog [22, 3, 23] [d0, d1, d2]).all (· ≤ reachBytes) = true) :
    Calls Try.prog 3 #[v0, v1, v2] W fun e w' => e = .returned (.bool true) ∧ Below W.heap.size W w' := by
  obtain ⟨L, q, c, rfl, hC, hl, hx⟩ := open_chunks16 u0 h0 (each_weight hz (j := 0) rfl rfl)
  obtain ⟨e, rfl⟩ := open_int16 u1 h1
  obtain ⟨pn, ns, cn, rfl, hn⟩ := open_nums u2 h2
  exact reads16_walk L q c e ns pn cn W hC hl hx hn

end Go.Proofs.YtnmjdpmfmbgoeaaRRR
