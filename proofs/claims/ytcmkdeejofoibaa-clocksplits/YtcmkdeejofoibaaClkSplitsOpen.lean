/- ClockSplits from what came in. -/
import Derived.Test.YtcmkdeejofoibaaClkSplits
import Derived.Test.YtcmkdeejofoibaaClkForm
import Derived.Test.YtcmkdeejofoibaaClkOpenIn
namespace Go.Proofs.Ytcmkdeejofoibaa
open Go.ChangeShapes Go.WideShapes Go.ChangeAt Go.RowKit Go.Deep
set_option linter.unusedVariables false
set_option maxRecDepth 100000

set_option maxRecDepth 100000 in
theorem open_u16n {H : Type} {enc : TypeId × Value → H} {W : World} {base : Nat} {v : Value} {d : DataW H} {p : List MemPlace} (u : Value.okWide Try.prog W .any base 51 v)
    (h : DataW.Trod enc Try.prog W 0 (fun _ => true) true 51 v d p) : ∃ n : Int, v = .int .u16 n ∧ 0 ≤ n ∧ n ≤ 65535 := by
  obtain ⟨a, rfl, _, _, w0⟩ := open_int Try.underlying51 u h
  have b : 0 ≤ a ∧ a ≤ 65535 := bounds_u16 w0
  exact ⟨a, rfl, b.1, b.2⟩
set_option maxRecDepth 100000 in
theorem splits15_data {H : Type} {enc : TypeId × Value → H} {W : World} {base : Nat} {v0 v1 v2 : Value} {d0 d1 d2 : DataW H} {p0 p1 p2 : List MemPlace} (u0 : Value.okWide Try.prog W .any base 22 v0) (h0 : DataW.Trod enc Try.prog W 0 (fun _ => true) true 22 v0 d0 p0) (u1 : Value.okWide Try.prog W .any base 51 v1) (h1 : DataW.Trod enc Try.prog W 0 (fun _ => true) true 51 v1 d1 p1) (u2 : Value.okWide Try.prog W .any base 51 v2) (h2 : DataW.Trod enc Try.prog W 0 (fun _ => true) true 51 v2 d2 p2) (hz : (DataW.weightsEach Try.prog [22, 51, 51] [d0, d1, d2]).all (· ≤ reachBytes) = true) :
    Calls Try.prog 4 #[v0, v1, v2] W fun e w' => e = .returned (.bool true) ∧ Below W.heap.size W w' := by
  obtain ⟨os, q, c, rfl, hO, -, hf⟩ := open_ops15 u0 h0 (each_weight hz (j := 0) rfl rfl)
  obtain ⟨a, rfl, a0, a1⟩ := open_u16n u1 h1
  obtain ⟨b, rfl, b0, b1⟩ := open_u16n u2 h2
  exact splits15_walk forms15 os a b a0 a1 b0 b1 W hO hf

end Go.Proofs.Ytcmkdeejofoibaa
