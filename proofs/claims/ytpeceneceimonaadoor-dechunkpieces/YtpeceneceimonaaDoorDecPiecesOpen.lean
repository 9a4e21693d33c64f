/- DechunkPieces from what came in. -/
import Derived.Test.YtpeceneceimonaaDoorDecPiecesGo
import Derived.Test.YtpeceneceimonaaDoorBytesOpen
namespace Go.Proofs.YtpeceneceimonaaDoor
open Go.ChangeShapes Go.WideShapes Go.ChangeAt Go.RowKit Go.Deep
open Oc Fl Bk Bd Dk
set_option linter.unusedVariables false
set_option maxRecDepth 100000

theorem pieces9_data {H : Type} {enc : TypeId × Value → H} {W : World} {base : Nat} {v0 v1 : Value} {d0 d1 : DataW H} {p1 : List MemPlace} (u0 : Value.okWide Tryd.prog W .any base 23 v0)
    (u1 : Value.okWide Tryd.prog W .any base 24 v1) (h1 : DataW.Trod enc Tryd.prog W 0 (fun _ => true) true 24 v1 d1 p1) (hz : (DataW.weightsEach Tryd.prog [23, 24] [d0, d1]).all (· ≤ reachBytes) = true) (hsp : Spans W) :
    Calls Tryd.prog 3 #[v0, v1] W fun e w' => e = .returned (.bool true) ∧ Below W.heap.size W w' := by
  obtain ⟨a, b, c, rfl⟩ := open_lims u0
  obtain ⟨cs, q, ck, rfl, hC, _, hcb⟩ := open_chunks u1 h1 (each_weight hz (j := 1) rfl rfl)
  exact pieces9_walk a b c cs W hC hcb (fun _ _ => trivial) hsp

end Go.Proofs.YtpeceneceimonaaDoor
