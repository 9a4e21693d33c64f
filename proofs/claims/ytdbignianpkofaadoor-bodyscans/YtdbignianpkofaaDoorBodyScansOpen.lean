/- BodyScans from what came in. -/
import Derived.Test.YtdbignianpkofaaDoorBodyScans
import Derived.Test.YtdbignianpkofaaDoorBodyOpen
namespace Go.Proofs.YtdbignianpkofaaDoor
open Go.ChangeShapes Go.WideShapes Go.ChangeAt Go.RowKit Go.Deep
open Oc Fl Bk Bd
set_option linter.unusedVariables false
set_option maxRecDepth 100000

theorem scans8_data {H : Type} {enc : TypeId × Value → H} {W : World} {base : Nat} {v0 v1 : Value} {d0 d1 : DataW H} {p0 p1 : List MemPlace} (u0 : Value.okWide Tryd.prog W .any base 22 v0) (h0 : DataW.Trod enc Tryd.prog W 0 (fun _ => true) true 22 v0 d0 p0)
    (u1 : Value.okWide Tryd.prog W .any base 24 v1) (h1 : DataW.Trod enc Tryd.prog W 0 (fun _ => true) true 24 v1 d1 p1) (hsp : Spans W) (hbd : Bound W) :
    Calls Tryd.prog 3 #[v0, v1] W fun e w' => e = .returned (.bool true) ∧ Below W.heap.size W w' := by
  obtain ⟨T, hT, hv⟩ := open_bytes u0 h0
  obtain ⟨a, b, c, rfl⟩ := open_lims u1
  exact scans8_walk a b c W hT hv hsp hbd

end Go.Proofs.YtdbignianpkofaaDoor
