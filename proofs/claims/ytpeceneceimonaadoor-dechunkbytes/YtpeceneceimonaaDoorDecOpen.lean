/- The laws of layer 9 from what came in. -/
import Derived.Test.YtpeceneceimonaaDoorDecBytes
import Derived.Test.YtpeceneceimonaaDoorBytesOpen
namespace Go.Proofs.YtpeceneceimonaaDoor
open Go.ChangeShapes Go.WideShapes Go.ChangeAt Go.RowKit Go.Deep
open Oc Fl Bk Bd Dk
set_option linter.unusedVariables false
set_option maxRecDepth 100000

theorem stays9_data {H : Type} {enc : TypeId × Value → H} {W : World} {base : Nat} {v0 v1 v2 : Value} {d1 d2 : DataW H} {p1 p2 : List MemPlace} (u0 : Value.okWide Tryd.prog W .any base 23 v0)
    (u1 : Value.okWide Tryd.prog W .any base 26 v1) (h1 : DataW.Trod enc Tryd.prog W 0 (fun _ => true) true 26 v1 d1 p1) (u2 : Value.okWide Tryd.prog W .any base 26 v2) (h2 : DataW.Trod enc Tryd.prog W 0 (fun _ => true) true 26 v2 d2 p2) (hsp : Spans W) :
    Calls Tryd.prog 5 #[v0, v1, v2] W fun e w' => e = .returned (.bool true) ∧ Below W.heap.size W w' := by
  obtain ⟨a, b, c, rfl⟩ := open_lims u0
  obtain ⟨T, hT, hv⟩ := open_bytes u1 h1
  obtain ⟨U, hU, hu⟩ := open_bytes u2 h2
  obtain ⟨p, k, rfl, -⟩ := id hT
  obtain ⟨q, m, rfl, -⟩ := id hU
  exact stays9_walk a b c W hT hU hv hu hsp
theorem counts9_data {H : Type} {enc : TypeId × Value → H} {W : World} {base : Nat} {v0 v1 : Value} {d1 : DataW H} {p1 : List MemPlace} (u0 : Value.okWide Tryd.prog W .any base 23 v0)
    (u1 : Value.okWide Tryd.prog W .any base 26 v1) (h1 : DataW.Trod enc Tryd.prog W 0 (fun _ => true) true 26 v1 d1 p1) (hsp : Spans W) :
    Calls Tryd.prog 6 #[v0, v1] W fun e w' => e = .returned (.bool true) ∧ Below W.heap.size W w' := by
  obtain ⟨a, b, c, rfl⟩ := open_lims u0
  obtain ⟨T, hT, hv⟩ := open_bytes u1 h1
  obtain ⟨p, k, rfl, -⟩ := id hT
  exact counts9_walk a b c W hT hv hsp
theorem bytes9_data {H : Type} {enc : TypeId × Value → H} {W : World} {base : Nat} {v0 v1 : Value} {d1 : DataW H} {p1 : List MemPlace} (u0 : Value.okWide Tryd.prog W .any base 23 v0)
    (u1 : Value.okWide Tryd.prog W .any base 26 v1) (h1 : DataW.Trod enc Tryd.prog W 0 (fun _ => true) true 26 v1 d1 p1) (hsp : Spans W) :
    Calls Tryd.prog 4 #[v0, v1] W fun e w' => e = .returned (.bool true) ∧ Below W.heap.size W w' := by
  obtain ⟨a, b, c, rfl⟩ := open_lims u0
  obtain ⟨T, hT, hv⟩ := open_bytes u1 h1
  obtain ⟨p, k, rfl, -⟩ := id hT
  exact bytes9_walk a b c W hT hv hsp

end Go.Proofs.YtpeceneceimonaaDoor
