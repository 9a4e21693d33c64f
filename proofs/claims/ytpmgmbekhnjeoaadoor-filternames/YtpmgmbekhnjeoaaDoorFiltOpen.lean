/- The laws of layer 13 from what came in. -/
import Derived.Test.YtpmgmbekhnjeoaaDoorFiltLaws
import Derived.Test.YtpmgmbekhnjeoaaDoorFiltAll
import Derived.Test.YtpmgmbekhnjeoaaDoorFieldOpenIn
namespace Go.Proofs.YtpmgmbekhnjeoaaDoor
open Go.ChangeShapes Go.WideShapes Go.ChangeAt Go.RowKit Go.Deep
open Oc Fl Ft
set_option linter.unusedVariables false
set_option maxRecDepth 100000

theorem names_data {H : Type} {enc : TypeId × Value → H} {W : World} {base : Nat} {v0 v1 : Value} {d0 d1 : DataW H} {p0 p1 : List MemPlace}
    (u0 : Value.okWide Tryd.prog W .any base 9 v0) (h0 : DataW.Trod enc Tryd.prog W 0 (fun _ => true) true 9 v0 d0 p0)
    (u1 : Value.okWide Tryd.prog W .any base 5 v1) (h1 : DataW.Trod enc Tryd.prog W 0 (fun _ => true) true 5 v1 d1 p1) (hT : Tbl W) :
    Calls Tryd.prog 3 #[v0, v1] W fun e w' => e = .returned (.bool true) ∧ Below W.heap.size W w' := by
  obtain ⟨s, rfl, _⟩ := open_text u0 h0
  obtain ⟨b, rfl⟩ := open_byte u1 h1
  exact names_walk s b.toNat (by have := b.toNat_lt; omega) W hT
theorem parts_data {H : Type} {enc : TypeId × Value → H} {W : World} {base : Nat} {v0 : Value} {d0 : DataW H} {p0 : List MemPlace}
    (u0 : Value.okWide Tryd.prog W .any base 27 v0) (h0 : DataW.Trod enc Tryd.prog W 0 (fun _ => true) true 27 v0 d0 p0)
    (hz : (DataW.weightsEach Tryd.prog [27] [d0]).all (· ≤ reachBytes) = true) (hT : Tbl W) :
    Calls Tryd.prog 4 #[v0] W fun e w' => e = .returned (.bool true) ∧ Below W.heap.size W w' := by
  obtain ⟨l, q, c, rfl, hF, hl, hfs⟩ := open_flds u0 h0 (each_weight hz (j := 0) rfl rfl)
  exact parts_walk l q c W hT hF hl hfs
theorem all_data {H : Type} {enc : TypeId × Value → H} {W : World} {base : Nat} {v0 : Value} {d0 : DataW H} {p0 : List MemPlace}
    (u0 : Value.okWide Tryd.prog W .any base 5 v0) (h0 : DataW.Trod enc Tryd.prog W 0 (fun _ => true) true 5 v0 d0 p0) (hT : Tbl W) :
    Calls Tryd.prog 5 #[v0] W fun e w' => e = .returned (.bool true) ∧ Below W.heap.size W w' := by
  obtain ⟨b, rfl⟩ := open_byte u0 h0
  exact all_walk b.toNat (by have := b.toNat_lt; omega) W hT
theorem joins13_data {H : Type} {enc : TypeId × Value → H} {W : World} {base : Nat} {v0 v1 : Value} {d0 d1 : DataW H} {p0 p1 : List MemPlace}
    (u0 : Value.okWide Tryd.prog W .any base 27 v0) (h0 : DataW.Trod enc Tryd.prog W 0 (fun _ => true) true 27 v0 d0 p0)
    (u1 : Value.okWide Tryd.prog W .any base 27 v1) (h1 : DataW.Trod enc Tryd.prog W 0 (fun _ => true) true 27 v1 d1 p1)
    (hz : (DataW.weightsEach Tryd.prog [27, 27] [d0, d1]).all (· ≤ reachBytes) = true) (hT : Tbl W) :
    Calls Tryd.prog 6 #[v0, v1] W fun e w' => e = .returned (.bool true) ∧ Below W.heap.size W w' := by
  obtain ⟨a, q, c, rfl, hA, hla, hfa⟩ := open_flds u0 h0 (each_weight hz (j := 0) rfl rfl)
  obtain ⟨b, q', c', rfl, hB, hlb, hfb⟩ := open_flds u1 h1 (each_weight hz (j := 1) rfl rfl)
  exact joins13_walk a b q q' c c' W hT hA hB hla hlb hfa hfb

end Go.Proofs.YtpmgmbekhnjeoaaDoor
