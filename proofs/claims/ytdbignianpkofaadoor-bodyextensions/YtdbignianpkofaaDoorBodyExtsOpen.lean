/- BodyExtensions and BodyChunkings from what came in. -/
import Derived.Test.YtdbignianpkofaaDoorBodyChunkings
import Derived.Test.YtdbignianpkofaaDoorBodyPutsOpen
namespace Go.Proofs.YtdbignianpkofaaDoor
open Go.ChangeShapes Go.WideShapes Go.ChangeAt Go.RowKit Go.Deep
open Oc Fl Bk Bd
set_option linter.unusedVariables false
set_option maxRecDepth 100000

theorem exts8_data {H : Type} {enc : TypeId × Value → H} {W : World} {base : Nat} {v0 v1 v2 : Value} {d0 d1 d2 : DataW H} {p0 p1 p2 : List MemPlace} (u0 : Value.okWide Tryd.prog W .any base 44 v0) (h0 : DataW.Trod enc Tryd.prog W 0 (fun _ => true) true 44 v0 d0 p0)
    (u1 : Value.okWide Tryd.prog W .any base 9 v1) (h1 : DataW.Trod enc Tryd.prog W 0 (fun _ => true) true 9 v1 d1 p1) (u2 : Value.okWide Tryd.prog W .any base 5 v2) (h2 : DataW.Trod enc Tryd.prog W 0 (fun _ => true) true 5 v2 d2 p2)
    (hz : (DataW.weightsEach Tryd.prog [44, 9, 5] [d0, d1, d2]).all (· ≤ reachBytes) = true) (hsp : Spans W) (hbd : Bound W) :
    Calls Tryd.prog 7 #[v0, v1, v2] W fun e w' => e = .returned (.bool true) ∧ Below W.heap.size W w' := by
  obtain ⟨cs, p, c, rfl, hC, _, hcb⟩ := open_chunks u0 h0 (each_weight hz (j := 0) rfl rfl)
  obtain ⟨s, rfl, hs⟩ := open_text u1 h1
  obtain ⟨b, rfl⟩ := open_byte u2 h2
  rw [← arr_of s]
  exact exts8_walk cs s.data.toList b.toNat (by have := b.toNat_lt; omega) p c W hC hcb (by rw [blen']; exact hs) hsp hbd
theorem chunkings8_data {H : Type} {enc : TypeId × Value → H} {W : World} {base : Nat} {v0 v1 : Value} {d0 d1 : DataW H} {p0 p1 : List MemPlace} (u0 : Value.okWide Tryd.prog W .any base 22 v0) (h0 : DataW.Trod enc Tryd.prog W 0 (fun _ => true) true 22 v0 d0 p0)
    (u1 : Value.okWide Tryd.prog W .any base 22 v1) (h1 : DataW.Trod enc Tryd.prog W 0 (fun _ => true) true 22 v1 d1 p1) (hsp : Spans W) (hbd : Bound W) :
    Calls Tryd.prog 8 #[v0, v1] W fun e w' => e = .returned (.bool true) ∧ Below W.heap.size W w' := by
  obtain ⟨D, hD, _⟩ := open_bytes u0 h0
  obtain ⟨C, hC, _⟩ := open_bytes u1 h1
  obtain ⟨p, c, rfl, -⟩ := id hD
  obtain ⟨q, d, rfl, -⟩ := id hC
  exact chunkings8_walk D C p q c d W hD hC hsp hbd

end Go.Proofs.YtdbignianpkofaaDoor
