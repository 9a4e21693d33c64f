/- OutletWholes from what came in. -/
import Derived.Test.YtilebfpaibajcaaGreatDoorOutWholes
import Derived.Test.YtilebfpaibajcaaGreatDoorOutWake
import Derived.Test.YtilebfpaibajcaaGreatDoorOutSee
import Derived.Test.YtilebfpaibajcaaGreatDoorMK
namespace Go.Proofs.YtilebfpaibajcaaGreatDoor
open Go.ChangeShapes Go.WideShapes Go.ChangeAt Go.RowKit Go.Deep
open Oc Fl Bk Bd Ot
set_option linter.unusedVariables false
set_option maxRecDepth 100000

theorem frame14_cells : Tryz.prog.cellTypes Tryz.prog.depth 24 = some [3, 22] := by kernel_rfl
theorem frame14_size : Tryz.prog.cellsOf 24 = 2 := by kernel_rfl
set_option maxRecDepth 100000 in
/-- A framing. -/
theorem open_frame14 {W : World} {base : Nat} {v : Value} (u : Value.okWide Tryz.prog W .any base 24 v) : ∃ k s, v = fr14 k s ∧ 0 ≤ s := by
  simp only [Value.okWide, Tryz.underlying24] at u
  obtain ⟨cs, rfl, hs, ts, h1, h2, h3⟩ := u
  rw [frame14_cells] at h1
  cases h1
  rw [frame14_size] at hs
  obtain ⟨l⟩ := cs
  match l, hs with
  | [x, y], _ =>
    obtain ⟨u0, e0, c0⟩ := h3 0 x rfl
    obtain ⟨u1, e1, c1⟩ := h3 1 y rfl
    cases e0
    cases e1
    obtain ⟨a, rfl, ha⟩ := cell_int Tryz.underlying3 c0
    obtain ⟨b, rfl, hb⟩ := cell_int Tryz.underlying22 c1
    exact ⟨a, b, rfl, hb.1⟩

set_option maxRecDepth 100000 in
theorem wholes14_data {H : Type} {enc : TypeId × Value → H} {W : World} {base : Nat} {v0 v1 : Value} {d1 : DataW H} {p1 : List MemPlace} (u0 : Value.okWide Tryz.prog W .any base 24 v0)
    (u1 : Value.okWide Tryz.prog W .any base 35 v1) (h1 : DataW.Trod enc Tryz.prog W 0 (fun _ => true) true 35 v1 d1 p1) (hT : Tbl W) (hsp : Spans W) (hbd : Bound W) :
    Calls Tryz.prog 5 #[v0, v1] W fun e w' => e = .returned (.bool true) ∧ Below W.heap.size W w' := by
  obtain ⟨k, s, rfl, hs⟩ := open_frame14 u0
  obtain ⟨T, hR, hv⟩ := open_bytes u1 h1
  obtain ⟨p, cap, rfl, -⟩ := id hR
  exact wholes14_walk k s T p cap W hR (fun w hb => wakes14 w (hT.below hb) (hsp.below hb)) fun w hb hl => owhole14_any k s T p cap w (hR.below hb) (by omega) (fun g hg => Nat.lt_of_lt_of_le (hv g hg) hb.size) (hsp.below hb) (hbd.below hb)

end Go.Proofs.YtilebfpaibajcaaGreatDoor
