/- What the document's Fields and Great answer; fields that a call gathers. -/
import Derived.Test.YtnmjdpmfmbgoeaaRRRFieldRows
import Derived.Deep.RegionHeld3
namespace Go.Proofs.YtnmjdpmfmbgoeaaRRR
open Go.ChangeShapes Go.WideShapes Go.ChangeAt Go.RowKit
open Oc Fl
set_option linter.unusedVariables false
set_option maxRecDepth 100000

theorem cell_below {W W' : World} {a : Addr} {x : Value} (h : W.cell? a = some x) (hb : Below W.heap.size W W') : W'.cell? a = some x := by
  rw [hb.cell (World.block_lt_of_cell? W _ h)]; exact h

theorem below_drewN {B : Nat} {w W : World} (h : Below B w W) (n : Nat) : Below B w (W.drewN n) := ⟨h.os, h.tape, h.output, h.size, h.block⟩
theorem take_same {α : Type} {a b : List α} {k : Nat} {x : α} (h : a.take k = b.take k) (ha : a[k]? = some x) (hb : b[k]? = some x) : a.take (k + 1) = b.take (k + 1) := by
  rw [List.take_add_one, List.take_add_one, h, ha, hb]

theorem bulk_succ {l : List Fld} {k : Nat} {f : Fld} (h : l[k]? = some f) : bulk (l.take (k + 1)) = bulk (l.take k) + f.name.size + f.value.size + 1 := by
  rw [List.take_add_one, h]
  simp only [Option.toList_some]
  rw [bulk_snoc]
  omega

end Go.Proofs.YtnmjdpmfmbgoeaaRRR
