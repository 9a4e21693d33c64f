/- What field.Right, Put, Parse, and the document's, answer. -/
import Derived.Test.YtpmgmbekhnjeoaaDoorFieldMath
import Derived.Test.YtpmgmbekhnjeoaaDoorOctetTrim
namespace Go.Proofs.YtpmgmbekhnjeoaaDoor
open Go.ChangeShapes Go.WideShapes Go.ChangeAt Go.RowKit
open Oc Fl
set_option linter.unusedVariables false
set_option maxRecDepth 100000

/-- A field as a value. -/
abbrev fld (f : Fld) : Value := .agg #[.string f.name, .string f.value]

theorem one_colon {s : ByteArray} (h : ([58] == s.toList) = true) : colI s = 0 := by
  have h1 : s.data.toList = [58] := by rw [ByteArray.toList_eq] at h; exact (beq_iff_eq.1 h).symm
  have h2 : s = ⟨#[58]⟩ := b_ext h1
  subst h2
  decide

theorem below_box (w : World) (o : _) : Below w.heap.size w (w.alloc o) := Below.alloc (Below.refl _ _) (Nat.le_refl _) o
theorem ahead {w w1 w2 : World} (h1 : Below w.heap.size w w1) (h2 : Below w1.heap.size w1 w2) : Below w.heap.size w w2 := h1.trans (h2.mono h1.size)
theorem box_cells (w : World) (x y : Value) (t : TypeId) : (w.alloc (.cells #[x, y] t)).heap[w.heap.size]? = some (.cells #[x, y] t (0, 0)) := heap_alloc_new w _
theorem two_cells {A : World} {R : Nat} {x y : Value} {t : TypeId} (h : A.heap[R]? = some (.cells #[x, y] t (0, 0))) :
    A.cell? ⟨R, 0, none⟩ = some x ∧ A.cell? ⟨R, 1, none⟩ = some y ∧ ∀ i, A.frozen? ⟨R, i, none⟩ = false := by
  simp [World.cell?, World.frozen?, h]
theorem two_below {A B : World} {R : Nat} {x y : Value} {t : TypeId} (h : A.heap[R]? = some (.cells #[x, y] t (0, 0))) (hb : Below A.heap.size A B) : B.heap[R]? = some (.cells #[x, y] t (0, 0)) := by
  have hl : R < A.heap.size := (Array.getElem?_eq_some_iff.1 h).1
  rw [hb.block R hl, h]

theorem results_two {P : Program} {fn : Func} {p u : Tmp} {ty : TypeId} (h : fn.results = #[.cell p ty, .tmp u]) (tmps : Array Value) (w : World) (g : Nat) (t : TypeId) (cs : Array Value) (fr : Nat × Nat) (d : TypeDesc)
    (hp : tmps.getD p undef = .pointer (some ⟨g, 0, none⟩)) (hg : w.heap[g]? = some (.cells cs t fr))
    (hu : P.underlying ty = some d) (hd : (match d with | .struct _ | .array _ _ => true | _ => false) = true) (hi : (P.info? ty).map (·.size) = some cs.size) :
    (results fn tmps).run P w = .ok (.tuple #[.agg cs, tmps.getD u undef]) w := by
  rw [results_cell_tmp h]
  simp [hp, asAddr, run_loadVar_row w g t ty cs fr d hg hu hd hi, Result.andThen]

/-- A block of two cells that lies in a world, above what lay before. -/
def TwoAt (w W : World) (x y : Value) : Prop := W.heap[w.heap.size]? = some (.cells #[x, y] 41 (0, 0)) ∧ Below w.heap.size w W
theorem TwoAt.drew (w : World) (x y : Value) (n : Nat) : TwoAt w ((w.alloc (.cells #[x, y] 41)).drewN n) x y := by
  refine ⟨?_, ?_⟩
  · exact box_cells w x y _
  · have h := below_box w (.cells #[x, y] 41)
    exact ⟨h.os, h.tape, h.output, h.size, h.block⟩
theorem TwoAt.below {w W W' : World} {x y : Value} (h : TwoAt w W x y) (hb : Below W.heap.size W W') : TwoAt w W' x y := ⟨two_below h.1 hb, ahead h.2 hb⟩
theorem TwoAt.set {w W : World} {x y : Value} (h : TwoAt w W x y) (u v : Value) : TwoAt w ((W.setCell ⟨w.heap.size, 0, none⟩ u).setCell ⟨w.heap.size, 1, none⟩ v) u v := by
  refine ⟨?_, (h.2.setCell (Nat.le_refl _) _).setCell (Nat.le_refl _) _⟩
  have := h.1
  simp [World.setCell, Array.getElem?_modify, this]

def noFld : Fld := ⟨⟨#[]⟩, ⟨#[]⟩⟩

end Go.Proofs.YtpmgmbekhnjeoaaDoor
