/- What field.Right, Put, Parse, and the document's, answer. -/
import Derived.Test.YtnmjdpmfmbgoeaaRRRFieldMath
import Derived.Test.YtnmjdpmfmbgoeaaRRROctetTrim
import Derived.Test.YtnmjdpmfmbgoeaaRRRRowMem
namespace Go.Proofs.YtnmjdpmfmbgoeaaRRR
open Go.ChangeShapes Go.WideShapes Go.ChangeAt Go.RowKit
open Oc Fl
set_option linter.unusedVariables false
set_option maxRecDepth 100000

/-- A field as a value. -/
abbrev fld (f : Fld) : Value := .agg #[.string f.name, .string f.value]

theorem one_colon {s : ByteArray} (h : ([58] == s.toList) = true) : colI s = 0 := by
  have h1 : s.data.toList = [58] := by rw [ByteArray.toList_eq] at h; exact (beq_iff_eq.1 h).symm
  have h2 : s = ⟨#[58]⟩ := b_ext h1
  subst h2
  decide

theorem results_two {P : Program} {fn : Func} {p u : Tmp} {ty : TypeId} (h : fn.results = #[.cell p ty, .tmp u]) (tmps : Array Value) (w : World) (g : Nat) (t : TypeId) (cs : Array Value) (fr : Nat × Nat) (d : TypeDesc)
    (hp : tmps.getD p undef = .pointer (some ⟨g, 0, none⟩)) (hg : w.heap[g]? = some (.cells cs t fr))
    (hu : P.underlying ty = some d) (hd : (match d with | .struct _ | .array _ _ => true | _ => false) = true) (hi : (P.info? ty).map (·.size) = some cs.size) :
    (results fn tmps).run P w = .ok (.tuple #[.agg cs, tmps.getD u undef]) w := by
  rw [results_cell_tmp h]
  simp [hp, asAddr, run_loadVar_row w g t ty cs fr d hg hu hd hi, Result.andThen]

def noFld : Fld := ⟨⟨#[]⟩, ⟨#[]⟩⟩

end Go.Proofs.YtnmjdpmfmbgoeaaRRR
