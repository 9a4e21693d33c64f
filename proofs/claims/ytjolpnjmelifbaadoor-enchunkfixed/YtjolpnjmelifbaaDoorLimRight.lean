/- What body.Right and the document's Right answer. -/
import Derived.Test.YtjolpnjmelifbaaDoorFieldGo
namespace Go.Proofs.YtjolpnjmelifbaaDoor
open Go.ChangeShapes Go.WideShapes Go.ChangeAt Go.RowKit
set_option linter.unusedVariables false
set_option maxRecDepth 100000

def okL (a : Int) : Bool := decide (0 ≤ a ∧ a ≤ 65536)
def okLs (a b c : Int) : Bool := okL a && (okL b && okL c)
abbrev lim3 (a b c : Int) : Value := .agg #[.int .i64 a, .int .i64 b, .int .i64 c]
theorem three_cells8 {A : World} {R : Nat} {x y z : Value} {t : TypeId} (h : A.heap[R]? = some (.cells #[x, y, z] t (0, 0))) :
    (A.cell? ⟨R, 0, none⟩ = some x ∧ A.cell? ⟨R, 1, none⟩ = some y ∧ A.cell? ⟨R, 2, none⟩ = some z) ∧ A.frozen? ⟨R, 0, none⟩ = false ∧ A.frozen? ⟨R, 1, none⟩ = false ∧ A.frozen? ⟨R, 2, none⟩ = false := by
  simp [World.cell?, World.frozen?, h]

end Go.Proofs.YtjolpnjmelifbaaDoor
