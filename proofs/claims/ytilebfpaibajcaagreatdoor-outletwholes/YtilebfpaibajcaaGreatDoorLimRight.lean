/- What body.Right and the document's Right answer. -/
import Derived.Test.YtilebfpaibajcaaGreatDoorFieldGo
namespace Go.Proofs.YtilebfpaibajcaaGreatDoor
open Go.ChangeShapes Go.WideShapes Go.ChangeAt Go.RowKit
set_option linter.unusedVariables false
set_option maxRecDepth 100000

def okL (a : Int) : Bool := decide (0 ≤ a ∧ a ≤ 65536)
def okLs (a b c : Int) : Bool := okL a && (okL b && okL c)
abbrev lim3 (a b c : Int) : Value := .agg #[.int .i64 a, .int .i64 b, .int .i64 c]
theorem idx3 (a b c : Int) (W : World) : (Instr.index 124 (.agg #[.int .i64 a, .int .i64 b, .int .i64 c]) (.int .i64 0)).run Tryz.prog W = .ok (.int .i64 a) W ∧
    (Instr.index 124 (.agg #[.int .i64 a, .int .i64 b, .int .i64 c]) (.int .i64 1)).run Tryz.prog W = .ok (.int .i64 b) W ∧
    (Instr.index 124 (.agg #[.int .i64 a, .int .i64 b, .int .i64 c]) (.int .i64 2)).run Tryz.prog W = .ok (.int .i64 c) W := ⟨by kernel_rfl, by kernel_rfl, by kernel_rfl⟩
set_option maxHeartbeats 2000000 in
theorem right8_any (a b c : Int) (w : World) :
    Calls Tryz.prog 47 #[lim3 a b c] w fun e w' => e = .returned (.bool (okLs a b c)) ∧ Below w.heap.size w w' := by
  have i0 := fun W => (idx3 a b c W).1
  have i1 := fun W => (idx3 a b c W).2.1
  have i2 := fun W => (idx3 a b c W).2.2
  have hb := Lib.hid (below_box w (.cells #[.int .i64 a, .int .i64 b, .int .i64 c] 80))
  unfold lim3
  go_enter Tryz.func47, Tryz.ntmps47
  go_wp2_with fail
  go_rounds 4
  all_goals
    go_ret
    exact ⟨ret_bool (by unfold okLs okL; rw [Bool.eq_iff_iff]; simp; omega), hb.out⟩
abbrev obLim (a b c : Int) : Obj := .cells #[.int .i64 a, .int .i64 b, .int .i64 c] 80
theorem three_cells8 {A : World} {R : Nat} {x y z : Value} {t : TypeId} (h : A.heap[R]? = some (.cells #[x, y, z] t (0, 0))) :
    (A.cell? ⟨R, 0, none⟩ = some x ∧ A.cell? ⟨R, 1, none⟩ = some y ∧ A.cell? ⟨R, 2, none⟩ = some z) ∧ A.frozen? ⟨R, 0, none⟩ = false ∧ A.frozen? ⟨R, 1, none⟩ = false ∧ A.frozen? ⟨R, 2, none⟩ = false := by
  simp [World.cell?, World.frozen?, h]

end Go.Proofs.YtilebfpaibajcaaGreatDoor
