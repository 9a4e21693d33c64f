/- Two timers that are alike are not unlike. -/
import Derived.Test.YtcmkdeejofoibaaClkRows
import Derived.Laws.StructEq
namespace Go.Proofs.Ytcmkdeejofoibaa
open Go.ChangeShapes Go.WideShapes Go.ChangeAt Go.RowKit
set_option linter.unusedVariables false
set_option maxRecDepth 100000

theorem neq_tm (a b : Int) (w : World) : (binOp .neq 49 (.agg #[.int .i64 a, .int .i64 b]) (.agg #[.int .i64 a, .int .i64 b])).run Try.prog w = .ok (.bool false) w := by
  rw [run_neq_struct, run_equalIn_agg w 9999 _ _ _ (by kernel_rfl) (by kernel_rfl)]
  have hu := Try.underlying49
  have i0 := run_equalIn_int (P := Try.prog) w 9998 3 .i64 .i64 a a Try.underlying3
  have i1 := run_equalIn_int (P := Try.prog) w 9998 2 .i64 .i64 b b Try.underlying2
  simp only [Nat.reduceAdd] at i0 i1
  simp [Program.fieldsOf, hu, Op.eqFields, part, i0, i1]

end Go.Proofs.Ytcmkdeejofoibaa
