/- Lists of fields behind an empty one, just built; an append under a guard. -/
import Derived.Test.YtpmgmbekhnjeoaaDoorFieldSame
namespace Go.Proofs.YtpmgmbekhnjeoaaDoor
open Go.ChangeShapes Go.WideShapes Go.ChangeAt Go.RowKit
open Oc Fl
set_option linter.unusedVariables false
set_option maxRecDepth 100000

/-- An empty list, just built, and lists behind it. -/
theorem ToldF.made (w : World) : ToldF w (w.alloc (.cells #[] 41)) (.slice (some ⟨w.heap.size, 0, none⟩) 0 0) [] :=
  ⟨World.ownsRow_made w #[] 0 (Nat.le_refl _) (by decide) rfl, below_box w _⟩
theorem ToldF.all {w wr : World} {v u : Value} {xs ys : List Fld} (h : ToldF w wr v xs) (hu : FS wr u ys) (ty : TypeId) (hl : xs.length + ys.length ≤ 1000000) :
    ∃ v' w', (Builtin.append_ #[27, 27] ty #[v, u]).run Tryd.prog wr = .ok v' w' ∧ ToldF w w' v' (xs ++ ys) := by
  have hz := h.below.size
  obtain ⟨v', w', r0, r1, r2⟩ := run_append_fs wr ty w.heap.size v u xs ys h.own hu (by omega) hz
  exact ⟨v', w', r0, r1, h.below.grown r2 hz (fun k hk => (h.own.lt k hk).1)⟩
theorem wpList_append_wanted {P : Program} {w : World} {ops : Array Oper} {rest : List Oper} {o : Oper} {a : Act} {Q : Exit → Act → World → Prop}
    (hw : Region.wanted o (yielded ops a.tmps) = true) (s x : Operand) (t : TypeId) (hop : o.op = Op.call { callee := Callee.builtin Builtin.append, args := #[s, x], argTypes := #[t, t] })
    (v u v' : Value) (w' : World) (hs : a.eval s = v) (hx : a.eval x = u) (hrun : (Builtin.append_ #[t, t] o.type #[v, u]).run P w = .ok v' w')
    (hK : wpList P ops Q rest (a.put o.dst v') w') : wpList P ops Q (o :: rest) a w := by
  refine wpList_step fun K hK' => ?_
  rw [if_pos hw]
  unfold Oper.wp
  simp [execOp, hop, resolve, invoke, builtin, hs, hx, hrun, Result.andThen]
  exact hK' _ _ hK

end Go.Proofs.YtpmgmbekhnjeoaaDoor
