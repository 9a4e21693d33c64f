/- A region that draws its order, in a round of a loop over an iterator: as outside of one, if it defers nothing. Over whatever program. -/
import Derived.Test.YtjdbgdlkbdpojaaDoorRangeLaw
import Derived.RegionIn
import Derived.OrdersIn
namespace Go.Proofs.YtjdbgdlkbdpojaaDoor
open Go.RowKit
set_option linter.unusedVariables false

def noDefer (o : Oper) : Bool := match o.op with
  | .defer _ => false
  | _ => true
theorem noDefer_ne {o : Oper} (h : noDefer o = true) (c : Call) : o.op ≠ .defer c := fun e => by
  unfold noDefer at h; rw [e] at h; cases h
theorem any_round {l n : Nat} {P : Program} {md : Region.Mode} {ops : Array Oper} {Q : Exit → Act → World → Prop} (hd : ops.toList.all noDefer = true) :
    ∀ (fuel : Nat) (listed : Array Bool) (a : Act) (w : World), wpAnyIn Fence.wide n P md ops Q fuel listed a w → wpAnyIn (Fence.wide.inRound l) n P md ops Q fuel listed a w := by
  intro fuel
  induction fuel with
  | zero => exact fun listed a w h => h
  | succ fuel ih =>
    intro listed a w h
    refine ⟨h.1, fun i hi => ?_⟩
    have h1 := h.2 i hi
    unfold wpOpIn at h1 ⊢
    cases ho : ops[i]? with
    | none =>
      simp only [ho] at h1 ⊢
      exact ih _ _ _ h1
    | some o =>
      simp only [ho] at h1 ⊢
      have hn : noDefer o = true := List.all_eq_true.1 hd o (by simpa using Array.mem_of_getElem? ho)
      split at h1
      · rename_i hw
        rw [if_pos hw]
        obtain ⟨h2, h3⟩ := Oper.wpIn_mono (fun a w => ih _ a w) h1
        refine ⟨h2, ?_⟩
        rw [Oper.semAt_eq _ _ _ (noDefer_ne hn)] at h3 ⊢
        exact h3
      · rename_i hw
        rw [if_neg hw]
        exact ⟨h1.1, ih _ _ _ h1.2⟩

end Go.Proofs.YtjdbgdlkbdpojaaDoor
