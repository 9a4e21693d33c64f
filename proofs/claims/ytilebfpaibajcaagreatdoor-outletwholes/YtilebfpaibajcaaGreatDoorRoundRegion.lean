/- A region that draws its order, in a round of a loop over an iterator: as outside of one, if it defers nothing. Over whatever program. -/
import Derived.Test.YtilebfpaibajcaaGreatDoorMC
import Derived.RegionIn
import Derived.OrdersIn
import Derived.Sort.QuietIn
namespace Go.Proofs.YtilebfpaibajcaaGreatDoor
open Go.RowKit
set_option linter.unusedVariables false
set_option maxRecDepth 100000

def noDefer (o : Oper) : Bool := match o.op with
  | .defer _ => false
  | _ => true
theorem noDefer_ne {o : Oper} (h : noDefer o = true) (c : Call) : o.op ≠ .defer c := fun e => by
  unfold noDefer at h; rw [e] at h; cases h
theorem any_round {l n : Nat} {P : Program} {md : Region.Mode} {ops : Array Oper} {Q : Exit → Act → World → Prop} (hd : ops.toList.all noDefer = true) :
    ∀ (fuel : Nat) (listed : Array Bool) (a : Act) (w : World), wpAnyIn Fence.wide n P md ops Q fuel listed a w → wpAnyIn (Fence.wide.inRound l) n P md ops Q fuel listed a w := by
  intro fuel
  induction fuel with
  | zero => exact fun listed a w h => h
  | succ fuel ih =>
    intro listed a w h
    refine ⟨h.1, fun i hi => ?_⟩
    have h1 := h.2 i hi
    unfold wpOpIn at h1 ⊢
    cases ho : ops[i]? with
    | none =>
      simp only [ho] at h1 ⊢
      exact ih _ _ _ h1
    | some o =>
      simp only [ho] at h1 ⊢
      have hn : noDefer o = true := List.all_eq_true.1 hd o (by simpa using Array.mem_of_getElem? ho)
      split at h1
      · rename_i hw
        rw [if_pos hw]
        obtain ⟨h2, h3⟩ := Oper.wpIn_mono (fun a w => ih _ a w) h1
        refine ⟨h2, ?_⟩
        rw [Oper.semAt_eq _ _ _ (noDefer_ne hn)] at h3 ⊢
        exact h3
      · rename_i hw
        rw [if_neg hw]
        exact ⟨h1.1, ih _ _ _ h1.2⟩

/-- One that only reads, in a round: one walk in the text's order. -/
theorem quiet_round {r n id : Nat} {P : Program} {Q : Exit → Act → World → Prop} {a : Act} {w : World} {l : List Oper} (hm : P.follows .mixedOrders = true) (hB : Region.lexB .any l.toArray = true) (hd : l.all noDefer = true)
    (h : wpQuietIn Fence.wide n P l.toArray (fun w' => ∃ n, w' = w.drewN n) (fun a' => ∀ w', (∃ n, w' = w.drewN n) → Q .normal a' w') l a) : (Code.region id l.toArray true).wpIn (Fence.wide.inRound r) n P Q a w := by
  simp only [Region.lexB, Bool.and_eq_true] at hB
  refine wpIn_region_any hm (any_round (by simpa using hd) _ _ _ _ ?_)
  refine wpAnyIn_of_quiet (C := fun w' => ∃ n, w' = w.drewN n) (Q := fun a' => ∀ w', (∃ n, w' = w.drewN n) → Q .normal a' w') rfl (fun _ w' hw' h => h w' hw') _ _ _ _ ⟨1, rfl⟩ ?_
  have := wpAnyQIn_lex (F := Fence.wide) (n := n) (C := fun w' => ∃ n, w' = w.drewN n) (md := .any) hB.1 l 0 (Array.replicate l.toArray.size false) a (by simp) (by simpa using hB.2) h
  simpa using this

end Go.Proofs.YtilebfpaibajcaaGreatDoor
