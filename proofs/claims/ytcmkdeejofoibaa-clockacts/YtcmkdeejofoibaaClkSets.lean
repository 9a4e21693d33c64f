/- Many timers set, one behind the other; two clocks side by side. -/
import Derived.Test.YtcmkdeejofoibaaClkForms
import Derived.Test.YtcmkdeejofoibaaClkOps
namespace Go.Proofs.Ytcmkdeejofoibaa
open Go.ChangeShapes Go.WideShapes Go.ChangeAt Go.RowKit
open Ck
set_option linter.unusedVariables false
set_option maxRecDepth 100000

namespace Ck
def setsF (x : Cs) (os : List Op15) : Cs := os.foldl (fun x o => setC x o.id o.n) x
theorem setsF_snoc {x : Cs} {os : List Op15} {j : Nat} {o : Op15} (h : os[j]? = some o) : setsF x (os.take (j + 1)) = setC (setsF x (os.take j)) o.id o.n := by
  unfold setsF
  rw [List.take_add_one, h]
  simp
theorem set_now (x : Cs) (id n : Int) : (setC x id n).now = x.now := by
  unfold setC
  split <;> rfl
theorem setsF_fit {x : Cs} (os : List Op15) (h : Fit x) (hl : x.l.length + os.length ≤ 1000) (hf : ∀ o ∈ os, o.fits) : Fit (setsF x os) ∧ (setsF x os).now = x.now ∧ (setsF x os).l.length ≤ x.l.length + os.length := by
  induction os generalizing x with
  | nil => exact ⟨h, rfl, Nat.le_refl _⟩
  | cons o os ih =>
    simp only [List.length_cons] at hl
    have hs := set_len x o.id o.n
    have := ih (x := setC x o.id o.n) (fit_set h _ _ (by omega) (hf o List.mem_cons_self).1) (by omega) fun p hp => hf p (List.mem_cons_of_mem _ hp)
    obtain ⟨q1, q2, q3⟩ := this
    exact ⟨q1, q2.trans (set_now _ _ _), by simp only [List.length_cons]; have : (setsF (setC x o.id o.n) os).l.length = (setsF x (o :: os)).l.length := rfl; omega⟩
end Ck

/-- Two clocks, apart. -/
structure Two15 (C : Nat → Cs → (Nat → Prop) → World → Prop) (w : World) (R : Nat) (x : Cs) (M : Nat → Prop) (R' : Nat) (x' : Cs) (M' : Nat → Prop) (W : World) : Prop where
  one : C R x M W
  two : C R' x' M' W
  dis : ∀ g, M g → ¬ M' g
  low : ∀ g, M g → w.heap.size ≤ g
  low' : ∀ g, M' g → w.heap.size ≤ g
  below : Below w.heap.size w W
section
variable {C : Nat → Cs → (Nat → Prop) → World → Prop}
theorem Two15.swap {w R x M R' x' M' W} (h : Two15 C w R x M R' x' M' W) : Two15 C w R' x' M' R x M W := ⟨h.two, h.one, fun g h1 h2 => h.dis g h2 h1, h.low', h.low, h.below⟩
theorem Two15.to (F : Forms15 C) {w R x M R' x' M' W W'} (h : Two15 C w R x M R' x' M' W) (hb : Below W.heap.size W W') : Two15 C w R x M R' x' M' W' :=
  ⟨F.below h.one hb, F.below h.two hb, h.dis, h.low, h.low', ahead h.below hb⟩
theorem Two15.go (F : Forms15 C) {w R x M R' x' M' W W' y N} (h : Two15 C w R x M R' x' M' W) (hc : C R y N W') (hv : Mv15 M N W W') : Two15 C w R y N R' x' M' W' := by
  obtain ⟨hb, hn⟩ := hv.below h.below h.low
  refine ⟨hc, F.keep h.two fun g hg => hv.block g (F.lt h.two g hg) fun hm => h.dis g hm hg, fun g h1 h2 => ?_, hn, h.low', hb⟩
  rcases hv.sub g h1 with h3 | h3
  · exact h.dis g h3 h2
  · have := F.lt h.two g h2
    omega
end
/-- A copy of a call, in a block of its own. -/
abbrev obOp (o : Op15) : Obj := .cells #[.int .u8 (o.kind.toNat : Int), .int .i64 o.id, .int .i64 o.n] 30
theorem three15 {W : World} {R : Nat} {a b c : Value} {t : TypeId} (h : W.heap[R]? = some (.cells #[a, b, c] t (0, 0))) : W.cell? ⟨R, 0, none⟩ = some a ∧ W.cell? ⟨R, 1, none⟩ = some b ∧ W.cell? ⟨R, 2, none⟩ = some c := by simp [World.cell?, h]

end Go.Proofs.Ytcmkdeejofoibaa
