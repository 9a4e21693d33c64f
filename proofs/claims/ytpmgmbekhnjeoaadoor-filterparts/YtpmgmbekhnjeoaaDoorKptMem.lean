/- Cells that loops over iterators keep. -/
import Derived.Test.YtpmgmbekhnjeoaaDoorMarkMem
import Derived.Test.YtpmgmbekhnjeoaaDoorFieldSame
import Derived.Stop.RegionWithIn
namespace Go.Proofs.YtpmgmbekhnjeoaaDoor
open Go.ChangeShapes Go.WideShapes Go.ChangeAt Go.RowKit
open Go.Shelf
set_option linter.unusedVariables false
set_option maxRecDepth 100000
attribute [local go_sem] Oper.semAt_some

/-- Blocks of a call's own, behind the loops ds. -/
structure Kpt (w : World) (L : List (Nat × Obj)) (ds : List Nat) (W : World) : Prop where
  below : Below w.heap.size w W
  marks : Marks w.heap.size ds W
  at_ : ∀ p ∈ L, w.heap.size ≤ p.1 ∧ W.heap[p.1]? = some p.2
theorem Kpt.lt {w W : World} {L : List (Nat × Obj)} {ds : List Nat} (h : Kpt w L ds W) : (∀ p ∈ L, p.1 < W.heap.size) ∧ ∀ D ∈ ds, D < W.heap.size :=
  ⟨fun p hp => (Array.getElem?_eq_some_iff.1 (h.at_ p hp).2).1, fun D hD => (Array.getElem?_eq_some_iff.1 (h.marks.at_ D hD).2).1⟩
theorem Kpt.keep {w W W' : World} {L : List (Nat × Obj)} {ds : List Nat} (h : Kpt w L ds W) (hb : Below w.heap.size w W') (hk : ∀ r, (∃ p ∈ L, p.1 = r) ∨ r ∈ ds → W'.heap[r]? = W.heap[r]?) : Kpt w L ds W' :=
  ⟨hb, ⟨fun D hD => ⟨(h.marks.at_ D hD).1, (hk D (.inr hD)).trans (h.marks.at_ D hD).2⟩, h.marks.once⟩, fun p hp => ⟨(h.at_ p hp).1, (hk p.1 (.inl ⟨p, hp, rfl⟩)).trans (h.at_ p hp).2⟩⟩
theorem Kpt.next {w W W' : World} {L : List (Nat × Obj)} {ds : List Nat} (h : Kpt w L ds W) (hb : Below W.heap.size W W') : Kpt w L ds W' :=
  h.keep (ahead h.below hb) fun r hr => hb.block r (by
    obtain ⟨h1, h2⟩ := h.lt
    rcases hr with ⟨p, hp, rfl⟩ | hr
    · exact h1 p hp
    · exact h2 r hr)
theorem Kpt.but {w A B : World} {L : List (Nat × Obj)} {ds : List Nat} {D : Nat} (h : Kpt w L ds A) (hB : But D A B) (hw : w.heap.size ≤ D) (hL : ∀ p ∈ L, p.1 < D) (hd : ∀ x ∈ ds, x < D) : Kpt w L ds B :=
  h.keep (hB.below h.below hw h.below.size) fun r hr => by
    obtain ⟨h1, h2⟩ := h.lt
    rcases hr with ⟨p, hp, rfl⟩ | hr
    · have := hL p hp; exact hB.block _ (h1 p hp) (by omega) (by omega)
    · have := hd r hr; exact hB.block r (h2 r hr) (by omega) (by omega)
/-- One of the blocks, of one cell, is written. -/
theorem Kpt.put {w W : World} {L L' : List (Nat × Obj)} {ds : List Nat} (h : Kpt w L ds W) {r : Nat} {u : Value} {t : TypeId} (v : Value) (hm : (r, .cells #[u] t (0, 0)) ∈ L) (hL : ∀ p ∈ L', p = (r, .cells #[v] t (0, 0)) ∨ p.1 ≠ r ∧ p ∈ L) : Kpt w L' ds (W.setCell ⟨r, 0, none⟩ v) := by
  obtain ⟨hr0, hr⟩ := h.at_ _ hm
  refine ⟨h.below.setCell hr0 _, ⟨fun D hD => ⟨(h.marks.at_ D hD).1, (Below.heap_setCell _ _ _ _ (fun e => ?_)).trans (h.marks.at_ D hD).2⟩, h.marks.once⟩, fun p hp => ?_⟩
  · have := (h.marks.at_ D hD).2
    rw [e] at this
    rw [this] at hr; cases hr
  · rcases hL p hp with rfl | ⟨hne, hp'⟩
    · exact ⟨hr0, heap_set v hr⟩
    · exact ⟨(h.at_ p hp').1, (Below.heap_setCell _ _ _ _ hne).trans (h.at_ p hp').2⟩
theorem Kpt.mark {w W : World} {L : List (Nat × Obj)} {ds : List Nat} {D : Nat} (h : Kpt w L ds W) (hw : w.heap.size ≤ D) (hD : W.heap[D]? = some (.deferred (some []))) (hd : ∀ x ∈ ds, x < D) : Kpt w L (D :: ds) W :=
  ⟨h.below, h.marks.cons hw hD hd, h.at_⟩
theorem Kpt.less {w W : World} {L L' : List (Nat × Obj)} {ds : List Nat} (h : Kpt w L ds W) (hL : ∀ p ∈ L', p ∈ L) : Kpt w L' ds W := ⟨h.below, h.marks, fun p hp => h.at_ p (hL p hp)⟩

theorem undrew {W W' : World} (h : Below W.drew.heap.size W.drew W') : Below W.heap.size W W' := ⟨h.os, h.tape, h.output, h.size, h.block⟩
def B1 (v : Value) (t : TypeId) : Obj := .cells #[v] t (0, 0)

end Go.Proofs.YtpmgmbekhnjeoaaDoor
