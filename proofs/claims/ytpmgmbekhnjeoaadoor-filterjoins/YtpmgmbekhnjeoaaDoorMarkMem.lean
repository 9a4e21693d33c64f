/- Marks of several loops over iterators in one call, and the way out: of no program. -/
import Derived.Test.YtpmgmbekhnjeoaaDoorCellMem
import Derived.Deep.RegionLaw
import Derived.Shelf.RegionOpen
import Derived.Shelf.Abstract
import Derived.TacticsInMore
import Derived.LoopNIn
import Derived.LoopIn
import Derived.OwnWalkIn
import Derived.Sort.QuietIn
import Derived.Shelf.AbstractIn
namespace Go.Proofs.YtpmgmbekhnjeoaaDoor
open Go.RowKit
open Go.Shelf
set_option linter.unusedVariables false
set_option maxRecDepth 100000
attribute [local go_sem] Oper.semAt_some

/-- A loop's mark. -/
def mk (D : Nat) : Deferred := { target := .collected D, args := #[] }
/-- The marks' blocks: new ones, none twice, nothing deferred in them. -/
structure Marks (B : Nat) (ds : List Nat) (W : World) : Prop where
  at_ : ∀ D ∈ ds, B ≤ D ∧ W.heap[D]? = some (.deferred (some []))
  once : ds.Nodup
theorem Marks.nil (B : Nat) (W : World) : Marks B [] W := ⟨(fun _ h => by cases h), List.nodup_nil⟩
theorem Marks.keep {B : Nat} {ds : List Nat} {W W' : World} (h : Marks B ds W) (hk : ∀ D : Nat, W.heap[D]? = some (Obj.deferred (some [])) → W'.heap[D]? = W.heap[D]?) : Marks B ds W' :=
  ⟨fun D hD => ⟨(h.at_ D hD).1, (hk D (h.at_ D hD).2).trans (h.at_ D hD).2⟩, h.once⟩
theorem Marks.cons {B D : Nat} {ds : List Nat} {W : World} (h : Marks B ds W) (hB : B ≤ D) (hD : W.heap[D]? = some (.deferred (some []))) (hn : ∀ D' ∈ ds, D' < D) : Marks B (D :: ds) W :=
  ⟨fun D' hD' => by rcases List.mem_cons.1 hD' with rfl | h'
                    · exact ⟨hB, hD⟩
                    · exact h.at_ D' h', List.nodup_cons.2 ⟨fun h' => Nat.lt_irrefl _ (hn D h'), h.once⟩⟩
/-- What the way out leaves: all but marks. -/
structure Off (B : Nat) (W W' : World) : Prop where
  below : Below B W W'
  cells : ∀ (k : Nat) (cs : Array Value) (t : TypeId) (f : Nat × Nat), W.heap[k]? = some (.cells cs t f) → W'.heap[k]? = some (.cells cs t f)
theorem Off.refl (B : Nat) (W : World) : Off B W W := ⟨Below.refl _ _, fun _ _ _ _ h => h⟩
theorem left_marks {P : Program} {fn : Func} {R : Ending → World → Prop} {a : Act} {W : World} {B : Nat} {v : Value} (ds : List Nat) (hB : B ≤ W.heap.size) (hd : a.defers = ds.map mk) (hm : Marks B ds W)
    (hr : ∀ W', (results fn a.tmps).run P W' = .ok v W') (hR : ∀ W', Off B W W' → R (.returned v) W') {e : Exit} (he : e = .ret ∨ e = .normal) : bodyPostM Fence.wide 0 P fn R e a W := by
  have key : ∀ (ds : List Nat) (W : World), B ≤ W.heap.size → Marks B ds W → (∀ W', Off B W W' → R (.returned v) W') → LeavesInM Fence.wide 0 P fn a.tmps R (ds.map mk) .returning W := by
    intro ds
    induction ds with
    | nil => exact fun W _ _ hR => ⟨v, hr W, hR W (Off.refl _ _)⟩
    | cons D ds ih =>
      intro W hz hm hR
      obtain ⟨h1, h2⟩ := hm.at_ D List.mem_cons_self
      obtain ⟨hn, ho⟩ := List.nodup_cons.1 hm.once
      refine ⟨by simp, .inl ⟨D, _, rfl, run_takeDeferred h2, ih _ (by simpa using hz) ⟨fun D' hD' => ⟨(hm.at_ D' (List.mem_cons_of_mem _ hD')).1, ?_⟩, ho⟩ fun W' hW' => hR W' ⟨?_, fun k cs t f hk => hW'.cells k cs t f ?_⟩⟩⟩
      · rw [World.putObj_heap_other (fun e => hn (by rw [← e]; exact hD'))]
        exact (hm.at_ D' (List.mem_cons_of_mem _ hD')).2
      · exact Below.trans (show Below B W (W.putObj D (Obj.deferred none)) from ⟨rfl, rfl, rfl, by simp, fun k hk => World.putObj_heap_other (by omega)⟩) hW'.below
      · rw [World.putObj_heap_other (fun e => by rw [e, h2] at hk; cases hk)]
        exact hk
  rcases he with rfl | rfl <;> (show LeavesInM Fence.wide 0 P fn a.tmps R a.defers .returning W; rw [hd]; exact key ds W hB hm hR)
/-- The same, where the results are read off cells that stand. -/
theorem left_marks_at {P : Program} {fn : Func} {R : Ending → World → Prop} {a : Act} {W : World} {B : Nat} {v : Value} (ds : List Nat) (hB : B ≤ W.heap.size) (hd : a.defers = ds.map mk) (hm : Marks B ds W)
    (hR : ∀ W', Off B W W' → (results fn a.tmps).run P W' = .ok v W' ∧ R (.returned v) W') {e : Exit} (he : e = .ret ∨ e = .normal) : bodyPostM Fence.wide 0 P fn R e a W := by
  have key : ∀ (ds : List Nat) (W : World), B ≤ W.heap.size → Marks B ds W → (∀ W', Off B W W' → (results fn a.tmps).run P W' = .ok v W' ∧ R (.returned v) W') → LeavesInM Fence.wide 0 P fn a.tmps R (ds.map mk) .returning W := by
    intro ds
    induction ds with
    | nil => exact fun W _ _ hR => ⟨v, (hR W (Off.refl _ _)).1, (hR W (Off.refl _ _)).2⟩
    | cons D ds ih =>
      intro W hz hm hR
      obtain ⟨h1, h2⟩ := hm.at_ D List.mem_cons_self
      obtain ⟨hn, ho⟩ := List.nodup_cons.1 hm.once
      refine ⟨by simp, .inl ⟨D, _, rfl, run_takeDeferred h2, ih _ (by simpa using hz) ⟨fun D' hD' => ⟨(hm.at_ D' (List.mem_cons_of_mem _ hD')).1, ?_⟩, ho⟩ fun W' hW' => hR W' ⟨?_, fun k cs t f hk => hW'.cells k cs t f ?_⟩⟩⟩
      · rw [World.putObj_heap_other (fun e => hn (by rw [← e]; exact hD'))]
        exact (hm.at_ D' (List.mem_cons_of_mem _ hD')).2
      · exact Below.trans (show Below B W (W.putObj D (Obj.deferred none)) from ⟨rfl, rfl, rfl, by simp, fun k hk => World.putObj_heap_other (by omega)⟩) hW'.below
      · rw [World.putObj_heap_other (fun e => by rw [e, h2] at hk; cases hk)]
        exact hk
  rcases he with rfl | rfl <;> (show LeavesInM Fence.wide 0 P fn a.tmps R a.defers .returning W; rw [hd]; exact key ds W hB hm hR)
theorem Off.own {B : Nat} {W W' : World} (h : Off B W W') {b n : Nat} {e : TypeId} {sz : Nat} {v : Value} {xs : List Value} (ho : W.ownsRow b e sz v n xs) : W'.ownsRow b e sz v n xs := by
  refine ⟨ho.1, ?_⟩
  rcases ho.2 with h' | ⟨g, cap, cur, rfl, hb, hh, rest⟩
  · exact .inl h'
  · exact .inr ⟨g, cap, cur, rfl, hb, h.cells _ _ _ _ hh, rest⟩

end Go.Proofs.YtpmgmbekhnjeoaaDoor
