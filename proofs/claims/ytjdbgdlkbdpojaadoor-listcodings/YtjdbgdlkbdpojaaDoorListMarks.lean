/- Several loops over iterators in one call: their marks, and the way out; a list of texts that such rounds gather. -/
import Derived.Test.YtjdbgdlkbdpojaaDoorListSeq
import Derived.Test.YtjdbgdlkbdpojaaDoorFieldGet
namespace Go.Proofs.YtjdbgdlkbdpojaaDoor
open Go.ChangeShapes Go.WideShapes Go.ChangeAt Go.RowKit
open Go.Shelf
open Oc Fl Ls
set_option linter.unusedVariables false
attribute [local go_sem] Oper.semAt_some

/-- A loop's mark. -/
def mk (D : Nat) : Deferred := { target := .collected D, args := #[] }
/-- The marks' blocks: new ones, none twice, nothing deferred in them. -/
structure Marks (B : Nat) (ds : List Nat) (W : World) : Prop where
  at_ : ∀ D ∈ ds, B ≤ D ∧ W.heap[D]? = some (.deferred (some []))
  once : ds.Nodup
theorem Marks.nil (B : Nat) (W : World) : Marks B [] W := ⟨(fun _ h => by cases h), List.nodup_nil⟩
theorem Marks.keep {B : Nat} {ds : List Nat} {W W' : World} (h : Marks B ds W) (hk : ∀ D : Nat, W.heap[D]? = some (Obj.deferred (some [])) → W'.heap[D]? = W.heap[D]?) : Marks B ds W' :=
  ⟨fun D hD => ⟨(h.at_ D hD).1, (hk D (h.at_ D hD).2).trans (h.at_ D hD).2⟩, h.once⟩
theorem Marks.cons {B D : Nat} {ds : List Nat} {W : World} (h : Marks B ds W) (hB : B ≤ D) (hD : W.heap[D]? = some (.deferred (some []))) (hn : ∀ D' ∈ ds, D' < D) : Marks B (D :: ds) W :=
  ⟨fun D' hD' => by rcases List.mem_cons.1 hD' with rfl | h'
                    · exact ⟨hB, hD⟩
                    · exact h.at_ D' h', List.nodup_cons.2 ⟨fun h' => Nat.lt_irrefl _ (hn D h'), h.once⟩⟩
/-- What the way out leaves: all but marks. -/
structure Off (B : Nat) (W W' : World) : Prop where
  below : Below B W W'
  cells : ∀ (k : Nat) (cs : Array Value) (t : TypeId) (f : Nat × Nat), W.heap[k]? = some (.cells cs t f) → W'.heap[k]? = some (.cells cs t f)
theorem Off.refl (B : Nat) (W : World) : Off B W W := ⟨Below.refl _ _, fun _ _ _ _ h => h⟩
theorem left_marks {P : Program} {fn : Func} {R : Ending → World → Prop} {a : Act} {W : World} {B : Nat} {v : Value} (ds : List Nat) (hB : B ≤ W.heap.size) (hd : a.defers = ds.map mk) (hm : Marks B ds W)
    (hr : ∀ W', (results fn a.tmps).run P W' = .ok v W') (hR : ∀ W', Off B W W' → R (.returned v) W') {e : Exit} (he : e = .ret ∨ e = .normal) : bodyPostM Fence.wide 0 P fn R e a W := by
  have key : ∀ (ds : List Nat) (W : World), B ≤ W.heap.size → Marks B ds W → (∀ W', Off B W W' → R (.returned v) W') → LeavesInM Fence.wide 0 P fn a.tmps R (ds.map mk) .returning W := by
    intro ds
    induction ds with
    | nil => exact fun W _ _ hR => ⟨v, hr W, hR W (Off.refl _ _)⟩
    | cons D ds ih =>
      intro W hz hm hR
      obtain ⟨h1, h2⟩ := hm.at_ D List.mem_cons_self
      obtain ⟨hn, ho⟩ := List.nodup_cons.1 hm.once
      refine ⟨by simp, .inl ⟨D, _, rfl, run_takeDeferred h2, ih _ (by simpa using hz) ⟨fun D' hD' => ⟨(hm.at_ D' (List.mem_cons_of_mem _ hD')).1, ?_⟩, ho⟩ fun W' hW' => hR W' ⟨?_, fun k cs t f hk => hW'.cells k cs t f ?_⟩⟩⟩
      · rw [World.putObj_heap_other (fun e => hn (by rw [← e]; exact hD'))]
        exact (hm.at_ D' (List.mem_cons_of_mem _ hD')).2
      · exact Below.trans (show Below B W (W.putObj D (Obj.deferred none)) from ⟨rfl, rfl, rfl, by simp, fun k hk => World.putObj_heap_other (by omega)⟩) hW'.below
      · rw [World.putObj_heap_other (fun e => by rw [e, h2] at hk; cases hk)]
        exact hk
  rcases he with rfl | rfl <;> (show LeavesInM Fence.wide 0 P fn a.tmps R a.defers .returning W; rw [hd]; exact key ds W hB hm hR)
theorem Off.own {B : Nat} {W W' : World} (h : Off B W W') {b n : Nat} {e : TypeId} {sz : Nat} {v : Value} {xs : List Value} (ho : W.ownsRow b e sz v n xs) : W'.ownsRow b e sz v n xs := by
  refine ⟨ho.1, ?_⟩
  rcases ho.2 with h' | ⟨g, cap, cur, rfl, hb, hh, rest⟩
  · exact .inl h'
  · exact .inr ⟨g, cap, cur, rfl, hb, h.cells _ _ _ _ hh, rest⟩

/-- Where an append's answer lies. -/
theorem append_where {w w' : World} {ty : TypeId} {base : Nat} {v v' u : Value} {xs ys : List ByteArray} (hown : w.ownsRow base 9 1 v xs.length (tv xs)) (hu : TX w u ys) (hb : xs.length + ys.length ≤ 1099511627776)
    (hr : (Builtin.append_ #[22, 22] ty #[v, u]).run Tryd.prog w = .ok v' w') : v'.ownBlock = v.ownBlock ∨ ∀ k, v'.ownBlock = some k → w.heap.size ≤ k := by
  obtain ⟨i0, hi, hz0, hz1, hz2⟩ := info_parts str_info
  rcases hown.2 with ⟨rfl, hn⟩ | ⟨g, cap, cur, rfl, hbg, hg, hnc, hcm, hcs, htake⟩
  · right
    obtain ⟨v2, w2, r0, r1, -⟩ := run_append_tx w ty w.heap.size (.slice none 0 0) u [] ys (World.ownsRow_nil _ _ _ _) hu (by simp; omega) (Nat.le_refl _)
    rw [r0] at hr
    cases hr
    exact fun k hk => (r1.lt k hk).1
  · obtain ⟨hl, p, c, rfl, q1, q2, q3, q4⟩ := hu
    cases p with
    | none =>
      left
      have hc := q3 rfl
      have hm : ys.length = 0 := by omega
      subst hc
      rw [hm, run_append_owned_none w base 22 ty 9 i0 1 Tryd.underlying22 hi _ _ _ hown] at hr
      cases hr; rfl
    | some ad =>
      by_cases hroom : xs.length + ys.length ≤ cap
      · left
        have hfit : xs.length * i0.size + (tv ys).length ≤ cur.size := by rw [tv_len, hz1, hcs]; omega
        have := run_append_room (P := Tryd.prog) w 22 ty 9 i0 Tryd.underlying22 hi g xs.length cap cur hg ad ys.length c (tv ys) (by rw [hz1]; exact tv_len ys) (fun j u hj => q4 ad rfl j u hj) (tv_one ys) hroom hfit
        rw [this] at hr
        cases hr; rfl
      · right
        have holds := hown.cells (g := g) rfl
        have := run_append_grow (P := Tryd.prog) w 22 ty 9 i0 _ Tryd.underlying22 hi hz0 ⟨g, 0, none⟩ xs.length cap (tv xs) (by rw [hz1]; exact tv_len xs) holds ad ys.length c (tv ys) (by rw [hz1]; exact tv_len ys) (fun j u hj => q4 ad rfl j u hj) (by omega) (by omega) (growslice_fits (by omega) (by rw [hz2]; omega))
        rw [this] at hr
        cases hr
        exact fun k hk => by cases hk; exact Nat.le_refl _

end Go.Proofs.YtjdbgdlkbdpojaaDoor
