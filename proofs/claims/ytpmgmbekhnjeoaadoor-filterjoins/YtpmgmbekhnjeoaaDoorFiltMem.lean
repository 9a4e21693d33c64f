/- Fields that are parted into two lists, one in a cell, while loops over an iterator go on. -/
import Derived.Test.YtpmgmbekhnjeoaaDoorFiltForb
import Derived.Test.YtpmgmbekhnjeoaaDoorFieldGet
namespace Go.Proofs.YtpmgmbekhnjeoaaDoor
open Go.ChangeShapes Go.WideShapes Go.ChangeAt Go.RowKit
open Go.Shelf
open Oc Fl Ft
set_option linter.unusedVariables false
set_option maxRecDepth 100000
attribute [local go_sem] Oper.semAt_some

/-- Where an append's answer lies. -/
theorem append_where_fs {w w' : World} {ty : TypeId} {base : Nat} {v v' u : Value} {xs ys : List Fld} (hown : w.ownsRow base 41 2 v xs.length (fv xs)) (hu : FS w u ys) (hb : xs.length + ys.length ≤ 1099511627776)
    (hr : (Builtin.append_ #[27, 27] ty #[v, u]).run Tryd.prog w = .ok v' w') : v'.ownBlock = v.ownBlock ∨ ∀ k, v'.ownBlock = some k → w.heap.size ≤ k := by
  obtain ⟨i0, hi, hz0, hz1, hz2⟩ := info_parts fld_info
  rcases hown.2 with ⟨rfl, hn⟩ | ⟨g, cap, cur, rfl, hbg, hg, hnc, hcm, hcs, htake⟩
  · right
    obtain ⟨v2, w2, r0, r1, -⟩ := run_append_fs w ty w.heap.size (.slice none 0 0) u [] ys (World.ownsRow_nil _ _ _ _) hu (by simp; omega) (Nat.le_refl _)
    rw [r0] at hr
    cases hr
    exact fun k hk => (r1.lt k hk).1
  · obtain ⟨hl, p, c, rfl, q1, q2, q3, q4⟩ := hu
    cases p with
    | none =>
      left
      have hc := q3 rfl
      have hm : ys.length = 0 := by omega
      subst hc
      rw [hm, run_append_owned_none w base 27 ty 41 i0 2 Tryd.underlying27 hi _ _ _ hown] at hr
      cases hr; rfl
    | some ad =>
      by_cases hroom : xs.length + ys.length ≤ cap
      · left
        have hfit : xs.length * i0.size + (fv ys).length ≤ cur.size := by rw [fv_len, hz1, hcs]; omega
        have := run_append_room (P := Tryd.prog) w 27 ty 41 i0 Tryd.underlying27 hi g xs.length cap cur hg ad ys.length c (fv ys) (by rw [hz1]; exact fv_len ys) (fun j u hj => q4 ad rfl j u hj) (fv_one ys) hroom hfit
        rw [this] at hr
        cases hr; rfl
      · right
        have holds := hown.cells (g := g) rfl
        have := run_append_grow (P := Tryd.prog) w 27 ty 41 i0 _ Tryd.underlying27 hi hz0 ⟨g, 0, none⟩ xs.length cap (fv xs) (by rw [hz1]; exact fv_len xs) holds ad ys.length c (fv ys) (by rw [hz1]; exact fv_len ys) (fun j u hj => q4 ad rfl j u hj) (by omega) (by omega) (growslice_fits (by omega) (by rw [hz2]; omega))
        rw [this] at hr
        cases hr
        exact fun k hk => by cases hk; exact Nat.le_refl _

/-- Two lists of a call's own, the second one's slice in the call's first cell; loops' marks. -/
structure Parted (w W : World) (ds : List Nat) (v u : Value) (xs ys : List Fld) : Prop where
  below : Below w.heap.size w W
  marks : Marks w.heap.size ds W
  cell : W.heap[w.heap.size]? = some (.cells #[u] 27 (0, 0))
  kept : W.ownsRow (w.heap.size + 1) 41 2 v xs.length (fv xs)
  gone : W.ownsRow (w.heap.size + 1) 41 2 u ys.length (fv ys)
  apart : ∀ k, v.ownBlock = some k → u.ownBlock ≠ some k
/-- The blocks that it speaks of. -/
def Parted.Of (w : World) (ds : List Nat) (v u : Value) (r : Nat) : Prop := r = w.heap.size ∨ r ∈ ds ∨ v.ownBlock = some r ∨ u.ownBlock = some r
theorem Parted.lt {w W : World} {ds : List Nat} {v u : Value} {xs ys : List Fld} (h : Parted w W ds v u xs ys) {r : Nat} (hr : Parted.Of w ds v u r) : r < W.heap.size := by
  rcases hr with rfl | hr | hr | hr
  · exact (Array.getElem?_eq_some_iff.1 h.cell).1
  · exact (Array.getElem?_eq_some_iff.1 (h.marks.at_ r hr).2).1
  · exact (h.kept.lt r hr).2
  · exact (h.gone.lt r hr).2
theorem Parted.keep {w W W' : World} {ds : List Nat} {v u : Value} {xs ys : List Fld} (h : Parted w W ds v u xs ys) (hb : Below w.heap.size w W') (hk : ∀ r, Parted.Of w ds v u r → W'.heap[r]? = W.heap[r]?) : Parted w W' ds v u xs ys :=
  ⟨hb, ⟨fun D hD => ⟨(h.marks.at_ D hD).1, (hk D (.inr (.inl hD))).trans (h.marks.at_ D hD).2⟩, h.marks.once⟩, (hk _ (.inl rfl)).trans h.cell,
    own_same h.kept (fun k hv => hk k (.inr (.inr (.inl hv)))), own_same h.gone (fun k hv => hk k (.inr (.inr (.inr hv)))), h.apart⟩
theorem Parted.next {w W W' : World} {ds : List Nat} {v u : Value} {xs ys : List Fld} (h : Parted w W ds v u xs ys) (hb : Below W.heap.size W W') : Parted w W' ds v u xs ys :=
  h.keep (ahead h.below hb) fun r hr => hb.block r (h.lt hr)
theorem Parted.but {w A B : World} {ds : List Nat} {v u : Value} {xs ys : List Fld} {D : Nat} (h : Parted w A ds v u xs ys) (hB : But D A B) (hw : w.heap.size ≤ D) (hd : ∀ r, Parted.Of w ds v u r → r ≠ D ∧ r ≠ D + 1) : Parted w B ds v u xs ys :=
  h.keep (hB.below h.below hw h.below.size) fun r hr => hB.block r (h.lt hr) (hd r hr).1 (hd r hr).2
theorem Parted.mark {w W : World} {ds : List Nat} {v u : Value} {xs ys : List Fld} {D : Nat} (h : Parted w W ds v u xs ys) (hw : w.heap.size ≤ D) (hD : W.heap[D]? = some (.deferred (some []))) (hd : ∀ x ∈ ds, x < D) : Parted w W (D :: ds) v u xs ys :=
  ⟨h.below, h.marks.cons hw hD hd, h.cell, h.kept, h.gone, h.apart⟩
theorem Parted.start (w : World) : Parted w (w.alloc (.cells #[.slice none 0 0] 27)) [] (.slice none 0 0) (.slice none 0 0) [] [] :=
  ⟨below_box _ _, Marks.nil _ _, new_one _ _ _, World.ownsRow_nil _ _ _ _, World.ownsRow_nil _ _ _ _, fun k hk => by cases hk⟩

theorem Parted.put {w W : World} {ds : List Nat} {v u : Value} {xs ys : List Fld} (h : Parted w W ds v u xs ys) : Parted w (W.setCell ⟨w.heap.size, 0, none⟩ u) ds v u xs ys :=
  h.keep (h.below.setCell (Nat.le_refl _) _) fun r _ => by
    by_cases e : r = w.heap.size
    · subst e; exact (heap_set u h.cell).trans h.cell.symm
    · exact Below.heap_setCell _ _ _ _ e

/-- One field more in the first list. -/
theorem Parted.more {w W : World} {ds : List Nat} {v u : Value} {xs ys : List Fld} (h : Parted w W ds v u xs ys) (f : Fld) (ty : TypeId) (hl : xs.length ≤ 1000000) :
    ∃ v' W', (Builtin.append_ #[27, 27] ty #[v, .slice (some ⟨W.heap.size, 0, none⟩) 1 1]).run Tryd.prog (W.alloc (.cells #[.string f.name, .string f.value] 41)) = .ok v' W' ∧ Parted w W' ds v' u (xs ++ [f]) ys := by
  have h1 := h.next (below_box W (.cells #[.string f.name, .string f.value] 41))
  have hz := h.lt (.inl rfl)
  have hfs := fs_one W f 41
  have hsz : (W.alloc (.cells #[.string f.name, .string f.value] 41)).heap.size = W.heap.size + 1 := by simp
  generalize W.alloc (.cells #[.string f.name, .string f.value] 41) = W1 at *
  obtain ⟨v', W', r0, r1, r2⟩ := run_append_fs W1 ty (w.heap.size + 1) v _ xs [f] h1.kept hfs (by simp; omega) (by omega)
  have hwh := append_where_fs h1.kept hfs (by simp; omega) r0
  refine ⟨v', W', r0, h1.below.grown r2 h1.below.size (fun k hk => by have := (h1.kept.lt k hk).1; omega), ⟨fun D hD => ⟨(h1.marks.at_ D hD).1, ?_⟩, h1.marks.once⟩, ?_, r1, own_same h1.gone (fun k hk => ?_), fun k hk => ?_⟩
  · have hd := (h1.marks.at_ D hD).2
    refine (r2.block D (Array.getElem?_eq_some_iff.1 hd).1 (fun e => ?_)).trans hd
    rcases h1.kept.2 with ⟨rfl, _⟩ | ⟨g, cap, cur, rfl, _, hh, _⟩
    · cases e
    · cases e; rw [hd] at hh; cases hh
  · exact (r2.block _ (h1.lt (.inl rfl)) (fun e => by have := (h1.kept.lt _ e.symm).1; omega)).trans h1.cell
  · exact r2.block k (h1.gone.lt k hk).2 (fun e => h1.apart k e.symm hk)
  · rcases hwh with e | e
    · rw [e] at hk; exact h1.apart k hk
    · intro hu
      have := e k hk
      have := (h1.gone.lt k hu).2
      omega

/-- One field more in the second list, which lies in the cell. -/
theorem Parted.less {w W : World} {ds : List Nat} {v u : Value} {xs ys : List Fld} (h : Parted w W ds v u xs ys) (f : Fld) (ty : TypeId) (hl : ys.length ≤ 1000000) :
    ∃ u' W', (Builtin.append_ #[27, 27] ty #[u, .slice (some ⟨W.heap.size, 0, none⟩) 1 1]).run Tryd.prog (W.alloc (.cells #[.string f.name, .string f.value] 41)) = .ok u' W' ∧
      W'.heap[w.heap.size]? = some (.cells #[u] 27 (0, 0)) ∧ Parted w (W'.setCell ⟨w.heap.size, 0, none⟩ u') ds v u' xs (ys ++ [f]) ∧ W.heap.size ≤ (W'.setCell ⟨w.heap.size, 0, none⟩ u').heap.size ∧
      (∀ r, r < W.heap.size → r ≠ w.heap.size → u.ownBlock ≠ some r → (W'.setCell ⟨w.heap.size, 0, none⟩ u').heap[r]? = W.heap[r]?) ∧ (u'.ownBlock = u.ownBlock ∨ ∀ k, u'.ownBlock = some k → W.heap.size ≤ k) := by
  have hb1 := below_box W (.cells #[.string f.name, .string f.value] 41)
  have h1 := h.next hb1
  have hz := h.lt (.inl rfl)
  have hfs := fs_one W f 41
  have hsz : (W.alloc (.cells #[.string f.name, .string f.value] 41)).heap.size = W.heap.size + 1 := by simp
  generalize W.alloc (.cells #[.string f.name, .string f.value] 41) = W1 at *
  obtain ⟨u', W', r0, r1, r2⟩ := run_append_fs W1 ty (w.heap.size + 1) u _ ys [f] h1.gone hfs (by simp; omega) (by omega)
  have hwh := append_where_fs h1.gone hfs (by simp; omega) r0
  have hcell : W'.heap[w.heap.size]? = some (.cells #[u] 27 (0, 0)) := (r2.block _ (h1.lt (.inl rfl)) (fun e => by have := (h1.gone.lt _ e.symm).1; omega)).trans h1.cell
  have hset : ∀ r, r ≠ w.heap.size → (W'.setCell ⟨w.heap.size, 0, none⟩ u').heap[r]? = W'.heap[r]? := fun r hr => Below.heap_setCell _ _ _ _ hr
  have hs' : (W'.setCell ⟨w.heap.size, 0, none⟩ u').heap.size = W'.heap.size := by simp [World.setCell]
  have hsz2 := r2.size
  refine ⟨u', W', r0, hcell, ⟨(h1.below.grown r2 h1.below.size (fun k hk => by have := (h1.gone.lt k hk).1; omega)).setCell (Nat.le_refl _) _, ⟨fun D hD => ⟨(h1.marks.at_ D hD).1, ?_⟩, h1.marks.once⟩, heap_set _ hcell, own_same h1.kept (fun k hk => ?_), own_same r1 (fun k hk => hset k (by have := (r1.lt k hk).1; omega)), fun k hk => ?_⟩, by omega, fun r hr hr1 hr2 => ?_, ?_⟩
  · have hd := (h1.marks.at_ D hD).2
    rw [hset D (fun e => by rw [e, h1.cell] at hd; cases hd)]
    refine (r2.block D (Array.getElem?_eq_some_iff.1 hd).1 (fun e => ?_)).trans hd
    rcases h1.gone.2 with ⟨rfl, _⟩ | ⟨g, cap, cur, rfl, _, hh, _⟩
    · cases e
    · cases e; rw [hd] at hh; cases hh
  · rw [hset k (by have := (h1.kept.lt k hk).1; omega)]
    exact r2.block k (h1.kept.lt k hk).2 (fun e => h1.apart k hk e.symm)
  · rcases hwh with e | e
    · rw [e]; exact h1.apart k hk
    · intro hu
      have := e k hu
      have := (h1.kept.lt k hk).2
      omega
  · rw [hset r hr1, r2.block r (by omega) (Ne.symm hr2), hb1.block r hr]
  · rcases hwh with e | e
    · exact .inl e
    · exact .inr fun k hk => by have := e k hk; omega

end Go.Proofs.YtpmgmbekhnjeoaaDoor
