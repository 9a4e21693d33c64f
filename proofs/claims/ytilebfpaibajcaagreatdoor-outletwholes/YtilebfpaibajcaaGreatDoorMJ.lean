/- MJ: FiltForb, FieldGet, FiltMem, FiltPart, FiltRef in one. -/
import Derived.Test.YtilebfpaibajcaaGreatDoorMI
import Derived.Test.YtilebfpaibajcaaGreatDoorMC
import Derived.Deep.RegionHeld3
/- What filter.Forbidden answers. -/
namespace Go.Proofs.YtilebfpaibajcaaGreatDoor
open Go.ChangeShapes Go.WideShapes Go.ChangeAt Go.RowKit
open Go.Shelf
open Oc Fl Ft
set_option linter.unusedVariables false
set_option maxRecDepth 100000
attribute [local go_sem] Oper.semAt_some

/-- A result that lies in a cell of its own. -/
theorem results_flag {fn : Func} {p : Tmp} (h : fn.results = #[.cell p 4]) (tmps : Array Value) (w : World) (g : Nat) (b : Bool) (hp : tmps.getD p undef = .pointer (some ⟨g, 0, none⟩)) (hg : w.cell? ⟨g, 0, none⟩ = some (.bool b)) :
    (results fn tmps).run Tryz.prog w = .ok (.bool b) w := by
  have hp' : tmps[p]?.getD undef = .pointer (some ⟨g, 0, none⟩) := by simpa using hp
  simp [results, h, hp', asAddr, loadVar, isAgg, run_underlying Tryz.underlying4, hg, go_sem]

/-- Two cells of a call's own, just made. -/
theorem kpt_two (w : World) (u v : Value) (s t : TypeId) : Kpt w [(w.heap.size, B1 u s), (w.heap.size + 1, B1 v t)] [] ((w.alloc (.cells #[u] s)).alloc (.cells #[v] t)) := by
  refine ⟨(below_box _ _).trans ((below_box _ _).mono (by simp)), Marks.nil _ _, ?_⟩
  intro q hq
  simp only [List.mem_cons, List.not_mem_nil, or_false] at hq
  rcases hq with rfl | rfl
  · exact ⟨Nat.le_refl _, (Below.heap_alloc _ _ _ (by simp)).trans (new_one _ _ _)⟩
  · refine ⟨by simp, ?_⟩
    have := new_one (w.alloc (.cells #[u] s)) v t
    rwa [World.size_alloc] at this

end Go.Proofs.YtilebfpaibajcaaGreatDoor

/- What field.Is, Get, and the document's Is, Get, Texts, Great, answer. -/
namespace Go.Proofs.YtilebfpaibajcaaGreatDoor
open Go.ChangeShapes Go.WideShapes Go.ChangeAt Go.RowKit
open Oc Fl
set_option linter.unusedVariables false
set_option maxRecDepth 100000

set_option maxHeartbeats 1000000 in
theorem is_any (f : Fld) (n : ByteArray) (w : World) (hf : f.name.size ≤ 1099511627776) (hn : n.size ≤ 1099511627776) :
    Calls Tryz.prog 50 #[fld f, .string n] w fun e w' => e = .returned (.bool (has n f)) ∧ Below w.heap.size w w' := by
  have hA : Hid (∀ W, _) := Lib.hid fun W => alike_any f.name n W hf hn
  have hh : Hid (has n f = alike f.name.data.toList n.data.toList) := Lib.hid rfl
  obtain ⟨x, y⟩ := f
  simp only at hA hh hf
  generalize has n ⟨x, y⟩ = b at *
  rw [← hh.out] at hA
  have hbox : Hid (∀ t, Below w.heap.size w (w.alloc (.cells #[.string x, .string y] t))) := Lib.hid fun t => below_box w _
  go_enter Tryz.func50, Tryz.ntmps50
  go_wp2_with (go_at_call 64; refine (hA.out _).mono ?_; rintro e w' ⟨rfl, hb⟩)
  go_ret
  exact ⟨rfl, ahead (hbox.out _) hb⟩

theorem small_eq {a b : List UInt8} : ((⟨(small a).toArray⟩ : ByteArray).toList == (⟨(small b).toArray⟩ : ByteArray).toList) = alike a b := by
  unfold alike
  rw [Bool.eq_iff_iff]
  simp

/-- The cell of a text that was captured. -/
def TextAt (W : World) (g : Nat) (n : ByteArray) : Prop := W.cell? ⟨g, 0, none⟩ = some (.string n)
theorem keep4 {w W W' : World} {a b c : Addr} {x y z : Value} (h : Below w.heap.size w W ∧ W.cell? a = some x ∧ W.cell? b = some y ∧ W.cell? c = some z) (hb : Below W.heap.size W W') : Below w.heap.size w W' ∧ W'.cell? a = some x ∧ W'.cell? b = some y ∧ W'.cell? c = some z :=
  ⟨ahead h.1 hb, cell_below h.2.1 hb, cell_below h.2.2.1 hb, cell_below h.2.2.2 hb⟩

theorem get_take {l : List Fld} {k : Nat} {f : Fld} (n : ByteArray) (h : l[k]? = some f) : Fl.get (l.take (k + 1)) n = Fl.get (l.take k) n ++ (if has n f then [f.value] else []) := by
  rw [List.take_add_one, h, get_append]
  simp only [Option.toList_some, Fl.get, List.filter_cons, List.filter_nil]
  cases has n f <;> simp
theorem get_len (l : List Fld) (n : ByteArray) : (Fl.get l n).length ≤ l.length := by
  unfold Fl.get
  rw [List.length_map]
  exact List.length_filter_le _ _
theorem get_take_len (l : List Fld) (k : Nat) (n : ByteArray) : (Fl.get (l.take k) n).length ≤ l.length := by
  have := get_len (l.take k) n
  rw [List.length_take] at this
  omega

theorem run_append_tx (w : World) (ty : TypeId) (base : Nat) (v u : Value) (xs ys : List ByteArray) (hown : w.ownsRow base 9 1 v xs.length (tv xs)) (hu : TX w u ys) (hb : xs.length + ys.length ≤ 1099511627776) (hbase : base ≤ w.heap.size) :
    ∃ v' w', (Builtin.append_ #[118, 118] ty #[v, u]).run Tryz.prog w = .ok v' w' ∧ w'.ownsRow base 9 1 v' (xs ++ ys).length (tv (xs ++ ys)) ∧ w.grownBy w' v.ownBlock := by
  obtain ⟨i0, hi, hz0, hz1, hz2⟩ := info_parts str_info
  obtain ⟨v', w', r0, r1, r2⟩ := run_append_rs w 118 ty 9 i0 _ 1 16 Tryz.underlying118 hi hz0 hz1 hz2 rfl (by decide) base v u _ _ _ _ hown hu (tv_one ys) (by omega) (by omega) hbase
  exact ⟨v', w', r0, by rw [List.length_append, ← tv_app]; exact r1, r2⟩
/-- What a call has gathered so far: a row of its own, above what lay before. -/
structure Told (w wr : World) (v : Value) (xs : List ByteArray) : Prop where
  own : wr.ownsRow w.heap.size 9 1 v xs.length (tv xs)
  below : Below w.heap.size w wr
theorem Told.next {w wr w' : World} {v : Value} {xs : List ByteArray} (h : Told w wr v xs) (hb : Below wr.heap.size wr w') : Told w w' v xs := by
  refine ⟨?_, ahead h.below hb⟩
  refine ⟨h.own.1, ?_⟩
  rcases h.own.2 with h' | ⟨g, cap, cur, rfl, hb', hh, rest⟩
  · exact .inl h'
  · exact .inr ⟨g, cap, cur, rfl, hb', (hb.block g (Array.getElem?_eq_some_iff.1 hh).1).trans hh, rest⟩
/-- One text more. -/
theorem Told.more {w wr : World} {v : Value} {xs : List ByteArray} (h : Told w wr v xs) (s : ByteArray) (ty : TypeId) (hl : xs.length ≤ 1000000) :
    ∃ v' w', (Builtin.append_ #[118, 118] ty #[v, .slice (some ⟨wr.heap.size, 0, none⟩) 1 1]).run Tryz.prog (wr.alloc (.cells #[.string s] 9)) = .ok v' w' ∧ Told w w' v' (xs ++ [s]) := by
  have h1 := h.next (below_box wr (.cells #[.string s] 9))
  have hz := h1.below.size
  obtain ⟨v', w', r0, r1, r2⟩ := run_append_tx (wr.alloc (.cells #[.string s] 9)) ty w.heap.size v _ xs [s] h1.own (tx_one wr s _) (by simp; omega) (by omega)
  exact ⟨v', w', r0, r1, h1.below.grown r2 hz (fun k hk => (h1.own.lt k hk).1)⟩

end Go.Proofs.YtilebfpaibajcaaGreatDoor

/- Fields that are parted into two lists, one in a cell, while loops over an iterator go on. -/
namespace Go.Proofs.YtilebfpaibajcaaGreatDoor
open Go.ChangeShapes Go.WideShapes Go.ChangeAt Go.RowKit
open Go.Shelf
open Oc Fl Ft
set_option linter.unusedVariables false
set_option maxRecDepth 100000
attribute [local go_sem] Oper.semAt_some

/-- Where an append's answer lies. -/
theorem append_where_fs {w w' : World} {ty : TypeId} {base : Nat} {v v' u : Value} {xs ys : List Fld} (hown : w.ownsRow base 86 2 v xs.length (fv xs)) (hu : FS w u ys) (hb : xs.length + ys.length ≤ 1099511627776)
    (hr : (Builtin.append_ #[38, 38] ty #[v, u]).run Tryz.prog w = .ok v' w') : v'.ownBlock = v.ownBlock ∨ ∀ k, v'.ownBlock = some k → w.heap.size ≤ k := by
  obtain ⟨i0, hi, hz0, hz1, hz2⟩ := info_parts fld_info
  rcases hown.2 with ⟨rfl, hn⟩ | ⟨g, cap, cur, rfl, hbg, hg, hnc, hcm, hcs, htake⟩
  · right
    obtain ⟨v2, w2, r0, r1, -⟩ := run_append_fs w ty w.heap.size (.slice none 0 0) u [] ys (World.ownsRow_nil _ _ _ _) hu (by simp; omega) (Nat.le_refl _)
    rw [r0] at hr
    cases hr
    exact fun k hk => (r1.lt k hk).1
  · obtain ⟨hl, p, c, rfl, q1, q2, q3, q4⟩ := hu
    cases p with
    | none =>
      left
      have hc := q3 rfl
      have hm : ys.length = 0 := by omega
      subst hc
      rw [hm, run_append_owned_none w base 38 ty 86 i0 2 Tryz.underlying38 hi _ _ _ hown] at hr
      cases hr; rfl
    | some ad =>
      by_cases hroom : xs.length + ys.length ≤ cap
      · left
        have hfit : xs.length * i0.size + (fv ys).length ≤ cur.size := by rw [fv_len, hz1, hcs]; omega
        have := run_append_room (P := Tryz.prog) w 38 ty 86 i0 Tryz.underlying38 hi g xs.length cap cur hg ad ys.length c (fv ys) (by rw [hz1]; exact fv_len ys) (fun j u hj => q4 ad rfl j u hj) (fv_one ys) hroom hfit
        rw [this] at hr
        cases hr; rfl
      · right
        have holds := hown.cells (g := g) rfl
        have := run_append_grow (P := Tryz.prog) w 38 ty 86 i0 _ Tryz.underlying38 hi hz0 ⟨g, 0, none⟩ xs.length cap (fv xs) (by rw [hz1]; exact fv_len xs) holds ad ys.length c (fv ys) (by rw [hz1]; exact fv_len ys) (fun j u hj => q4 ad rfl j u hj) (by omega) (by omega) (growslice_fits (by omega) (by rw [hz2]; omega))
        rw [this] at hr
        cases hr
        exact fun k hk => by cases hk; exact Nat.le_refl _

/-- Two lists of a call's own, the second one's slice in the call's first cell; loops' marks. -/
structure Parted (w W : World) (ds : List Nat) (v u : Value) (xs ys : List Fld) : Prop where
  below : Below w.heap.size w W
  marks : Marks w.heap.size ds W
  cell : W.heap[w.heap.size]? = some (.cells #[u] 38 (0, 0))
  kept : W.ownsRow (w.heap.size + 1) 86 2 v xs.length (fv xs)
  gone : W.ownsRow (w.heap.size + 1) 86 2 u ys.length (fv ys)
  apart : ∀ k, v.ownBlock = some k → u.ownBlock ≠ some k
/-- The blocks that it speaks of. -/
def Parted.Of (w : World) (ds : List Nat) (v u : Value) (r : Nat) : Prop := r = w.heap.size ∨ r ∈ ds ∨ v.ownBlock = some r ∨ u.ownBlock = some r
theorem Parted.lt {w W : World} {ds : List Nat} {v u : Value} {xs ys : List Fld} (h : Parted w W ds v u xs ys) {r : Nat} (hr : Parted.Of w ds v u r) : r < W.heap.size := by
  rcases hr with rfl | hr | hr | hr
  · exact (Array.getElem?_eq_some_iff.1 h.cell).1
  · exact (Array.getElem?_eq_some_iff.1 (h.marks.at_ r hr).2).1
  · exact (h.kept.lt r hr).2
  · exact (h.gone.lt r hr).2
theorem Parted.keep {w W W' : World} {ds : List Nat} {v u : Value} {xs ys : List Fld} (h : Parted w W ds v u xs ys) (hb : Below w.heap.size w W') (hk : ∀ r, Parted.Of w ds v u r → W'.heap[r]? = W.heap[r]?) : Parted w W' ds v u xs ys :=
  ⟨hb, ⟨fun D hD => ⟨(h.marks.at_ D hD).1, (hk D (.inr (.inl hD))).trans (h.marks.at_ D hD).2⟩, h.marks.once⟩, (hk _ (.inl rfl)).trans h.cell,
    own_same h.kept (fun k hv => hk k (.inr (.inr (.inl hv)))), own_same h.gone (fun k hv => hk k (.inr (.inr (.inr hv)))), h.apart⟩
theorem Parted.next {w W W' : World} {ds : List Nat} {v u : Value} {xs ys : List Fld} (h : Parted w W ds v u xs ys) (hb : Below W.heap.size W W') : Parted w W' ds v u xs ys :=
  h.keep (ahead h.below hb) fun r hr => hb.block r (h.lt hr)
theorem Parted.but {w A B : World} {ds : List Nat} {v u : Value} {xs ys : List Fld} {D : Nat} (h : Parted w A ds v u xs ys) (hB : But D A B) (hw : w.heap.size ≤ D) (hd : ∀ r, Parted.Of w ds v u r → r ≠ D ∧ r ≠ D + 1) : Parted w B ds v u xs ys :=
  h.keep (hB.below h.below hw h.below.size) fun r hr => hB.block r (h.lt hr) (hd r hr).1 (hd r hr).2
theorem Parted.mark {w W : World} {ds : List Nat} {v u : Value} {xs ys : List Fld} {D : Nat} (h : Parted w W ds v u xs ys) (hw : w.heap.size ≤ D) (hD : W.heap[D]? = some (.deferred (some []))) (hd : ∀ x ∈ ds, x < D) : Parted w W (D :: ds) v u xs ys :=
  ⟨h.below, h.marks.cons hw hD hd, h.cell, h.kept, h.gone, h.apart⟩
theorem Parted.start (w : World) : Parted w (w.alloc (.cells #[.slice none 0 0] 38)) [] (.slice none 0 0) (.slice none 0 0) [] [] :=
  ⟨below_box _ _, Marks.nil _ _, new_one _ _ _, World.ownsRow_nil _ _ _ _, World.ownsRow_nil _ _ _ _, fun k hk => by cases hk⟩

theorem Parted.put {w W : World} {ds : List Nat} {v u : Value} {xs ys : List Fld} (h : Parted w W ds v u xs ys) : Parted w (W.setCell ⟨w.heap.size, 0, none⟩ u) ds v u xs ys :=
  h.keep (h.below.setCell (Nat.le_refl _) _) fun r _ => by
    by_cases e : r = w.heap.size
    · subst e; exact (heap_set u h.cell).trans h.cell.symm
    · exact Below.heap_setCell _ _ _ _ e

/-- One field more in the first list. -/
theorem Parted.more {w W : World} {ds : List Nat} {v u : Value} {xs ys : List Fld} (h : Parted w W ds v u xs ys) (f : Fld) (ty : TypeId) (hl : xs.length ≤ 1000000) :
    ∃ v' W', (Builtin.append_ #[38, 38] ty #[v, .slice (some ⟨W.heap.size, 0, none⟩) 1 1]).run Tryz.prog (W.alloc (.cells #[.string f.name, .string f.value] 86)) = .ok v' W' ∧ Parted w W' ds v' u (xs ++ [f]) ys := by
  have h1 := h.next (below_box W (.cells #[.string f.name, .string f.value] 86))
  have hz := h.lt (.inl rfl)
  have hfs := fs_one W f 86
  have hsz : (W.alloc (.cells #[.string f.name, .string f.value] 86)).heap.size = W.heap.size + 1 := by simp
  generalize W.alloc (.cells #[.string f.name, .string f.value] 86) = W1 at *
  obtain ⟨v', W', r0, r1, r2⟩ := run_append_fs W1 ty (w.heap.size + 1) v _ xs [f] h1.kept hfs (by simp; omega) (by omega)
  have hwh := append_where_fs h1.kept hfs (by simp; omega) r0
  refine ⟨v', W', r0, h1.below.grown r2 h1.below.size (fun k hk => by have := (h1.kept.lt k hk).1; omega), ⟨fun D hD => ⟨(h1.marks.at_ D hD).1, ?_⟩, h1.marks.once⟩, ?_, r1, own_same h1.gone (fun k hk => ?_), fun k hk => ?_⟩
  · have hd := (h1.marks.at_ D hD).2
    refine (r2.block D (Array.getElem?_eq_some_iff.1 hd).1 (fun e => ?_)).trans hd
    rcases h1.kept.2 with ⟨rfl, _⟩ | ⟨g, cap, cur, rfl, _, hh, _⟩
    · cases e
    · cases e; rw [hd] at hh; cases hh
  · exact (r2.block _ (h1.lt (.inl rfl)) (fun e => by have := (h1.kept.lt _ e.symm).1; omega)).trans h1.cell
  · exact r2.block k (h1.gone.lt k hk).2 (fun e => h1.apart k e.symm hk)
  · rcases hwh with e | e
    · rw [e] at hk; exact h1.apart k hk
    · intro hu
      have := e k hk
      have := (h1.gone.lt k hu).2
      omega

/-- One field more in the second list, which lies in the cell. -/
theorem Parted.less {w W : World} {ds : List Nat} {v u : Value} {xs ys : List Fld} (h : Parted w W ds v u xs ys) (f : Fld) (ty : TypeId) (hl : ys.length ≤ 1000000) :
    ∃ u' W', (Builtin.append_ #[38, 38] ty #[u, .slice (some ⟨W.heap.size, 0, none⟩) 1 1]).run Tryz.prog (W.alloc (.cells #[.string f.name, .string f.value] 86)) = .ok u' W' ∧
      W'.heap[w.heap.size]? = some (.cells #[u] 38 (0, 0)) ∧ Parted w (W'.setCell ⟨w.heap.size, 0, none⟩ u') ds v u' xs (ys ++ [f]) ∧ W.heap.size ≤ (W'.setCell ⟨w.heap.size, 0, none⟩ u').heap.size ∧
      (∀ r, r < W.heap.size → r ≠ w.heap.size → u.ownBlock ≠ some r → (W'.setCell ⟨w.heap.size, 0, none⟩ u').heap[r]? = W.heap[r]?) ∧ (u'.ownBlock = u.ownBlock ∨ ∀ k, u'.ownBlock = some k → W.heap.size ≤ k) := by
  have hb1 := below_box W (.cells #[.string f.name, .string f.value] 86)
  have h1 := h.next hb1
  have hz := h.lt (.inl rfl)
  have hfs := fs_one W f 86
  have hsz : (W.alloc (.cells #[.string f.name, .string f.value] 86)).heap.size = W.heap.size + 1 := by simp
  generalize W.alloc (.cells #[.string f.name, .string f.value] 86) = W1 at *
  obtain ⟨u', W', r0, r1, r2⟩ := run_append_fs W1 ty (w.heap.size + 1) u _ ys [f] h1.gone hfs (by simp; omega) (by omega)
  have hwh := append_where_fs h1.gone hfs (by simp; omega) r0
  have hcell : W'.heap[w.heap.size]? = some (.cells #[u] 38 (0, 0)) := (r2.block _ (h1.lt (.inl rfl)) (fun e => by have := (h1.gone.lt _ e.symm).1; omega)).trans h1.cell
  have hset : ∀ r, r ≠ w.heap.size → (W'.setCell ⟨w.heap.size, 0, none⟩ u').heap[r]? = W'.heap[r]? := fun r hr => Below.heap_setCell _ _ _ _ hr
  have hs' : (W'.setCell ⟨w.heap.size, 0, none⟩ u').heap.size = W'.heap.size := by simp [World.setCell]
  have hsz2 := r2.size
  refine ⟨u', W', r0, hcell, ⟨(h1.below.grown r2 h1.below.size (fun k hk => by have := (h1.gone.lt k hk).1; omega)).setCell (Nat.le_refl _) _, ⟨fun D hD => ⟨(h1.marks.at_ D hD).1, ?_⟩, h1.marks.once⟩, heap_set _ hcell, own_same h1.kept (fun k hk => ?_), own_same r1 (fun k hk => hset k (by have := (r1.lt k hk).1; omega)), fun k hk => ?_⟩, by omega, fun r hr hr1 hr2 => ?_, ?_⟩
  · have hd := (h1.marks.at_ D hD).2
    rw [hset D (fun e => by rw [e, h1.cell] at hd; cases hd)]
    refine (r2.block D (Array.getElem?_eq_some_iff.1 hd).1 (fun e => ?_)).trans hd
    rcases h1.gone.2 with ⟨rfl, _⟩ | ⟨g, cap, cur, rfl, _, hh, _⟩
    · cases e
    · cases e; rw [hd] at hh; cases hh
  · rw [hset k (by have := (h1.kept.lt k hk).1; omega)]
    exact r2.block k (h1.kept.lt k hk).2 (fun e => h1.apart k hk e.symm)
  · rcases hwh with e | e
    · rw [e]; exact h1.apart k hk
    · intro hu
      have := e k hu
      have := (h1.kept.lt k hk).2
      omega
  · rw [hset r hr1, r2.block r (by omega) (Ne.symm hr2), hb1.block r hr]
  · rcases hwh with e | e
    · exact .inl e
    · exact .inr fun k hk => by have := e k hk; omega

end Go.Proofs.YtilebfpaibajcaaGreatDoor

/- What filter.part answers. -/
namespace Go.Proofs.YtilebfpaibajcaaGreatDoor
open Go.ChangeShapes Go.WideShapes Go.ChangeAt Go.RowKit
open Go.Shelf
open Oc Fl Ft
set_option linter.unusedVariables false
set_option maxRecDepth 100000
attribute [local go_sem] Oper.semAt_some

/-- Two results, the second one in a cell. -/
theorem results_tmp_cell {fn : Func} {p q : Tmp} (h : fn.results = #[.tmp p, .cell q 38]) (tmps : Array Value) (w : World) (g : Nat) (v u : Value) (hp : tmps.getD p undef = v) (hq : tmps.getD q undef = .pointer (some ⟨g, 0, none⟩)) (hg : w.cell? ⟨g, 0, none⟩ = some u) :
    (results fn tmps).run Tryz.prog w = .ok (.tuple #[v, u]) w := by
  have hq' : tmps[q]?.getD undef = .pointer (some ⟨g, 0, none⟩) := by simpa using hq
  have hp' : tmps[p]?.getD undef = v := by simpa using hp
  simp [results, h, hp', hq', asAddr, loadVar, isAgg, run_underlying Tryz.underlying38, hg, go_sem]

set_option maxRecDepth 100000 in
set_option maxHeartbeats 8000000 in
theorem part_any (l : List Fld) (p : Option Addr) (c : Nat) (w : World) (hT : Tbl w) (hF : FS w (.slice p l.length c) l) (hl : l.length ≤ 1000000) (hfs : ∀ f ∈ l, f.name.size ≤ 1099511627776) :
    Calls Tryz.prog 39 #[.slice p l.length c] w fun e w' => ∃ v u, e = .returned (.tuple #[v, u]) ∧ FS w' v (sel false l) ∧ FS w' u (sel true l) ∧ Below w.heap.size w w' := by
  have HT := Lib.hid hT
  have HF := Lib.hid hF
  have HFS := Lib.hid hfs
  clear hT hF hfs
  refine calls_of_marks Tryz.func39 rfl ?_
  simp only [Tryz.ntmps39, List.size_toArray, List.length_cons, List.length_nil, Nat.reduceAdd, Nat.reduceSub, Array.replicate_succ, Array.replicate_zero, List.push_toArray, List.append_toArray, List.nil_append, List.cons_append]
  go_wp2_with fail
  go_step3
  go_wp2_with fail
  go_step3
  go_wp2_with fail
  obtain ⟨I, hI⟩ : ∃ I : Act → World → Prop, I = fun a W => ∃ (k : Nat) (v u u5 u10 u11 u12 u13 u22 u23 u24 u25 u26 : Value) (ds : List Nat),
      a = { tmps := #[.slice p l.length c, undef, v, .pointer (some ⟨w.heap.size, 0, none⟩), undef, u5, undef, .slice p l.length c, .int .i64 (l.length : Int), .int .i64 (k : Int), u10, u11, u12, u13, undef, undef, undef, undef, undef, undef, undef, undef, u22, u23, u24, u25, u26, undef, undef], defers := ds.map mk } ∧
      k ≤ l.length ∧ Parted w W ds v u (sel false (l.take k)) (sel true (l.take k)) := ⟨_, rfl⟩
  refine wp_loop I (fun a _ => l.length - (intOf (a.tmps.getD 9 undef)).toNat) ?_ ?_
  · rw [hI]
    exact ⟨0, _, _, _, _, _, _, _, _, _, _, _, _, [], rfl, Nat.zero_le _, Parted.start w⟩
  · intro a wr hinv
    rw [hI] at hinv
    obtain ⟨k, v, u, u5, u10, u11, u12, u13, u22, u23, u24, u25, u26, ds, rfl, hk, hP⟩ := hinv
    have hDI := Lib.hid hI
    clear hI
    have HP := Lib.hid hP
    clear hP
    by_cases hlt : k < l.length
    · obtain ⟨f, hf⟩ : ∃ f, l[k]? = some f := ⟨_, List.getElem?_eq_getElem hlt⟩
      obtain ⟨-, ad, rfl, c0, c1⟩ := ((HF.out).below HP.out.below).at hf
      have hfz := HFS.out f (List.mem_of_getElem? hf)
      have HS0 := Lib.hid (sel_take false hf)
      have HS1 := Lib.hid (sel_take true hf)
      have hx0 := sel_take_len false l k
      have hx1 := sel_take_len true l k
      generalize sel false (l.take k) = xs at *
      generalize sel true (l.take k) = ys at *
      clear hf
      obtain ⟨x, y⟩ := f
      simp only at c0 c1 hfz
      have k1 : (0 : Int) ≤ (k : Int) := by omega
      have k2 : (k : Int) < (l.length : Int) := by omega
      go_wp2_with (go_at_call 49; refine (names_any _).mono ?_; rintro e w' ⟨rfl, rfl⟩)
      obtain ⟨W0, hW0⟩ : ∃ W0, wr.alloc (.cells #[.string x, .string y] 86) = W0 := ⟨_, rfl⟩
      have s0 : W0.heap.size = wr.heap.size + 1 := by rw [← hW0]; simp
      have bW : Below wr.heap.size wr W0 := by rw [← hW0]; exact below_box _ _
      have g0 : W0.heap[wr.heap.size]? = some (.cells #[.string x, .string y] 86 (0, 0)) := by rw [← hW0]; exact box_cells _ _ _ _
      rw [hW0]
      clear hW0 c0 c1
      have HP0 := HP.out.next bW
      have l0 : ∀ r, Parted.Of w ds v u r → r < wr.heap.size := fun r hr => HP.out.lt hr
      have hws : w.heap.size < wr.heap.size := l0 _ (.inl rfl)
      refine wp_range (wpIn_rangeR (gf := 63) rfl (enters_of Tryz.func63 (by kernel_rfl) rfl) names_seq (fun j x hx => ?_)
        (fun j W => Parted w W ds v u xs ys ∧ W.heap[wr.heap.size]? = some (.cells #[.string x, .string y] 86 (0, 0)) ∧ (nms.take j).any (fun n => has n ⟨x, y⟩) = false)
        (fun co j W => co = .exit 1 ∧ bad ⟨x, y⟩ = true ∧ ∃ u', Parted w W ds v u' xs (ys ++ [⟨x, y⟩]) ∧ u'.ownBlock ≠ some (wr.heap.size + 1) ∧ u'.ownBlock ≠ some (wr.heap.size + 2))
        ?_ ?_ (fun j W h => HT.out.below h.1.below) ⟨HP0, g0, rfl⟩ ?round ?done ?stop)
      · obtain ⟨y, _, rfl⟩ := nmV_of hx; rfl
      · rintro j A B ⟨i1, i2, i3⟩ hB
        rw [s0] at hB
        exact ⟨i1.but hB (by omega) (fun r hr => by have := l0 r hr; omega), hB.heap i2 (by omega) (by omega), i3⟩
      · rintro co j A B ⟨i1, i2, u', i3, i4, i5⟩ hB
        rw [s0] at hB
        refine ⟨i1, i2, u', i3.but hB (by omega) (fun r hr => ?_), i4, i5⟩
        rcases hr with hr | hr | hr | hr
        · have := l0 r (.inl hr); omega
        · have := l0 r (.inr (.inl hr)); omega
        · have := l0 r (.inr (.inr (.inl hr))); omega
        · exact ⟨fun e => i4 (e ▸ hr), fun e => i5 (e ▸ hr)⟩
      case round =>
        rintro j x' W hx - -
        obtain ⟨n, hn, rfl⟩ := nmV_of hx
        have hnz := nms_size n (List.mem_of_getElem? hn)
        have HIS : Hid (∀ W, _) := Lib.hid fun W => is_any ⟨x, y⟩ n W hfz (by omega)
        have HN := Lib.hid hn
        clear hx hn HP0 g0 bW
        gi_wp2_with fail
        refine ⟨trivial, ?_⟩
        rintro W2 ⟨i1, i2, i3⟩ hsz2
        rw [s0] at hsz2 ⊢
        obtain ⟨c2, c3, -⟩ := two_cells i2
        have I1 := Lib.hid i1
        have I2 := Lib.hid i2
        have I3 := Lib.hid i3
        have L0 := Lib.hid l0
        clear i1 i2 i3 l0
        cases hal : has n ⟨x, y⟩
        · rw [hal] at HIS
          have HA := Lib.hid hal
          clear hal
          gi_wp2_with fail
          refine ⟨trivial, rfl, (callsIn_wide.2 (HIS.out _)).mono ?_⟩
          rintro e W3 ⟨rfl, hb3⟩
          replace hb3 := Lib.hid hb3
          gi_wp2_with fail
          exact ⟨Held.of_below hsz2 hb3.out, I1.out.next hb3.out, two_below I2.out hb3.out, by rw [any_snoc HN.out, I3.out, HA.out]; rfl⟩
        · rw [hal] at HIS
          have HA := Lib.hid hal
          clear hal
          gi_wp2_with fail
          refine ⟨trivial, rfl, (callsIn_wide.2 (HIS.out _)).mono ?_⟩
          rintro e W3 ⟨rfl, hb3⟩
          have hz3 := hb3.size
          obtain ⟨c23, c33, -⟩ := two_cells (two_below I2.out hb3)
          have I4 := Lib.hid (I1.out.next hb3)
          obtain ⟨c4, f4⟩ := one_cell I4.out.cell
          obtain ⟨u', W4, r0, r1, r2, r3, r4, r5⟩ := I4.out.less ⟨x, y⟩ 38 (by omega)
          obtain ⟨c5, f5⟩ := one_cell r1
          obtain ⟨q, n5, c6, rfl⟩ := own_slice r2.gone
          have HB3 := Lib.hid hb3
          have R0 := Lib.hid r0
          have R2 := Lib.hid r2
          have R3 := Lib.hid r3
          have R4 := Lib.hid r4
          have R5 := Lib.hid r5
          clear hb3 r0 r1 r2 r3 r4 r5 c2 c3
          gi_wp2_with (gi_at_builtin; refine wpListIn_append_run rfl (.tmp 18) (.tmp 20) 38 rfl _ _ _ _ rfl rfl R0.out ?_)
          have hu : ∀ r, u.ownBlock = some r → r < wr.heap.size := fun r hr => L0.out r (.inr (.inr (.inr hr)))
          refine ⟨⟨by have := R3.out; omega, ?_, ?_, fun h => h.elim⟩, rfl, any_here HN.out HA.out, _, R2.out, fun e => ?_, fun e => ?_⟩
          · exact (R4.out _ (by omega) (by omega) (fun e => by have := hu _ e; omega)).trans (HB3.out.block _ (by omega))
          · exact (R4.out _ (by omega) (by omega) (fun e => by have := hu _ e; omega)).trans (HB3.out.block _ (by omega))
          · rcases R5.out with h | h
            · have := hu _ (h ▸ e); omega
            · have := h _ e; omega
          · rcases R5.out with h | h
            · have := hu _ (h ▸ e); omega
            · have := h _ e; omega
      case done =>
        rintro W ⟨i1, i2, i3⟩ hD
        rw [s0] at hD ⊢
        have I1 := i1.mark (D := wr.heap.size + 1) (by omega) hD (fun x hx => by have := l0 x (.inr (.inl hx)); omega)
        obtain ⟨v', W', r0, r1⟩ := I1.more ⟨x, y⟩ 38 (by omega)
        have hb : bad ⟨x, y⟩ = false := i3
        rw [show xs ++ [(⟨x, y⟩ : Fld)] = sel false (l.take (k + 1)) by rw [HS0.out, if_pos hb], show ys = sel true (l.take (k + 1)) by rw [HS1.out, if_neg (by rw [hb]; decide), List.append_nil]] at r1
        obtain ⟨c2, c3, -⟩ := two_cells i2
        have R0 := Lib.hid r0
        have R1 := Lib.hid r1
        clear i1 i2 i3 hD r0 r1 I1 HP0 g0 bW l0 hb
        go_wp2_with (at_builtin; refine wpList_append_run rfl (.tmp 22) (.tmp 24) 38 rfl _ _ _ _ rfl rfl R0.out ?_)
        refine ⟨?_, ?_⟩
        · rw [hDI.out]
          exact ⟨k + 1, v', u, _, _, _, _, _, _, _, _, _, _, (wr.heap.size + 1) :: ds, rfl, by omega, R1.out⟩
        · simp [intOf]; omega
      case stop =>
        rintro co j W _ ⟨rfl, i1, u', i2, i3, i4⟩ hD
        rw [s0] at hD ⊢
        have I1 := i2.mark (D := wr.heap.size + 1) (by omega) hD (fun x hx => by have := l0 x (.inr (.inl hx)); omega)
        rw [show xs = sel false (l.take (k + 1)) by rw [HS0.out, if_neg (by rw [i1]; decide), List.append_nil], show ys ++ [(⟨x, y⟩ : Fld)] = sel true (l.take (k + 1)) by rw [HS1.out, if_pos i1]] at I1
        replace I1 := Lib.hid I1
        clear i1 i2 i3 i4 hD HP0 g0 bW l0
        refine wpIn_wide.2 ?_
        go_wp2_with fail
        refine ⟨?_, ?_⟩
        · rw [hDI.out]
          exact ⟨k + 1, v, u', _, _, _, _, _, _, _, _, _, _, (wr.heap.size + 1) :: ds, rfl, by omega, I1.out⟩
        · simp [intOf]; omega
    · obtain rfl : k = l.length := by omega
      rw [List.take_length] at HP
      obtain ⟨q, n5, c6, rfl⟩ := own_slice HP.out.gone
      obtain ⟨c5, f5⟩ := one_cell HP.out.cell
      go_wp2_with fail
      refine wp_region_noPanic ?_
      go_region_with (fail)
      all_goals (refine NoPanic.normal ?_)
      all_goals go_wp2_with fail
      all_goals
        have I9 := Lib.hid (HP.out.put.next (Below.drew (Below.refl _ _)))
        try rw [Exit.noGoto_ret]
        refine left_marks_at ds I9.out.below.size rfl I9.out.marks (fun W' hW' => ⟨results_tmp_cell rfl _ _ w.heap.size v (.slice q n5 c6) rfl rfl (one_cell (hW'.cells _ _ _ _ I9.out.cell)).1, ?_⟩) (.inl rfl)
        exact ⟨v, _, rfl, RS.of_own (hW'.own I9.out.kept), RS.of_own (hW'.own I9.out.gone), I9.out.below.trans hW'.below⟩

end Go.Proofs.YtilebfpaibajcaaGreatDoor

/- What filter.Keep, Drop, Count, and the document's Names, Forbidden, Part answer. -/
namespace Go.Proofs.YtilebfpaibajcaaGreatDoor
open Go.ChangeShapes Go.WideShapes Go.ChangeAt Go.RowKit
open Oc Fl Ft
set_option linter.unusedVariables false
set_option maxRecDepth 100000

set_option maxHeartbeats 1000000 in
theorem keep_any (l : List Fld) (p : Option Addr) (c : Nat) (w : World) (hT : Tbl w) (hF : FS w (.slice p l.length c) l) (hl : l.length ≤ 1000000) (hfs : ∀ f ∈ l, f.name.size ≤ 1099511627776) :
    Calls Tryz.prog 26 #[.slice p l.length c] w fun e w' => ∃ v, e = .returned v ∧ FS w' v (sel false l) ∧ Below w.heap.size w w' := by
  have hP := Lib.hid (part_any l p c w hT hF hl hfs)
  clear hT hF hfs
  go_enter Tryz.func26, Tryz.ntmps26
  go_wp2_with (go_at_call 39; refine hP.out.mono ?_; rintro e w' ⟨v, u, rfl, h0, h1, hb⟩; have H0 := Lib.hid h0; have HB := Lib.hid hb; clear h0 h1 hb)
  go_ret
  exact ⟨_, rfl, H0.out, HB.out⟩

theorem rnames_any (w : World) : Calls Tryz.prog 54 #[] w fun e w' => e = .returned (.slice (some ⟨w.heap.size, 0, none⟩) 28 28) ∧ w' = w.alloc (.cells (tv nms).toArray 9) := by
  go_enter Tryz.func54, Tryz.ntmps54
  go_wp2_with fail
  go_ret
  exact ⟨rfl, rfl⟩
/-- They lie there. -/
theorem names_tx (w : World) : TX (w.alloc (.cells (tv nms).toArray 9)) (.slice (some ⟨w.heap.size, 0, none⟩) nms.length 28) nms := by
  refine ⟨rfl, some ⟨w.heap.size, 0, none⟩, 28, rfl, Nat.le_refl _, by decide, (fun h => by cases h), fun ad hp i u hu => ?_⟩
  cases hp
  rw [Addr.add_mid, Nat.zero_add, cell_of_row _ _ i _ _ _ (heap_alloc_new w _)]
  simpa using hu

set_option maxHeartbeats 2000000 in
theorem rforb_any (s : ByteArray) (w : World) (hs : s.size ≤ 1099511627776) :
    Calls Tryz.prog 43 #[.string s] w fun e w' => e = .returned (.bool (forb s)) ∧ Below w.heap.size w w' := by
  have hB := Lib.hid (rsmall_any s · hs)
  go_enter Tryz.func43, Tryz.ntmps43
  go_wp2_with (go_at_call 54; refine (rnames_any _).mono ?_; rintro e w' ⟨rfl, rfl⟩)
  have HX := Lib.hid (names_tx w)
  have HW := Lib.hid (below_box w (.cells (tv nms).toArray 9))
  generalize w.alloc (.cells (tv nms).toArray 9) = w1 at HX HW ⊢
  go_loopw [4] (fun i wr => ∃ k : Nat, k ≤ 28 ∧ i = .int .i64 k ∧ Hid (Below w1.heap.size w1 wr) ∧ Hid ((nms.take k).any (fun n => alike s.data.toList n.data.toList) = false)) (fun i _ => 28 - (intOf i).toNat)
  case atStart => exact ⟨0, by omega, rfl, Lib.hid (Below.refl _ _), Lib.hid rfl⟩
  case round =>
    obtain ⟨k, hk, rfl, HR, HA⟩ := hrel
    by_cases hlt : k < 28
    · obtain ⟨n, hn⟩ : ∃ n, nms[k]? = some n := ⟨_, List.getElem?_eq_getElem (by rw [nms_len]; exact hlt)⟩
      obtain ⟨-, ad, e0, c0⟩ := (HX.out.below HR.out).at hn
      cases e0
      rw [Addr.add_mid, Nat.zero_add] at c0
      have hnz := nms_size n (List.mem_of_getElem? hn)
      have hA := Lib.hid (rsmall_any n · (by omega))
      have HE := Lib.hid (small_eq (a := n.data.toList) (b := s.data.toList))
      have HAT := Lib.hid (alike_turn s.data.toList n.data.toList)
      have HSN := Lib.hid (any_snoc (p := fun n => alike s.data.toList n.data.toList) hn)
      have HHR := Lib.hid (any_here (p := fun n : ByteArray => alike s.data.toList n.data.toList) hn)
      clear hn
      generalize (⟨(small n.data.toList).toArray⟩ : ByteArray) = sn at *
      generalize (⟨(small s.data.toList).toArray⟩ : ByteArray) = ss at *
      cases hal : alike n.data.toList s.data.toList
      · have hE : (sn.toList == ss.toList) = false := by rw [HE.out, hal]
        have HAL := Lib.hid hal
        clear hal
        go_wp2_with fail
        refine (hA.out _).mono ?_
        rintro e w2 ⟨rfl, hb2⟩
        replace hb2 := Lib.hid (ahead HR.out hb2)
        go_wp2_with fail
        refine (hB.out _).mono ?_
        rintro e w3 ⟨rfl, hb3⟩
        replace hb3 := Lib.hid (ahead hb2.out hb3)
        go_wp2_with fail
        go_roundw
        case rel => exact ⟨k + 1, by omega, by go_num, hb3, Lib.hid (by rw [HSN.out, HA.out, HAT.out, HAL.out]; rfl)⟩
        case measure => simp [intOf]; omega
      · have hE : (sn.toList == ss.toList) = true := by rw [HE.out, hal]
        have HAL := Lib.hid hal
        clear hal
        go_wp2_with fail
        refine (hA.out _).mono ?_
        rintro e w2 ⟨rfl, hb2⟩
        replace hb2 := Lib.hid (ahead HR.out hb2)
        go_wp2_with fail
        refine (hB.out _).mono ?_
        rintro e w3 ⟨rfl, hb3⟩
        replace hb3 := Lib.hid (ahead hb2.out hb3)
        go_wp2_with fail
        go_ret
        exact ⟨ret_bool (show true = forb s from (HHR.out (by rw [HAT.out, HAL.out])).symm), ahead HW.out hb3.out⟩
    · obtain rfl : k = 28 := by omega
      go_wp2_with fail
      go_ret
      exact ⟨ret_bool (show false = forb s from HA.out.symm), ahead HW.out HR.out⟩

set_option maxHeartbeats 4000000 in
theorem rpart_any (b : Bool) (l : List Fld) (p : Option Addr) (c : Nat) (w : World) (hF : FS w (.slice p l.length c) l) (hl : l.length ≤ 1000000) (hfs : ∀ f ∈ l, f.name.size ≤ 1099511627776) :
    Calls Tryz.prog 31 #[.slice p l.length c, .bool b] w fun e w' => ∃ v, e = .returned v ∧ FS w' v (sel b l) ∧ Below w.heap.size w w' := by
  have HF := Lib.hid hF
  have HFS := Lib.hid hfs
  clear hF hfs
  go_enter Tryz.func31, Tryz.ntmps31
  go_wp2_with fail
  go_loopw [5, 6] (fun v i wr => ∃ (k : Nat), k ≤ l.length ∧ i = .int .i64 k ∧ Hid (ToldF w wr v (sel b (l.take k)))) (fun _ i _ => l.length - (intOf i).toNat)
  case atStart => exact ⟨0, Nat.zero_le _, rfl, Lib.hid ⟨World.ownsRow_nil _ _ _ _, Below.refl _ _⟩⟩
  case round =>
    obtain ⟨k, hk, rfl, HT⟩ := hrel
    by_cases hlt : k < l.length
    · obtain ⟨f, hf⟩ : ∃ f, l[k]? = some f := ⟨_, List.getElem?_eq_getElem hlt⟩
      have Hf := Lib.hid hf
      obtain ⟨-, ad, rfl, c0, c1⟩ := ((HF.out).below HT.out.below).at hf
      have hfz := HFS.out f (List.mem_of_getElem? hf)
      have HS := Lib.hid (sel_take b hf)
      have hx := sel_take_len b l k
      have HFO : Hid (∀ W, _) := Lib.hid fun W => rforb_any f.name W hfz
      rw [show forb f.name = bad f from rfl] at HFO
      generalize sel b (l.take k) = xs at *
      have k1 : (0 : Int) ≤ (k : Int) := by omega
      have k2 : (k : Int) < (l.length : Int) := by omega
      clear hf
      by_cases hb : bad f = b
      · rw [if_pos hb] at HS
        rw [hb] at HFO
        clear hb
        obtain ⟨x, y⟩ := f
        have hbb : (b == b) = true := by cases b <;> rfl
        go_wp2_with fail
        refine (HFO.out _).mono ?_
        rintro e w1 ⟨rfl, hb1⟩
        replace HT := Lib.hid (HT.out.next hb1)
        have d0 := cell_below c0 hb1
        have d1 := cell_below c1 hb1
        obtain ⟨v', w2, r0, r1⟩ := HT.out.more ⟨x, y⟩ 38 (by omega)
        have R0 := Lib.hid r0
        have R1 := Lib.hid r1
        clear r0 r1 hb1 c0 c1 HFO
        go_wp2_with (at_builtin; refine wpList_append_is rfl (.tmp 21) (.tmp 26) 38 rfl _ _ _ _ rfl rfl R0.out ?_)
        go_roundw
        case rel => exact ⟨k + 1, by omega, by go_num, Lib.hid (by rw [HS.out]; exact R1.out)⟩
        case measure => simp [intOf]; omega
      · rw [if_neg hb, List.append_nil] at HS
        have hbb : (bad f == b) = false := beq_eq_false_iff_ne.2 hb
        clear hb
        generalize bad f = g at *
        obtain ⟨x, y⟩ := f
        go_wp2_with fail
        refine (HFO.out _).mono ?_
        rintro e w1 ⟨rfl, hb1⟩
        replace HT := Lib.hid (HT.out.next hb1)
        clear hb1 c0 c1 HFO
        go_wp2_with fail
        go_roundw
        case rel => exact ⟨k + 1, by omega, by go_num, Lib.hid (by rw [HS.out]; exact HT.out)⟩
        case measure => simp [intOf]; omega
    · obtain rfl : k = l.length := by omega
      rw [List.take_length] at HT
      go_wp2_with fail
      go_ret
      exact ⟨_, rfl, RS.of_own HT.out.own, HT.out.below⟩

end Go.Proofs.YtilebfpaibajcaaGreatDoor
