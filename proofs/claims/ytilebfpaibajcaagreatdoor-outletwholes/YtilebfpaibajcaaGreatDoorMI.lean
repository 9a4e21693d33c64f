/- MI: FiltSeq, MarkMem, KptMem, OctetSmall in one. -/
import Derived.Test.YtilebfpaibajcaaGreatDoorFiltTable
import Derived.Test.YtilebfpaibajcaaGreatDoorMC
import Derived.Deep.RegionLaw
import Derived.Shelf.RegionOpen
import Derived.Shelf.Abstract
import Derived.TacticsInMore
import Derived.LoopNIn
import Derived.LoopIn
import Derived.OwnWalkIn
import Derived.Sort.QuietIn
import Derived.Shelf.AbstractIn
import Derived.Stop.RegionWithIn
import Derived.Test.YtilebfpaibajcaaGreatDoorOctetTrim
import Derived.Lib.ConvBytes
/- The iterator over the names that may not be trailers. -/
namespace Go.Proofs.YtilebfpaibajcaaGreatDoor
open Go.ChangeShapes Go.WideShapes Go.ChangeAt Go.RowKit
open Go.Shelf
open Oc Fl Ft
set_option linter.unusedVariables false
set_option maxRecDepth 100000

theorem names_any (w : World) : Calls Tryz.prog 49 #[] w fun e w' => e = .returned (.func (.func 63) #[] #[]) ∧ w' = w := by
  go_enter Tryz.func49, Tryz.ntmps49
  go_wp2_with fail
  go_ret
  exact ⟨rfl, rfl⟩

/-- A load whose run is known, as a step of a walk. -/
theorem wpListIn_load_run {F : Fence} {n : Nat} {P : Program} {w : World} {ops : Array Oper} {rest : List Oper} {o : Oper} {a : Act} {Q : Exit → Act → World → Prop}
    (hg : o.guard = none) (ty : TypeId) (x : Operand) (hop : o.op = Op.load ty x) (p v : Value) (hx : a.eval x = p) (hrun : (Instr.loadAt ty p).run P w = .ok v w)
    (hK : wpListIn F n P ops Q rest (a.put o.dst v) w) : wpListIn F n P ops Q (o :: rest) a w := by
  refine wpListIn_plain hg fun K hK' => ?_
  unfold Oper.wpIn
  refine ⟨?_, ?_⟩
  · simp [Oper.about, hop]
  · rw [Oper.semAt_plain F _ _ (by rw [hop]; intro c hc'; cases hc')]
    simp only [execOp, hop, hx, Sem.run_bind, hrun, Result.andThen_ok, Sem.run_pure]
    exact hK' _ _ hK

section
attribute [local go_sem] Oper.semAt_some
set_option maxHeartbeats 4000000 in
theorem names_seq : Seq Tryz.prog 63 #[] nmV Tbl False := by
  intro l J Jx W hJ hJx hSt hY h0
  have HY := Lib.hid hY
  have hl := (hSt 0 W h0).load
  have HI : Hid (∀ {k : Nat} {n : ByteArray}, nms[k]? = some n → ∀ W : World, (Instr.index 126 (.agg (tv nms).toArray) (.int .i64 k)).run Tryz.prog W = .ok (.string n) W) := Lib.hid name_at
  generalize (Value.agg (tv nms).toArray) = tab at hl HI
  clear hY hJ hJx hSt
  refine callsIn_of_wp Tryz.func63 rfl trivial ?_ rfl
  simp only [Tryz.ntmps63, List.size_toArray, List.length_cons, List.length_nil, Nat.reduceAdd, Nat.reduceSub, Array.replicate_succ, Array.replicate_zero, List.push_toArray, List.append_toArray, List.nil_append, List.cons_append]
  gi_step
  gi_step
  gi_step
  refine wpListIn_load_run rfl _ _ rfl _ tab rfl hl ?_
  gi_wp2_with fail
  gi_loopw [3, 5] (fun _ i wr => ∃ (k : Nat), k ≤ 28 ∧ i = .int .i64 k ∧ J k wr ∧ W.heap.size ≤ wr.heap.size) (fun _ i _ => 28 - (intOf i).toNat)
  case atStart => exact ⟨0, by omega, rfl, h0, Nat.le_refl _⟩
  case round =>
    obtain ⟨k, hk, rfl, hJn, hz⟩ := hrel
    clear hl
    by_cases hlt : k < 28
    · obtain ⟨n, hn⟩ : ∃ n, nms[k]? = some n := ⟨_, List.getElem?_eq_getElem (by rw [nms_len]; exact hlt)⟩
      have hx := HI.out hn
      obtain ⟨fn, tm, asg, bo, hy, hR⟩ := HY.out k wr #[.string n] hJn (by omega) (nmV_get hn)
      clear hn
      gi_wp2_with fail
      refine ⟨rfl, hR.mono ?_⟩
      rintro e W3 (⟨rfl, hJ3, hs3, -⟩ | ⟨rfl, hx3⟩)
      · clear hy
        gi_wp2_with fail
        go_roundw
        case rel => exact ⟨k + 1, by omega, by go_num, hJ3, by omega⟩
        case measure => simp [intOf]; omega
      · clear hy
        gi_wp2_with fail
        refine bodyPost_ret (results_none rfl _ _ _) rfl ?_
        exact ⟨⟨_, rfl⟩, .inr ⟨k + 1, by show k + 1 ≤ 28; omega, hx3⟩⟩
    · obtain rfl : k = 28 := by omega
      gi_wp2_with fail
      refine bodyPost_end (results_none rfl _ _ _) rfl ?_
      exact ⟨⟨_, rfl⟩, .inl hJn⟩
end

end Go.Proofs.YtilebfpaibajcaaGreatDoor

/- Marks of several loops over iterators in one call, and the way out: of no program. -/
namespace Go.Proofs.YtilebfpaibajcaaGreatDoor
open Go.RowKit
open Go.Shelf
set_option linter.unusedVariables false
set_option maxRecDepth 100000
attribute [local go_sem] Oper.semAt_some

/-- A loop's mark. -/
def mk (D : Nat) : Deferred := { target := .collected D, args := #[] }
/-- The marks' blocks: new ones, none twice, nothing deferred in them. -/
structure Marks (B : Nat) (ds : List Nat) (W : World) : Prop where
  at_ : ∀ D ∈ ds, B ≤ D ∧ W.heap[D]? = some (.deferred (some []))
  once : ds.Nodup
theorem Marks.nil (B : Nat) (W : World) : Marks B [] W := ⟨(fun _ h => by cases h), List.nodup_nil⟩
theorem Marks.keep {B : Nat} {ds : List Nat} {W W' : World} (h : Marks B ds W) (hk : ∀ D : Nat, W.heap[D]? = some (Obj.deferred (some [])) → W'.heap[D]? = W.heap[D]?) : Marks B ds W' :=
  ⟨fun D hD => ⟨(h.at_ D hD).1, (hk D (h.at_ D hD).2).trans (h.at_ D hD).2⟩, h.once⟩
theorem Marks.cons {B D : Nat} {ds : List Nat} {W : World} (h : Marks B ds W) (hB : B ≤ D) (hD : W.heap[D]? = some (.deferred (some []))) (hn : ∀ D' ∈ ds, D' < D) : Marks B (D :: ds) W :=
  ⟨fun D' hD' => by rcases List.mem_cons.1 hD' with rfl | h'
                    · exact ⟨hB, hD⟩
                    · exact h.at_ D' h', List.nodup_cons.2 ⟨fun h' => Nat.lt_irrefl _ (hn D h'), h.once⟩⟩
/-- What the way out leaves: all but marks. -/
structure Off (B : Nat) (W W' : World) : Prop where
  below : Below B W W'
  cells : ∀ (k : Nat) (cs : Array Value) (t : TypeId) (f : Nat × Nat), W.heap[k]? = some (.cells cs t f) → W'.heap[k]? = some (.cells cs t f)
theorem Off.refl (B : Nat) (W : World) : Off B W W := ⟨Below.refl _ _, fun _ _ _ _ h => h⟩
theorem left_marks {P : Program} {fn : Func} {R : Ending → World → Prop} {a : Act} {W : World} {B : Nat} {v : Value} (ds : List Nat) (hB : B ≤ W.heap.size) (hd : a.defers = ds.map mk) (hm : Marks B ds W)
    (hr : ∀ W', (results fn a.tmps).run P W' = .ok v W') (hR : ∀ W', Off B W W' → R (.returned v) W') {e : Exit} (he : e = .ret ∨ e = .normal) : bodyPostM Fence.wide 0 P fn R e a W := by
  have key : ∀ (ds : List Nat) (W : World), B ≤ W.heap.size → Marks B ds W → (∀ W', Off B W W' → R (.returned v) W') → LeavesInM Fence.wide 0 P fn a.tmps R (ds.map mk) .returning W := by
    intro ds
    induction ds with
    | nil => exact fun W _ _ hR => ⟨v, hr W, hR W (Off.refl _ _)⟩
    | cons D ds ih =>
      intro W hz hm hR
      obtain ⟨h1, h2⟩ := hm.at_ D List.mem_cons_self
      obtain ⟨hn, ho⟩ := List.nodup_cons.1 hm.once
      refine ⟨by simp, .inl ⟨D, _, rfl, run_takeDeferred h2, ih _ (by simpa using hz) ⟨fun D' hD' => ⟨(hm.at_ D' (List.mem_cons_of_mem _ hD')).1, ?_⟩, ho⟩ fun W' hW' => hR W' ⟨?_, fun k cs t f hk => hW'.cells k cs t f ?_⟩⟩⟩
      · rw [World.putObj_heap_other (fun e => hn (by rw [← e]; exact hD'))]
        exact (hm.at_ D' (List.mem_cons_of_mem _ hD')).2
      · exact Below.trans (show Below B W (W.putObj D (Obj.deferred none)) from ⟨rfl, rfl, rfl, by simp, fun k hk => World.putObj_heap_other (by omega)⟩) hW'.below
      · rw [World.putObj_heap_other (fun e => by rw [e, h2] at hk; cases hk)]
        exact hk
  rcases he with rfl | rfl <;> (show LeavesInM Fence.wide 0 P fn a.tmps R a.defers .returning W; rw [hd]; exact key ds W hB hm hR)
/-- The same, where the results are read off cells that stand. -/
theorem left_marks_at {P : Program} {fn : Func} {R : Ending → World → Prop} {a : Act} {W : World} {B : Nat} {v : Value} (ds : List Nat) (hB : B ≤ W.heap.size) (hd : a.defers = ds.map mk) (hm : Marks B ds W)
    (hR : ∀ W', Off B W W' → (results fn a.tmps).run P W' = .ok v W' ∧ R (.returned v) W') {e : Exit} (he : e = .ret ∨ e = .normal) : bodyPostM Fence.wide 0 P fn R e a W := by
  have key : ∀ (ds : List Nat) (W : World), B ≤ W.heap.size → Marks B ds W → (∀ W', Off B W W' → (results fn a.tmps).run P W' = .ok v W' ∧ R (.returned v) W') → LeavesInM Fence.wide 0 P fn a.tmps R (ds.map mk) .returning W := by
    intro ds
    induction ds with
    | nil => exact fun W _ _ hR => ⟨v, (hR W (Off.refl _ _)).1, (hR W (Off.refl _ _)).2⟩
    | cons D ds ih =>
      intro W hz hm hR
      obtain ⟨h1, h2⟩ := hm.at_ D List.mem_cons_self
      obtain ⟨hn, ho⟩ := List.nodup_cons.1 hm.once
      refine ⟨by simp, .inl ⟨D, _, rfl, run_takeDeferred h2, ih _ (by simpa using hz) ⟨fun D' hD' => ⟨(hm.at_ D' (List.mem_cons_of_mem _ hD')).1, ?_⟩, ho⟩ fun W' hW' => hR W' ⟨?_, fun k cs t f hk => hW'.cells k cs t f ?_⟩⟩⟩
      · rw [World.putObj_heap_other (fun e => hn (by rw [← e]; exact hD'))]
        exact (hm.at_ D' (List.mem_cons_of_mem _ hD')).2
      · exact Below.trans (show Below B W (W.putObj D (Obj.deferred none)) from ⟨rfl, rfl, rfl, by simp, fun k hk => World.putObj_heap_other (by omega)⟩) hW'.below
      · rw [World.putObj_heap_other (fun e => by rw [e, h2] at hk; cases hk)]
        exact hk
  rcases he with rfl | rfl <;> (show LeavesInM Fence.wide 0 P fn a.tmps R a.defers .returning W; rw [hd]; exact key ds W hB hm hR)
theorem Off.own {B : Nat} {W W' : World} (h : Off B W W') {b n : Nat} {e : TypeId} {sz : Nat} {v : Value} {xs : List Value} (ho : W.ownsRow b e sz v n xs) : W'.ownsRow b e sz v n xs := by
  refine ⟨ho.1, ?_⟩
  rcases ho.2 with h' | ⟨g, cap, cur, rfl, hb, hh, rest⟩
  · exact .inl h'
  · exact .inr ⟨g, cap, cur, rfl, hb, h.cells _ _ _ _ hh, rest⟩

end Go.Proofs.YtilebfpaibajcaaGreatDoor

/- Cells that loops over iterators keep. -/
namespace Go.Proofs.YtilebfpaibajcaaGreatDoor
open Go.ChangeShapes Go.WideShapes Go.ChangeAt Go.RowKit
open Go.Shelf
set_option linter.unusedVariables false
set_option maxRecDepth 100000
attribute [local go_sem] Oper.semAt_some

/-- Blocks of a call's own, behind the loops ds. -/
structure Kpt (w : World) (L : List (Nat × Obj)) (ds : List Nat) (W : World) : Prop where
  below : Below w.heap.size w W
  marks : Marks w.heap.size ds W
  at_ : ∀ p ∈ L, w.heap.size ≤ p.1 ∧ W.heap[p.1]? = some p.2
theorem Kpt.lt {w W : World} {L : List (Nat × Obj)} {ds : List Nat} (h : Kpt w L ds W) : (∀ p ∈ L, p.1 < W.heap.size) ∧ ∀ D ∈ ds, D < W.heap.size :=
  ⟨fun p hp => (Array.getElem?_eq_some_iff.1 (h.at_ p hp).2).1, fun D hD => (Array.getElem?_eq_some_iff.1 (h.marks.at_ D hD).2).1⟩
theorem Kpt.keep {w W W' : World} {L : List (Nat × Obj)} {ds : List Nat} (h : Kpt w L ds W) (hb : Below w.heap.size w W') (hk : ∀ r, (∃ p ∈ L, p.1 = r) ∨ r ∈ ds → W'.heap[r]? = W.heap[r]?) : Kpt w L ds W' :=
  ⟨hb, ⟨fun D hD => ⟨(h.marks.at_ D hD).1, (hk D (.inr hD)).trans (h.marks.at_ D hD).2⟩, h.marks.once⟩, fun p hp => ⟨(h.at_ p hp).1, (hk p.1 (.inl ⟨p, hp, rfl⟩)).trans (h.at_ p hp).2⟩⟩
theorem Kpt.next {w W W' : World} {L : List (Nat × Obj)} {ds : List Nat} (h : Kpt w L ds W) (hb : Below W.heap.size W W') : Kpt w L ds W' :=
  h.keep (ahead h.below hb) fun r hr => hb.block r (by
    obtain ⟨h1, h2⟩ := h.lt
    rcases hr with ⟨p, hp, rfl⟩ | hr
    · exact h1 p hp
    · exact h2 r hr)
theorem Kpt.but {w A B : World} {L : List (Nat × Obj)} {ds : List Nat} {D : Nat} (h : Kpt w L ds A) (hB : But D A B) (hw : w.heap.size ≤ D) (hL : ∀ p ∈ L, p.1 < D) (hd : ∀ x ∈ ds, x < D) : Kpt w L ds B :=
  h.keep (hB.below h.below hw h.below.size) fun r hr => by
    obtain ⟨h1, h2⟩ := h.lt
    rcases hr with ⟨p, hp, rfl⟩ | hr
    · have := hL p hp; exact hB.block _ (h1 p hp) (by omega) (by omega)
    · have := hd r hr; exact hB.block r (h2 r hr) (by omega) (by omega)
/-- One of the blocks, of one cell, is written. -/
theorem Kpt.put {w W : World} {L L' : List (Nat × Obj)} {ds : List Nat} (h : Kpt w L ds W) {r : Nat} {u : Value} {t : TypeId} (v : Value) (hm : (r, .cells #[u] t (0, 0)) ∈ L) (hL : ∀ p ∈ L', p = (r, .cells #[v] t (0, 0)) ∨ p.1 ≠ r ∧ p ∈ L) : Kpt w L' ds (W.setCell ⟨r, 0, none⟩ v) := by
  obtain ⟨hr0, hr⟩ := h.at_ _ hm
  refine ⟨h.below.setCell hr0 _, ⟨fun D hD => ⟨(h.marks.at_ D hD).1, (Below.heap_setCell _ _ _ _ (fun e => ?_)).trans (h.marks.at_ D hD).2⟩, h.marks.once⟩, fun p hp => ?_⟩
  · have := (h.marks.at_ D hD).2
    rw [e] at this
    rw [this] at hr; cases hr
  · rcases hL p hp with rfl | ⟨hne, hp'⟩
    · exact ⟨hr0, heap_set v hr⟩
    · exact ⟨(h.at_ p hp').1, (Below.heap_setCell _ _ _ _ hne).trans (h.at_ p hp').2⟩
theorem Kpt.mark {w W : World} {L : List (Nat × Obj)} {ds : List Nat} {D : Nat} (h : Kpt w L ds W) (hw : w.heap.size ≤ D) (hD : W.heap[D]? = some (.deferred (some []))) (hd : ∀ x ∈ ds, x < D) : Kpt w L (D :: ds) W :=
  ⟨h.below, h.marks.cons hw hD hd, h.at_⟩
theorem Kpt.less {w W : World} {L L' : List (Nat × Obj)} {ds : List Nat} (h : Kpt w L ds W) (hL : ∀ p ∈ L', p ∈ L) : Kpt w L' ds W := ⟨h.below, h.marks, fun p hp => h.at_ p (hL p hp)⟩

theorem undrew {W W' : World} (h : Below W.drew.heap.size W.drew W') : Below W.heap.size W W' := ⟨h.os, h.tape, h.output, h.size, h.block⟩
def B1 (v : Value) (t : TypeId) : Obj := .cells #[v] t (0, 0)

end Go.Proofs.YtilebfpaibajcaaGreatDoor

/- What octet.Small, octet.Alike, and the document's Small answer. -/
namespace Go.Proofs.YtilebfpaibajcaaGreatDoor
open Go.ChangeShapes Go.WideShapes Go.ChangeAt Go.RowKit
open Oc
set_option linter.unusedVariables false
set_option maxRecDepth 100000

/-- A text's bytes in a row of the call's own, the first k of them in small letters. -/
def Row (w wr : World) (s : ByteArray) (k : Nat) : Prop := ∃ cs f0 f1, wr.heap[w.heap.size]? = some (.cells cs 5 (f0, f1)) ∧ s.size ≤ f0 ∧
  (∀ j (h : j < s.size), cs[j]? = some (.int .u8 ((if j < k then smlB s[j] else s[j]).toNat : Int))) ∧ Below w.heap.size w wr

theorem Row.start (w : World) (s : ByteArray) : Row w (Lib.bytesWorld w 5 s) s 0 := by
  refine ⟨_, _, _, Lib.bytesWorld_at_new w 5 s, ?_, ?_, ?_⟩
  · simp [Lib.bytesCells]
  · intro j h; simp [Lib.bytesCells, Array.getElem?_append, h, ByteArray.getElem_eq_getElem_data]
  · exact ⟨rfl, rfl, rfl, by rw [Lib.bytesWorld_size]; omega, fun j hj => Lib.bytesWorld_at_old w _ s j hj⟩

theorem Row.below {w wr : World} {s : ByteArray} {k : Nat} (h : Row w wr s k) : Below w.heap.size w wr := by
  obtain ⟨_, _, _, _, _, _, hb⟩ := h; exact hb
theorem Row.cell {w wr : World} {s : ByteArray} {k : Nat} (h : Row w wr s k) (hk : k < s.size) : wr.cell? ⟨w.heap.size, k, none⟩ = some (.int .u8 (s[k].toNat : Int)) := by
  obtain ⟨cs, f0, f1, hh, _, hc, _⟩ := h
  rw [cell_of_row wr _ k cs _ _ hh, hc k hk]; simp
theorem Row.frozen {w wr : World} {s : ByteArray} {k : Nat} (h : Row w wr s k) (hk : k < s.size) : wr.frozen? ⟨w.heap.size, k, none⟩ = false := by
  obtain ⟨cs, f0, f1, hh, hf, _, _⟩ := h
  simp [World.frozen?, hh]; omega
theorem Row.other {w wr : World} {s : ByteArray} {k : Nat} (h : Row w wr s k) (hk : k < s.size) (hb : smlB s[k] = s[k]) : Row w wr s (k + 1) := by
  obtain ⟨cs, f0, f1, hh, hf, hc, hB⟩ := h
  refine ⟨cs, f0, f1, hh, hf, fun j hj => ?_, hB⟩
  rw [hc j hj]
  by_cases h1 : j = k
  · subst h1; simp [hb]
  · simp [show (j < k + 1) = (j < k) from propext (by omega)]
theorem Row.great {w wr : World} {s : ByteArray} {k : Nat} (h : Row w wr s k) (hk : k < s.size) {x : Value} (hx : x = .int .u8 ((smlB s[k]).toNat : Int)) : Row w (wr.setCell ⟨w.heap.size, k, none⟩ x) s (k + 1) := by
  obtain ⟨cs, f0, f1, hh, hf, hc, hB⟩ := h
  subst hx
  refine ⟨cs.setIfInBounds k (.int .u8 ((smlB s[k]).toNat : Int)), f0, f1, ?_, hf, fun j hj => ?_, hB.setCell (Nat.le_refl _) _⟩
  · simp [World.setCell, Array.getElem?_modify, hh]
  · rw [Array.getElem?_setIfInBounds]
    by_cases h1 : k = j
    · subst h1
      have h2 : k < cs.size := by
        have := hc k hj
        exact (Array.getElem?_eq_some_iff.1 this).1
      simp [h2]
    · rw [if_neg h1, hc j hj]
      simp [show (j < k + 1) = (j < k) from propext (by omega)]
theorem Row.conv {w wr : World} {s : ByteArray} {k cap : Nat} (h : Row w wr s k) (hk : ¬ k < s.size) : (convert 35 9 (.slice (some ⟨w.heap.size, 0, none⟩) s.size cap)).run Tryz.prog wr = .ok (.string ⟨(small s.data.toList).toArray⟩) wr := by
  obtain ⟨cs, f0, f1, hh, hf, hc, hB⟩ := h
  have hl : s.size = (small s.data.toList).length := by rw [small_len, blen]
  rw [hl]
  refine run_convert_bytes_back (P := Tryz.prog) wr 35 9 5 ⟨w.heap.size, 0, none⟩ cap (small s.data.toList) Tryz.underlying35 Tryz.underlying5 Tryz.underlying9 (fun j hj => ?_)
  have hj' : j < s.size := by omega
  have e : (⟨w.heap.size, 0, none⟩ : Addr).add j = ⟨w.heap.size, j, none⟩ := by unfold Addr.add; split <;> simp_all
  rw [e, cell_of_row wr _ j cs _ _ hh, hc j hj']
  simp [small, show j < k by omega, ByteArray.getElem_eq_getElem_data]

set_option maxHeartbeats 800000 in
theorem small_any (s : ByteArray) (w : World) (hs : s.size ≤ 1099511627776) :
    Calls Tryz.prog 77 #[.string s] w fun e w' => e = .returned (.string ⟨(small s.data.toList).toArray⟩) ∧ Below w.heap.size w w' := by
  have hc := Lib.run_convert_string_bytes (P := Tryz.prog) w 9 35 5 s Tryz.underlying9 Tryz.underlying35 Tryz.underlying5
  generalize grownCap w s.size 0 5 = cap at hc
  have HS := Lib.hid (Row.start w s)
  generalize Lib.bytesWorld w 5 s = w1 at hc HS
  go_enter Tryz.func77, Tryz.ntmps77
  go_wp2_with fail
  go_loopw [10] (fun i wr => ∃ k : Nat, k ≤ s.size ∧ i = .int .i64 k ∧ Hid (Row w wr s k)) (fun i _ => s.size - (intOf i).toNat)
  case atStart => exact ⟨0, Nat.zero_le _, rfl, HS⟩
  case round =>
    clear hc HS
    obtain ⟨k, hk, rfl, hR⟩ := hrel
    by_cases hlt : k < s.size
    · have hcell := hR.out.cell hlt
      have hfro := hR.out.frozen hlt
      have b0 := byte_lo s[k]
      have b1 := byte_hi s[k]
      by_cases hg : 65 ≤ (s[k].toNat : Int) ∧ (s[k].toNat : Int) ≤ 90
      · obtain ⟨g0, g1⟩ := hg
        go_wp2_with fail
        go_roundw
        case rel => exact ⟨k + 1, by omega, by go_num, Lib.hid (hR.out.great hlt (by rw [smlB_great _ g0 g1]; go_num))⟩
        case measure => simp [intOf]; omega
      · have HO := Lib.hid (smlB_other s[k] hg)
        by_cases g0 : 65 ≤ (s[k].toNat : Int)
        · have g1 : 90 < (s[k].toNat : Int) := by omega
          clear hg
          go_wp2_with fail
          go_roundw
          case rel => exact ⟨k + 1, by omega, by go_num, Lib.hid (hR.out.other hlt HO.out)⟩
          case measure => simp [intOf]; omega
        · clear hg
          go_wp2_with fail
          go_roundw
          case rel => exact ⟨k + 1, by omega, by go_num, Lib.hid (hR.out.other hlt HO.out)⟩
          case measure => simp [intOf]; omega
    · have hcv := hR.out.conv (cap := cap) hlt
      have HB := Lib.hid hR.out.below
      go_wp2_with fail
      go_ret
      exact ⟨rfl, HB.out⟩

theorem small_take (s : ByteArray) (k : Nat) (h : k < s.size) : small (s.data.toList.take (k + 1)) = small (s.data.toList.take k) ++ [smlB s[k]] := by
  rw [btake s k h]; unfold small; simp
theorem take_len (s : ByteArray) (k : Nat) (h : k ≤ s.size) : (small (s.data.toList.take k)).length = k := by
  rw [small_len, List.length_take, blen]; omega

set_option maxHeartbeats 1000000 in
theorem rsmall_any (s : ByteArray) (w : World) (hs : s.size ≤ 1099511627776) :
    Calls Tryz.prog 55 #[.string s] w fun e w' => e = .returned (.string ⟨(small s.data.toList).toArray⟩) ∧ Below w.heap.size w w' := by
  obtain ⟨i0, hi, hz0, hz1, hz2⟩ := info_parts byte_info
  go_enter Tryz.func55, Tryz.ntmps55
  go_wp2_with fail
  go_loopw [3, 4] (fun v i wr => ∃ (k : Nat) (l : List UInt8), k ≤ s.size ∧ i = .int .i64 k ∧ Hid (l = small (s.data.toList.take k)) ∧ wr.ownsRow w.heap.size 5 1 v l.length (bv l) ∧ Below w.heap.size w wr) (fun _ i _ => s.size - (intOf i).toNat)
  case atStart => exact ⟨0, [], Nat.zero_le _, rfl, Lib.hid (by simp [small]), World.ownsRow_nil _ _ _ _, Below.refl _ _⟩
  case round =>
    obtain ⟨k, l, hk, rfl, hl, hown, hbel⟩ := hrel
    have hsz := hbel.size
    have hlen := Lib.hid (show l.length = k by rw [hl.out, take_len s k hk])
    by_cases hlt : k < s.size
    · have b0 := byte_lo s[k]
      have b1 := byte_hi s[k]
      have HT := Lib.hid (small_take s k hlt)
      by_cases hg : 65 ≤ (s[k].toNat : Int) ∧ (s[k].toNat : Int) ≤ 90
      · obtain ⟨g0, g1⟩ := hg
        have HG := Lib.hid (smlB_great s[k] g0 g1)
        go_wp2_with (at_builtin; go_must (refine wpList_append_own _ rfl _ _ 35 rfl w.heap.size 5 i0 (.int .u8 0) 1 1 Tryz.underlying35 hi hz0 hz1 hz2 rfl (by decide) _ _ _ rfl (hown.alloc _) ⟨wr.heap.size, 0, none⟩ 1 1 [.int .u8 ((s[k].toNat : Int) + 32)] rfl rfl (cell_one_new _ _ _) (fun x hx => by simp at hx; subst hx; rfl) (by rw [hlen.out]; unfold maxLen; omega) (by rw [hlen.out]; omega) (by simp; omega) ?_; intro v' w1 hown' hgrow _))
        have R := own_step (b := smlB s[k]) (by rw [HG.out]) hbel hown hown' hgrow
        clear hown' hgrow hown
        go_wp2
        go_roundw
        case rel => exact ⟨k + 1, _, by omega, by go_num, Lib.hid (by rw [HT.out, hl.out]), R.1, R.2⟩
        case measure => simp [intOf]; omega
      · have HO := Lib.hid (smlB_other s[k] hg)
        by_cases g0 : 65 ≤ (s[k].toNat : Int)
        · have g1 : 90 < (s[k].toNat : Int) := by omega
          clear hg
          go_wp2_with (at_builtin; go_must (refine wpList_append_own _ rfl _ _ 35 rfl w.heap.size 5 i0 (.int .u8 0) 1 1 Tryz.underlying35 hi hz0 hz1 hz2 rfl (by decide) _ _ _ rfl (hown.alloc _) ⟨wr.heap.size, 0, none⟩ 1 1 [.int .u8 (s[k].toNat : Int)] rfl rfl (cell_one_new _ _ _) (fun x hx => by simp at hx; subst hx; rfl) (by rw [hlen.out]; unfold maxLen; omega) (by rw [hlen.out]; omega) (by simp; omega) ?_; intro v' w1 hown' hgrow _))
          have R := own_step (b := smlB s[k]) (by rw [HO.out]) hbel hown hown' hgrow
          clear hown' hgrow hown
          go_wp2
          go_roundw
          case rel => exact ⟨k + 1, _, by omega, by go_num, Lib.hid (by rw [HT.out, hl.out]), R.1, R.2⟩
          case measure => simp [intOf]; omega
        · clear hg
          go_wp2_with (at_builtin; go_must (refine wpList_append_own _ rfl _ _ 35 rfl w.heap.size 5 i0 (.int .u8 0) 1 1 Tryz.underlying35 hi hz0 hz1 hz2 rfl (by decide) _ _ _ rfl (hown.alloc _) ⟨wr.heap.size, 0, none⟩ 1 1 [.int .u8 (s[k].toNat : Int)] rfl rfl (cell_one_new _ _ _) (fun x hx => by simp at hx; subst hx; rfl) (by rw [hlen.out]; unfold maxLen; omega) (by rw [hlen.out]; omega) (by simp; omega) ?_; intro v' w1 hown' hgrow _))
          have R := own_step (b := smlB s[k]) (by rw [HO.out]) hbel hown hown' hgrow
          clear hown' hgrow hown
          go_wp2
          go_roundw
          case rel => exact ⟨k + 1, _, by omega, by go_num, Lib.hid (by rw [HT.out, hl.out]), R.1, R.2⟩
          case measure => simp [intOf]; omega
    · have hcv := conv_own l _ _ _ hown
      have HL := Lib.hid (show l = small s.data.toList by rw [hl.out, List.take_of_length_le (by rw [blen]; omega)])
      go_wp2_with fail
      go_ret
      exact ⟨ret_str (by rw [HL.out]), hbel⟩

set_option maxHeartbeats 400000 in
theorem alike_any (a b : ByteArray) (w : World) (ha : a.size ≤ 1099511627776) (hb : b.size ≤ 1099511627776) :
    Calls Tryz.prog 64 #[.string a, .string b] w fun e w' => e = .returned (.bool (alike a.data.toList b.data.toList)) ∧ Below w.heap.size w w' := by
  by_cases hn : a.size = b.size
  · have h1 : ((a.size : Int) == (b.size : Int)) = true := beq_iff_eq.2 (by omega)
    go_enter Tryz.func64, Tryz.ntmps64
    go_wp2_with fail
    refine (small_any a _ ha).mono ?_; rintro e w' ⟨rfl, hb1⟩
    go_wp2_with fail
    refine (small_any b _ hb).mono ?_; rintro e w'' ⟨rfl, hb2⟩
    go_wp2_with fail
    go_ret
    exact ⟨ret_bool (by unfold alike; rw [Bool.eq_iff_iff]; simp), hb1.trans (hb2.mono hb1.size)⟩
  · have h1 : ((a.size : Int) == (b.size : Int)) = false := beq_eq_false_iff_ne.2 (by omega)
    have HA := Lib.hid (alike_len (a := a.data.toList) (b := b.data.toList) (by rw [blen, blen]; exact hn))
    clear hn
    go_enter Tryz.func64, Tryz.ntmps64
    go_wp2_with fail
    go_ret
    exact ⟨ret_bool (by rw [HA.out]), Below.refl _ _⟩

end Go.Proofs.YtilebfpaibajcaaGreatDoor
