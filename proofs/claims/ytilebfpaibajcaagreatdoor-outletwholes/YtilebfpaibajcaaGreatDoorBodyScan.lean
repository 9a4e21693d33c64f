/- What body.Right, body.Scan and body.Payload answer. -/
import Derived.Test.YtilebfpaibajcaaGreatDoorLimRight
import Derived.Test.YtilebfpaibajcaaGreatDoorBodyRead
import Derived.Test.YtilebfpaibajcaaGreatDoorBodyStep
namespace Go.Proofs.YtilebfpaibajcaaGreatDoor
open Go.ChangeShapes Go.WideShapes Go.ChangeAt Go.RowKit
open Go.Shelf
open Oc Fl Bk Bd
set_option linter.unusedVariables false
set_option maxRecDepth 100000

theorem results_cell_two {fn : Func} {p u v : Tmp} {ty : TypeId} (h : fn.results = #[.cell p ty, .tmp u, .tmp v]) (tmps : Array Value) (P : Program) (w : World) :
    (results fn tmps).run P w =
      ((asAddr (tmps.getD p undef)).run P w).andThen fun a w₁ => ((loadVar ty a).run P w₁).andThen fun x w₂ => .ok (.tuple #[x, tmps.getD u undef, tmps.getD v undef]) w₂ := by
  simp only [results, h]
  simp [Sem.run_bind, Result.andThen]
theorem results_three {P : Program} {fn : Func} {p u v : Tmp} {ty : TypeId} (h : fn.results = #[.cell p ty, .tmp u, .tmp v]) (tmps : Array Value) (w : World) (g : Nat) (t : TypeId) (cs : Array Value) (fr : Nat × Nat) (d : TypeDesc)
    (hp : tmps.getD p undef = .pointer (some ⟨g, 0, none⟩)) (hg : w.heap[g]? = some (.cells cs t fr))
    (hu : P.underlying ty = some d) (hd : (match d with | .struct _ | .array _ _ => true | _ => false) = true) (hi : (P.info? ty).map (·.size) = some cs.size) :
    (results fn tmps).run P w = .ok (.tuple #[.agg cs, tmps.getD u undef, tmps.getD v undef]) w := by
  rw [results_cell_two h]
  simp [hp, asAddr, run_loadVar_row w g t ty cs fr d hg hu hd hi, Result.andThen]

/-- A body as a value. -/
def bodyv (dv gv : Value) (n : Nat) : Value := .agg #[dv, gv, .int .i64 (n : Int)]
/-- What scanning answers. -/
def ScanQ (T : List UInt8) (l : Lim) (w : World) (x : Ending) (w' : World) : Prop :=
  ∃ (s' : St) (k e : Nat) (dv gv : Value), go l (sz [] 0 0) T 0 = (s', k, e) ∧ x = .returned (.tuple #[bodyv dv gv (if e = 0 then k else 0), .int .i64 (k : Int), .int .i64 (e : Int)]) ∧ Below w.heap.size w w' ∧ RD w' dv (if e = 0 then s'.data else []) ∧ FS w' gv (if e = 0 then s'.fields else [])

abbrev zbody : Array Value := #[.slice none 0 0, .slice none 0 0, .int .i64 0]

abbrev obBody : Obj := .cells #[.slice none 0 0, .slice none 0 0, .int .i64 0] 82
theorem three_set8 {A : World} {R : Nat} {x y z : Value} {t : TypeId} (h : A.heap[R]? = some (.cells #[x, y, z] t (0, 0))) (u v w : Value) :
    (((A.setCell ⟨R, 0, none⟩ u).setCell ⟨R, 1, none⟩ v).setCell ⟨R, 2, none⟩ w).heap[R]? = some (.cells #[u, v, w] t (0, 0)) := heap_set w (heap_set v (heap_set u h))
theorem below_set3 {B : Nat} {A W : World} (h : Below B A W) {R : Nat} (hR : B ≤ R) (u v w : Value) : Below B A (((W.setCell ⟨R, 0, none⟩ u).setCell ⟨R, 1, none⟩ v).setCell ⟨R, 2, none⟩ w) :=
  ((h.setCell hR _).setCell hR _).setCell hR _

set_option maxHeartbeats 2000000 in
theorem scan_bad (tv : Value) (a b c : Int) (w : World) (h : okLs a b c = false) :
    Calls Tryz.prog 38 #[tv, lim3 a b c] w fun e w' => e = .returned (.tuple #[.agg zbody, .int .i64 0, .int .i64 1]) ∧ Below w.heap.size w w' := by
  have hR : Hid (∀ W, _) := Lib.hid fun W => right8_any a b c W
  rw [h] at hR
  clear h
  unfold lim3
  obtain ⟨w0, hw0⟩ : ∃ w0, (w.alloc (obLim a b c)).alloc obBody = w0 := ⟨_, rfl⟩
  have z0 : w0.heap.size = w.heap.size + 2 := by rw [← hw0]; simp
  have b0 : Below w.heap.size w w0 := by rw [← hw0]; exact ahead (below_box _ _) (below_box _ _)
  have g0 : w0.heap[w.heap.size + 1]? = some (.cells zbody 82 (0, 0)) := by rw [← hw0]; exact heap_alloc2_new _ _ _
  have W0 := Lib.hid hw0
  clear hw0
  go_enter Tryz.func38, Tryz.ntmps38
  go_wp2_with fail
  rw [W0.out]
  refine (hR.out _).mono ?_
  rintro e w1 ⟨rfl, hb1⟩
  have g1 := (hb1.block _ (by omega)).trans g0
  obtain ⟨⟨c0, c1, c2⟩, f0, f1, f2⟩ := three_cells8 g1
  have G1 := Lib.hid (three_set8 g1 (.slice none 0 0) (.slice none 0 0) (.int .i64 0))
  have HB := Lib.hid (below_set3 (ahead b0 hb1) (R := w.heap.size + 1) (by omega) (.slice none 0 0) (.slice none 0 0) (.int .i64 0))
  clear g1 g0 hb1 b0 W0 hR
  go_wp2_with fail
  refine bodyPost_ret (results_three rfl _ _ (w.heap.size + 1) 82 _ (0, 0) _ rfl G1.out Tryz.underlying82 rfl (by kernel_rfl)) rfl ?_
  exact ⟨rfl, HB.out⟩

theorem okLs_lim {l : Lim} (h : l.ext ≤ 65536 ∧ l.fields ≤ 65536 ∧ l.bytes ≤ 65536) : okLs (l.ext : Int) (l.fields : Int) (l.bytes : Int) = true := by
  unfold okLs okL; simp; omega
theorem limv_lim3 (l : Lim) : limv l = lim3 (l.ext : Int) (l.fields : Int) (l.bytes : Int) := rfl

/-- A reader that was just made. -/
theorem rat_new {w : World} {tv : Value} {T : List UInt8} {l : Lim} (hT : RD w tv T) (hl : T.length ≤ 1099511627776) (hlm : l.ext ≤ 65536 ∧ l.fields ≤ 65536 ∧ l.bytes ≤ 65536) (hv : ∀ g, tv.ownBlock = some g → g < w.heap.size) :
    RAt (w.heap.size + 1) w.heap.size tv T l 0 (.slice none 0 0) [] (w.alloc (.cells #[tv, .int .i64 (l.ext : Int), .int .i64 (l.fields : Int), .int .i64 (l.bytes : Int), .int .i64 0, .slice none 0 0, .slice none 0 0] 111)) :=
  ⟨World.alloc_heap_new w _, hT.below (below_box _ _), fun g hg => ⟨by have := hv g hg; omega, by have := hv g hg; omega⟩, World.ownsRow_nil _ _ _ _, ⟨by omega, by simp⟩, ⟨hl, Nat.zero_le _, Nat.le_refl _⟩, hlm⟩
/-- What lay ahead of the reader lies as it lay. -/
theorem Solo.below {A W : World} {R : Nat} (h : Solo A.heap.size R A W) {A0 : World} (hb : Below A0.heap.size A0 A) (hR : A0.heap.size ≤ R) : Below A0.heap.size A0 W :=
  ⟨h.os.trans hb.os, h.tape.trans hb.tape, h.output.trans hb.output, Nat.le_trans hb.size h.size, fun k hk => (h.block k (Nat.lt_of_lt_of_le hk hb.size) (by omega)).trans (hb.block k hk)⟩

set_option maxHeartbeats 8000000 in
theorem scan8_any {tv : Value} {T : List UInt8} {l : Lim} (w : World) (hT : RD w tv T) (hl : T.length ≤ 1099511627776) (hlm : l.ext ≤ 65536 ∧ l.fields ≤ 65536 ∧ l.bytes ≤ 65536) (hv : ∀ g, tv.ownBlock = some g → g < w.heap.size) (hsp : Spans w) (hbd : Bound w) :
    Calls Tryz.prog 38 #[tv, limv l] w fun x w' => ScanQ T l w x w' := by
  have hR : Hid (∀ W, _) := Lib.hid fun W => right8_any (l.ext : Int) (l.fields : Int) (l.bytes : Int) W
  rw [okLs_lim hlm] at hR
  rw [limv_lim3]
  unfold lim3
  have HT := Lib.hid hT
  have HSP := Lib.hid hsp
  have HBD := Lib.hid hbd
  have HV := Lib.hid hv
  obtain ⟨pt, ct, rfl, -⟩ := hT
  clear hv hsp hbd
  obtain ⟨w0, hw0⟩ : ∃ w0, (w.alloc (obLim (l.ext : Int) (l.fields : Int) (l.bytes : Int))).alloc obBody = w0 := ⟨_, rfl⟩
  have z0 : w0.heap.size = w.heap.size + 2 := by rw [← hw0]; simp
  have b0 : Below w.heap.size w w0 := by rw [← hw0]; exact ahead (below_box _ _) (below_box _ _)
  have g0 : w0.heap[w.heap.size + 1]? = some (.cells zbody 82 (0, 0)) := by rw [← hw0]; exact heap_alloc2_new _ _ _
  have l0 : w0.heap[w.heap.size]? = some (.cells #[.int .i64 (l.ext : Int), .int .i64 (l.fields : Int), .int .i64 (l.bytes : Int)] 80 (0, 0)) := by rw [← hw0, Below.heap_alloc _ _ _ (by simp)]; exact World.alloc_heap_new w _
  have W0 := Lib.hid hw0
  clear hw0
  go_enter Tryz.func38, Tryz.ntmps38
  go_wp2_with fail
  rw [W0.out]
  refine (hR.out _).mono ?_
  rintro e w1 ⟨rfl, hb1⟩
  have g1 := (hb1.block _ (by omega)).trans g0
  have l1 := (hb1.block _ (by omega)).trans l0
  have b1 := ahead b0 hb1
  have z1 := hb1.size
  obtain ⟨⟨c0, c1, c2⟩, -⟩ := three_cells8 l1
  have hlt : w.heap.size + 1 < w1.heap.size := by omega
  have HRD := Lib.hid (read_any _ (rat_new (HT.out.below b1) hl hlm fun g hg => by have := HV.out g hg; omega) fun W hW => by
    have := hW.below (A0 := w) (ahead b1 (below_box _ _)) (by omega)
    exact ⟨HSP.out.below this, HBD.out.below this⟩)
  have G1 := Lib.hid g1
  have B1 := Lib.hid b1
  clear g1 g0 l1 l0 hb1 b0 b1 W0 hR z1 z0
  go_wp2_with fail
  refine HRD.out.mono ?_
  rintro x w2 ⟨s', k, e, hgo, rfl, hs, hA, hE⟩
  have hbe := hs.below (A0 := w) (ahead B1.out (below_box _ _)) (by omega)
  have g2 : w2.heap[w.heap.size + 1]? = some (.cells zbody 82 (0, 0)) := (hs.block _ (by simp; omega) (by omega)).trans ((Below.heap_alloc _ _ _ (by omega)).trans G1.out)
  obtain ⟨⟨d0, d1, d2⟩, f0, f1, f2⟩ := three_cells8 g2
  clear c0 c1 c2 HRD
  by_cases he : e = 0
  · subst he
    obtain ⟨dv, gv, rE⟩ := hE rfl
    obtain ⟨pd, cd, hdv, -⟩ := RD.of_own rE.own
    subst hdv
    obtain ⟨pg, cg, hgv, -⟩ := RS.slice rE.flds
    subst hgv
    have e4 : w2.cell? ⟨w1.heap.size, 4, none⟩ = some (.int .i64 (k : Int)) := by simp [World.cell?, rE.blk]
    have e5 : w2.cell? ⟨w1.heap.size, 5, none⟩ = some (.slice pd s'.data.length cd) := by simp [World.cell?, rE.blk]
    have e6 : w2.cell? ⟨w1.heap.size, 6, none⟩ = some (.slice pg s'.fields.length cg) := by simp [World.cell?, rE.blk]
    have HQ : Hid (∀ m, _) := Lib.hid fun m => show ScanQ T l w (.returned (.tuple #[.agg #[.slice pd s'.data.length cd, .slice pg s'.fields.length cg, .int .i64 (k : Int)], .int .i64 (k : Int), .int .i64 0])) ((((w2.drewN m).setCell ⟨w.heap.size + 1, 0, none⟩ (.slice pd s'.data.length cd)).setCell ⟨w.heap.size + 1, 1, none⟩ (.slice pg s'.fields.length cg)).setCell ⟨w.heap.size + 1, 2, none⟩ (.int .i64 (k : Int))) from by
      have hk : ∀ g, g ≠ w.heap.size + 1 → ((((w2.drewN m).setCell ⟨w.heap.size + 1, 0, none⟩ (.slice pd s'.data.length cd)).setCell ⟨w.heap.size + 1, 1, none⟩ (.slice pg s'.fields.length cg)).setCell ⟨w.heap.size + 1, 2, none⟩ (.int .i64 (k : Int))).heap[g]? = w2.heap[g]? := fun g hg => (Below.heap_setCell _ _ _ _ hg).trans ((Below.heap_setCell _ _ _ _ hg).trans (Below.heap_setCell _ _ _ _ hg))
      refine ⟨s', k, 0, _, _, hgo, rfl, below_set3 (ahead hbe (drewN_below _ _)) (by omega) _ _ _, ?_, ?_⟩
      · rw [if_pos rfl]
        exact RD.of_own (own_same rE.own fun g hg => hk g (by have := (rE.own.lt g hg).1; simp at this; omega))
      · rw [if_pos rfl]
        exact RS.keep rE.flds fun g hg _ => hk g (by have := rE.gfar g hg; simp at this; omega)
    have hrow : Hid (∀ m, _) := Lib.hid fun m => three_set8 (A := w2.drewN m) g2 (.slice pd s'.data.length cd) (.slice pg s'.fields.length cg) (.int .i64 (k : Int))
    clear hgo hs hA hE rE hbe g2
    go_wp2_with fail
    go_region
    all_goals
      go_wp2_with fail
      refine bodyPost_ret (results_three rfl _ _ (w.heap.size + 1) 82 _ (0, 0) _ rfl (hrow.out 1) Tryz.underlying82 rfl (by kernel_rfl)) rfl ?_
      exact HQ.out 1
  · obtain ⟨dv, rA⟩ := hA he
    have e4 : w2.cell? ⟨w1.heap.size, 4, none⟩ = some (.int .i64 (k : Int)) := rA.c4
    have hne : ((e : Int) != 0) = true := by unfold bne; rw [beq_eq_false_iff_ne.2 (by omega)]; rfl
    have HQ : Hid (∀ m, _) := Lib.hid fun m => show ScanQ T l w (.returned (.tuple #[.agg zbody, .int .i64 (k : Int), .int .i64 (e : Int)])) ((((w2.drewN m).setCell ⟨w.heap.size + 1, 0, none⟩ (.slice none 0 0)).setCell ⟨w.heap.size + 1, 1, none⟩ (.slice none 0 0)).setCell ⟨w.heap.size + 1, 2, none⟩ (.int .i64 0)) from by
      refine ⟨s', k, e, .slice none 0 0, .slice none 0 0, hgo, ?_, below_set3 (ahead hbe (drewN_below _ _)) (by omega) _ _ _, ?_, ?_⟩
      · rw [if_neg he]; rfl
      · rw [if_neg he]; exact RD.nil _
      · rw [if_neg he]; exact RS.nil _ _
    have hrow : Hid (∀ m, _) := Lib.hid fun m => three_set8 (A := w2.drewN m) g2 (.slice none 0 0) (.slice none 0 0) (.int .i64 0)
    clear hgo hs hA hE rA hbe g2 he
    go_wp2_with fail
    go_region
    all_goals
      go_wp2_with fail
      refine bodyPost_ret (results_three rfl _ _ (w.heap.size + 1) 82 _ (0, 0) _ rfl (hrow.out 1) Tryz.underlying82 rfl (by kernel_rfl)) rfl ?_
      exact HQ.out 1

end Go.Proofs.YtilebfpaibajcaaGreatDoor
