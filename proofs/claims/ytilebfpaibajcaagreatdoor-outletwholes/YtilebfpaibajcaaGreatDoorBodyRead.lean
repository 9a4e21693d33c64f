/- The reader's read: all parts, and what it gave up for. -/
import Derived.Test.YtilebfpaibajcaaGreatDoorBodySection
namespace Go.Proofs.YtilebfpaibajcaaGreatDoor
open Go.ChangeShapes Go.WideShapes Go.ChangeAt Go.RowKit
open Go.Shelf
open Oc Fl Bk Bd
set_option linter.unusedVariables false
set_option maxRecDepth 100000

theorem catch_thrown (G : Nat) (x : Value) (e : Nat) (w : World) (hc : w.cell? ⟨G, 0, none⟩ = some x) (hz : w.frozen? ⟨G, 0, none⟩ = false) :
    CallsD Tryz.prog 60 #[.pointer (some ⟨G, 0, none⟩)] (.panicking [{ v := .iface 29 (.int .i64 (e : Int)), recovered := false }]) w fun x u' w' =>
      x = .returned (.tuple #[]) ∧ u' = .panicking [{ v := .iface 29 (.int .i64 (e : Int)), recovered := true }] ∧ w' = w.setCell ⟨G, 0, none⟩ (.int .i64 (e : Int)) := by
  refine callsD_of_wpS Tryz.func60 rfl fun c₀ cs hu => ?_
  apply wpS_seq
  apply wpS_region
  simp [wpOpsS, go_sem, recoverD, hu, Tryz.ntmps60, Exit.thenS]
  refine wpS_of_wp ?_
  rw [show #[Value.pointer (some ⟨G, 0, none⟩)] ++ ((Array.replicate 6 undef).setIfInBounds 1 (Value.iface 29 (.int .i64 (e : Int)))).setIfInBounds 0 (Value.iface 29 (.int .i64 (e : Int))) = #[.pointer (some ⟨G, 0, none⟩), .iface 29 (.int .i64 (e : Int)), .iface 29 (.int .i64 (e : Int)), undef, undef, undef, undef] from rfl]
  have ht : ∀ W, (Instr.typeAssert (.iface 29 (.int .i64 (e : Int))) 20 29 false).run Tryz.prog W = .ok (.int .i64 (e : Int)) W := fun W => by kernel_rfl
  go_wp2_with fail
  simp [bodyPostS, results, Tryz.results60, go_sem]

theorem catch_none (G : Nat) (w : World) :
    CallsD Tryz.prog 60 #[.pointer (some ⟨G, 0, none⟩)] .returning w fun x u' w' =>
      x = .returned (.tuple #[]) ∧ u' = .returning ∧ w' = w := by
  refine callsD_of_wpS Tryz.func60 rfl fun c₀ cs hu => ?_
  apply wpS_seq
  apply wpS_region
  simp [wpOpsS, go_sem, recoverD, hu, Tryz.ntmps60, Exit.thenS]
  refine wpS_of_wp ?_
  rw [show #[Value.pointer (some ⟨G, 0, none⟩)] ++ ((Array.replicate 6 undef).setIfInBounds 1 Value.nilIface).setIfInBounds 0 Value.nilIface = #[.pointer (some ⟨G, 0, none⟩), .nilIface, .nilIface, undef, undef, undef, undef] from rfl]
  go_wp2_with fail
  cases c₀
  simp_all [bodyPostS, results, Tryz.results60, go_sem]

theorem results_err {fn : Func} {p : Tmp} (h : fn.results = #[.cell p 29]) (tmps : Array Value) (w : World) (g : Nat) (x : Value) (hp : tmps.getD p undef = .pointer (some ⟨g, 0, none⟩)) (hg : w.cell? ⟨g, 0, none⟩ = some x) :
    (results fn tmps).run Tryz.prog w = .ok x w := by
  have hp' : tmps[p]?.getD undef = .pointer (some ⟨g, 0, none⟩) := by simpa using hp
  simp [results, h, hp', asAddr, loadVar, isAgg, run_underlying Tryz.underlying29, hg, go_sem]
/-- Where a reader stands. -/
def placeOf (R : Nat) (W : World) : Nat := match W.cell? ⟨R, 4, none⟩ with
  | some v => (intOf v).toNat
  | none => 0
theorem RAt.placeOf {B R : Nat} {tv : Value} {T : List UInt8} {l : Lim} {k : Nat} {dv : Value} {D : List UInt8} {W : World} (h : RAt B R tv T l k dv D W) : placeOf R W = k := by
  unfold Go.Proofs.YtilebfpaibajcaaGreatDoor.placeOf; rw [h.c4]; simp [intOf]

/-- What reading leaves. -/
def ReadQ (R : Nat) (tv : Value) (T : List UInt8) (l : Lim) (w : World) (x : Ending) (w' : World) : Prop :=
  ∃ (s' : St) (k' e : Nat), go l (sz [] 0 0) T 0 = (s', k', e) ∧ x = .returned (.int .i64 (e : Int)) ∧ Solo w.heap.size R w w' ∧ (e ≠ 0 → ∃ dv, RAt (w.heap.size + 1) R tv T l k' dv s'.data w') ∧ (e = 0 → ∃ dv gv, REnd (w.heap.size + 1) R tv l k' dv s'.data gv s'.fields w')

theorem Solo.less {B B' R : Nat} {A W : World} (h : Solo B R A W) (hb : B' ≤ B) : Solo B' R A W := ⟨h.os, h.tape, h.output, h.size, fun k hk hr => h.block k (by omega) hr⟩
/-- The block of what is told is written. -/
theorem RAt.apart {B R : Nat} {tv : Value} {T : List UInt8} {l : Lim} {k : Nat} {dv : Value} {D : List UInt8} {W : World} (h : RAt B R tv T l k dv D W) {G : Nat} (hG : G < B) (hR : G ≠ R) (ht : ∀ g, tv.ownBlock = some g → g ≠ G) (v : Value) : RAt B R tv T l k dv D (W.setCell ⟨G, 0, none⟩ v) :=
  ⟨(Below.heap_setCell _ _ _ _ (Ne.symm hR)).trans h.blk, h.text.kept fun g hg => Below.heap_setCell _ _ _ _ (ht g hg), h.far, own_same h.own fun g hg => Below.heap_setCell _ _ _ _ (by have := (h.own.lt g hg).1; simp; omega),
   ⟨h.base.1, by simp [World.setCell]; exact h.base.2⟩, h.small, h.lims⟩
theorem REnd.apart {B R : Nat} {tv : Value} {l : Lim} {k : Nat} {dv : Value} {D : List UInt8} {gv : Value} {fs : List Fld} {W : World} (h : REnd B R tv l k dv D gv fs W) {G : Nat} (hG : G < B) (hR : G ≠ R) (v : Value) : REnd B R tv l k dv D gv fs (W.setCell ⟨G, 0, none⟩ v) :=
  ⟨(Below.heap_setCell _ _ _ _ (Ne.symm hR)).trans h.blk, own_same h.own fun g hg => Below.heap_setCell _ _ _ _ (by have := (h.own.lt g hg).1; simp; omega), RS.keep h.flds fun g hg _ => Below.heap_setCell _ _ _ _ (by have := h.gfar g hg; simp; omega), h.gfar⟩

set_option maxHeartbeats 8000000 in
theorem read_any {B R : Nat} {tv : Value} {T : List UInt8} {l : Lim} (w : World) (h : RAt B R tv T l 0 (.slice none 0 0) [] w) (hsb : ∀ W, Solo w.heap.size R w W → Spans W ∧ Bound W) :
    Calls Tryz.prog 48 #[.pointer (some ⟨R, 0, none⟩)] w fun x w' => ReadQ R tv T l w x w' := by
  have hmf : ∀ (fn : Fn) (first cap : Array Value) (w : World), (Instr.makeFunc fn first cap).run Tryz.prog w = .ok (.func fn first cap) w := fun _ _ _ _ => rfl
  obtain ⟨W1, hW1⟩ : ∃ W1, w.alloc (.cells #[.int .i64 0] 29) = W1 := ⟨_, rfl⟩
  have hB := h.base
  have z1 : W1.heap.size = w.heap.size + 1 := by rw [← hW1]; simp
  have b1 : Below w.heap.size w W1 := by rw [← hW1]; exact below_box _ _
  have g1 : W1.heap[w.heap.size]? = some (.cells #[.int .i64 0] 29 (0, 0)) := by rw [← hW1]; exact new_one _ _ _
  have r1 : RAt (w.heap.size + 1) R tv T l 0 (.slice none 0 0) [] W1 := ⟨(b1.block _ (by omega)).trans h.blk, h.text.below b1, fun g hg => ⟨by have := (h.far g hg).1; omega, (h.far g hg).2⟩, World.ownsRow_nil _ _ _ _, ⟨by omega, by omega⟩, h.small, h.lims⟩
  have far : ∀ g, tv.ownBlock = some g → g ≠ w.heap.size := fun g hg => by have := (h.far g hg).1; omega
  have HW1 := Lib.hid hW1
  have G1 := Lib.hid g1
  have R1 := Lib.hid r1
  have B1 := Lib.hid b1
  have HSB := Lib.hid hsb
  have HF := Lib.hid far
  have hRl : R < w.heap.size := by omega
  clear hW1 g1 r1 h hB b1 hsb far
  go_enter_defers Tryz.func48, Tryz.ntmps48
  go_wp2_with fail
  rw [HW1.out]
  go_loopw [4, 5] (fun _ _ wr => ∃ (k : Nat) (dv : Value) (D : List UInt8), RAt (w.heap.size + 1) R tv T l k dv D wr ∧ Solo (w.heap.size + 1) R W1 wr ∧ go l (sz [] 0 0) T 0 = go l (sz D 0 0) (T.drop k) k) (fun _ _ wr => T.length - placeOf R wr)
  case atStart => exact ⟨0, _, [], R1.out, Solo.refl _ _ _, rfl⟩
  case round =>
    obtain ⟨k, dv, D, h1, h2, hgo⟩ := hrel
    have HC := Lib.hid (chunk_any wr h1)
    have hpl := h1.placeOf
    have HPL := Lib.hid hpl
    have H2 := Lib.hid h2
    have HGO := Lib.hid hgo
    clear h1 h2 hgo hpl
    go_wp2_with fail
    refine HC.out.mono ?_
    rintro x w1 ⟨k', dv', D', s1, r1, hor⟩
    have s2 := H2.out.trans s1
    have g2 : w1.heap[w.heap.size]? = some (.cells #[.int .i64 0] 29 (0, 0)) := (s2.block _ (by omega) (by omega)).trans G1.out
    have s0 : Solo w.heap.size R w w1 := (Solo.of_below B1.out (Nat.le_refl _)).trans (s2.less (by omega))
    obtain ⟨c0, c1⟩ := one_cell g2
    rcases hor with ⟨e, s', rfl, he, hg, hd⟩ | ⟨rfl, hg, hlt⟩ | ⟨c, rfl, hg⟩
    · have HQ := Lib.hid (show ReadQ R tv T l w (.returned (.int .i64 (e : Int))) (w1.setCell ⟨w.heap.size, 0, none⟩ (.int .i64 (e : Int))) from
        ⟨s', k', e, HGO.out.trans hg, rfl, ⟨s0.os, s0.tape, s0.output, by simp [World.setCell]; exact s0.size, fun q h1 h2 => (Below.heap_setCell _ _ _ _ (by simp; omega)).trans (s0.block q h1 h2)⟩, fun _ => ⟨dv', by rw [hd]; exact r1.apart (by omega) (by omega) HF.out _⟩, fun h => absurd h he⟩)
      have hres := (one_cell (heap_set (i := 0) (.int .i64 (e : Int)) g2)).1
      clear s1 r1 s2 g2 s0 hg hd he HC HPL HSB
      go_wp2_with fail
      refine leaves_cons (f := 60) (args := #[.pointer (some ⟨w.heap.size, 0, none⟩)]) (by simp) (by simp [go_sem]) ?_
      refine (catch_thrown w.heap.size (.int .i64 0) e _ c0 c1).mono ?_
      rintro x u' w'' ⟨rfl, rfl, rfl⟩
      refine ⟨.int .i64 (e : Int), ?_, HQ.out⟩
      exact results_err rfl _ _ w.heap.size _ rfl hres
    · have HR := Lib.hid r1
      have HS := Lib.hid s2
      have HG := Lib.hid (HGO.out.trans hg)
      have HM := Lib.hid (show T.length - placeOf R w1 < T.length - placeOf R wr by rw [HPL.out, r1.placeOf]; have := r1.small; omega)
      clear s1 r1 s2 g2 s0 hg HC HPL HSB
      go_wp2_with fail
      go_roundw
      · exact ⟨k', dv', D', HR.out, HS.out, HG.out⟩
      · exact HM.out
    · obtain ⟨hsp, hbd⟩ := HSB.out w1 s0
      have HSC := Lib.hid (section_any (c := c) w1 r1 hsp hbd)
      have S0 := Lib.hid s0
      have S2 := Lib.hid s2
      have HG := Lib.hid (HGO.out.trans hg)
      clear s1 r1 s2 g2 s0 hg HC HPL HSB hsp hbd
      go_wp2_with fail
      refine HSC.out.mono ?_
      rintro x w3 ⟨s3, k3, e, s', hg3, hd3, hA, hB⟩
      have g3 : w3.heap[w.heap.size]? = some (.cells #[.int .i64 0] 29 (0, 0)) := (s3.block _ (by omega) (by omega)).trans ((S2.out.block _ (by omega) (by omega)).trans G1.out)
      have s4 := S0.out.trans (s3.less (Nat.le_succ _))
      obtain ⟨d0, d1⟩ := one_cell g3
      by_cases he : e = 0
      · obtain ⟨rfl, gv, rE⟩ := hB he
        have HQ := Lib.hid (show ReadQ R tv T l w (.returned (.int .i64 0)) (w3.setCell ⟨w.heap.size, 0, none⟩ (.int .i64 0)) from
          ⟨s', k3, 0, (HG.out.trans hg3).trans (by rw [he]), rfl, ⟨s4.os, s4.tape, s4.output, by simp [World.setCell]; exact s4.size, fun q h1 h2 => (Below.heap_setCell _ _ _ _ (by simp; omega)).trans (s4.block q h1 h2)⟩, fun h => absurd rfl h, fun _ => ⟨dv', gv, by rw [hd3]; exact rE.apart (by omega) (by omega) _⟩⟩)
        have hres := (one_cell (heap_set (i := 0) (.int .i64 0) g3)).1
        clear s3 hg3 hd3 hA hB g3 s4 rE HSC
        go_wp2_with fail
        refine leaves_cons (f := 60) (args := #[.pointer (some ⟨w.heap.size, 0, none⟩)]) (by simp) (by simp [go_sem]) ?_
        refine (catch_none w.heap.size _).mono ?_
        rintro x u' w'' ⟨rfl, rfl, rfl⟩
        refine ⟨.int .i64 0, ?_, HQ.out⟩
        exact results_err rfl _ _ w.heap.size _ rfl hres
      · obtain ⟨rfl, rA⟩ := hA he
        have HQ := Lib.hid (show ReadQ R tv T l w (.returned (.int .i64 (e : Int))) (w3.setCell ⟨w.heap.size, 0, none⟩ (.int .i64 (e : Int))) from
          ⟨s', k3, e, HG.out.trans hg3, rfl, ⟨s4.os, s4.tape, s4.output, by simp [World.setCell]; exact s4.size, fun q h1 h2 => (Below.heap_setCell _ _ _ _ (by simp; omega)).trans (s4.block q h1 h2)⟩, fun _ => ⟨dv', by rw [hd3]; exact rA.apart (by omega) (by omega) HF.out _⟩, fun h => absurd h he⟩)
        have hres := (one_cell (heap_set (i := 0) (.int .i64 (e : Int)) g3)).1
        clear s3 hg3 hd3 hA hB g3 s4 rA HSC he
        go_wp2_with fail
        refine leaves_cons (f := 60) (args := #[.pointer (some ⟨w.heap.size, 0, none⟩)]) (by simp) (by simp [go_sem]) ?_
        refine (catch_thrown w.heap.size (.int .i64 0) e _ d0 d1).mono ?_
        rintro x u' w'' ⟨rfl, rfl, rfl⟩
        refine ⟨.int .i64 (e : Int), ?_, HQ.out⟩
        exact results_err rfl _ _ w.heap.size _ rfl hres

end Go.Proofs.YtilebfpaibajcaaGreatDoor
