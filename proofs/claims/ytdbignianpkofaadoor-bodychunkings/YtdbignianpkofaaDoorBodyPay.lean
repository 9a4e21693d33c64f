/- What body.Payload answers. -/
import Derived.Test.YtdbignianpkofaaDoorBodyScan
namespace Go.Proofs.YtdbignianpkofaaDoor
open Go.ChangeShapes Go.WideShapes Go.ChangeAt Go.RowKit
open Go.Shelf
open Oc Fl Bk Bd
set_option linter.unusedVariables false
set_option maxRecDepth 100000

set_option maxHeartbeats 8000000 in
theorem payload8_any {tv : Value} {T : List UInt8} {l : Lim} (w : World) (hT : RD w tv T) (hl : T.length ≤ 1099511627776) (hlm : l.ext ≤ 65536 ∧ l.fields ≤ 65536 ∧ l.bytes ≤ 65536) (hv : ∀ g, tv.ownBlock = some g → g < w.heap.size) (hsp : Spans w) (hbd : Bound w) :
    Calls Tryd.prog 14 #[tv, limv l] w fun x w' => ∃ dv, x = .returned dv ∧ RD w' dv (go l (sz [] 0 0) T 0).1.data ∧ Below w.heap.size w w' := by
  have hR : Hid (∀ W, _) := Lib.hid fun W => right8_any (l.ext : Int) (l.fields : Int) (l.bytes : Int) W
  rw [okLs_lim hlm] at hR
  rw [limv_lim3]
  unfold lim3
  have HT := Lib.hid hT
  have HSP := Lib.hid hsp
  have HBD := Lib.hid hbd
  have HV := Lib.hid hv
  obtain ⟨pt, ct, rfl, -⟩ := hT
  clear hv hsp hbd
  obtain ⟨w0, hw0⟩ : ∃ w0, w.alloc (obLim (l.ext : Int) (l.fields : Int) (l.bytes : Int)) = w0 := ⟨_, rfl⟩
  have z0 : w0.heap.size = w.heap.size + 1 := by rw [← hw0]; simp
  have b0 : Below w.heap.size w w0 := by rw [← hw0]; exact below_box _ _
  have l0 : w0.heap[w.heap.size]? = some (.cells #[.int .i64 (l.ext : Int), .int .i64 (l.fields : Int), .int .i64 (l.bytes : Int)] 24 (0, 0)) := by rw [← hw0]; exact World.alloc_heap_new w _
  have W0 := Lib.hid hw0
  clear hw0
  go_enter Tryd.func14, Tryd.ntmps14
  go_wp2_with fail
  rw [W0.out]
  refine (hR.out _).mono ?_
  rintro e w1 ⟨rfl, hb1⟩
  have l1 := (hb1.block _ (by omega)).trans l0
  have b1 := ahead b0 hb1
  have z1 := hb1.size
  obtain ⟨⟨c0, c1, c2⟩, -⟩ := three_cells8 l1
  have hlt : w.heap.size < w1.heap.size := by omega
  have HRD := Lib.hid (read_any _ (rat_new (HT.out.below b1) hl hlm fun g hg => by have := HV.out g hg; omega) fun W hW => by
    have := hW.below (A0 := w) (ahead b1 (below_box _ _)) (by omega)
    exact ⟨HSP.out.below this, HBD.out.below this⟩)
  have B1 := Lib.hid b1
  clear l1 l0 hb1 b0 b1 W0 hR z1 z0
  go_wp2_with fail
  refine HRD.out.mono ?_
  rintro x w2 ⟨s', k, e, hgo, rfl, hs, hA, hE⟩
  have hbe := hs.below (A0 := w) (ahead B1.out (below_box _ _)) (by omega)
  have key : ∃ dv, w2.cell? ⟨w1.heap.size, 5, none⟩ = some dv ∧ RD w2 dv s'.data := by
    by_cases he : e = 0
    · obtain ⟨dv, gv, rE⟩ := hE he
      exact ⟨dv, by simp [World.cell?, rE.blk], RD.of_own rE.own⟩
    · obtain ⟨dv, rA⟩ := hA he
      exact ⟨dv, rA.c5, RD.of_own rA.own⟩
  obtain ⟨dv, e5, hrd⟩ := key
  have HQ := Lib.hid (And.intro hrd hbe)
  have HGO := Lib.hid hgo
  obtain ⟨pd, cd, rfl, -⟩ := hrd
  clear c0 c1 c2 HRD hgo hs hA hE hbe
  go_wp2_with fail
  go_ret
  exact ⟨_, rfl, by rw [HGO.out]; exact HQ.out.1, HQ.out.2⟩

end Go.Proofs.YtdbignianpkofaaDoor
