/- The laws' examples. -/
import Derived.Test.YtdbignianpkofaaDoorBodySame
import Derived.Lib.SlBytesConst
namespace Go.Proofs.YtdbignianpkofaaDoor
open Go.ChangeShapes Go.WideShapes Go.ChangeAt Go.RowKit
open Go.Shelf
open Oc Fl Bk Bd
set_option linter.unusedVariables false
set_option maxRecDepth 100000

theorem rd_lit (w : World) (xs : List UInt8) (fr : Nat × Nat) (h : xs.length ≤ 1000) : RD (w.alloc (.cells (bv xs).toArray 5 fr)) (.slice (some ⟨w.heap.size, 0, none⟩) xs.length xs.length) xs := by
  refine ⟨some ⟨w.heap.size, 0, none⟩, xs.length, rfl, Nat.le_refl _, by simp only [maxLen]; omega, (fun h => by cases h), fun ad hp i b hb => ?_⟩
  cases hp
  have hn := World.alloc_heap_new w (.cells (bv xs).toArray 5 fr)
  have e : ((⟨w.heap.size, 0, none⟩ : Addr).add i) = ⟨w.heap.size, i, none⟩ := by cases i <;> simp [Addr.add]
  rw [e]
  unfold World.cell?
  rw [hn]
  simp [bv, hb]

abbrev wkA : List UInt8 := [51, 13, 10, 97, 98, 99, 13, 10, 48, 13, 10, 13, 10]
abbrev wkB : List UInt8 := [51, 120]
theorem wkA_go : ∃ s, go ⟨10, 10, 100⟩ (sz [] 0 0) wkA 0 = (s, 13, 0) ∧ s.data = [97, 98, 99] := by
  refine ⟨_, rfl, rfl⟩
theorem wkB_go : ∃ s, go ⟨10, 10, 100⟩ (sz [] 0 0) wkB 0 = (s, 1, 2) := by
  refine ⟨_, rfl⟩

set_option maxHeartbeats 2000000 in
theorem wakes8 (w : World) (hsp : Spans w) (hbd : Bound w) : Calls Tryd.prog 9 #[] w fun e w' => e = .returned (.bool true) ∧ Below w.heap.size w w' := by
  have hcv := fun (w : World) (C : Array Value) (n c : Nat) => Lib.run_convert_bytes_const (P := Tryd.prog) w 22 5 C n c Tryd.underlying22 Tryd.underlying5
  have hcvA := hcv (w.alloc (.cells #[.int .i64 10, .int .i64 10, .int .i64 100] 24)) (bv wkA).toArray 13 13
  rw [World.size_alloc, show (bv wkA).toArray = #[.int .u8 51, .int .u8 13, .int .u8 10, .int .u8 97, .int .u8 98, .int .u8 99, .int .u8 13, .int .u8 10, .int .u8 48, .int .u8 13, .int .u8 10, .int .u8 13, .int .u8 10] from rfl] at hcvA
  obtain ⟨w0, hw0⟩ : ∃ w0, (w.alloc (.cells #[.int .i64 10, .int .i64 10, .int .i64 100] 24)).alloc (.cells (bv wkA).toArray 5 (13, 14)) = w0 := ⟨_, rfl⟩
  have b0 : Below w.heap.size w w0 := by rw [← hw0]; exact ahead (below_box _ _) (below_box _ _)
  have z0 : w0.heap.size = w.heap.size + 2 := by rw [← hw0]; simp
  have r0 : RD w0 (.slice (some ⟨w.heap.size + 1, 0, none⟩) 13 13) wkA := by
    have := rd_lit (w.alloc (.cells #[.int .i64 10, .int .i64 10, .int .i64 100] 24)) wkA (13, 14) (by decide)
    rw [hw0] at this
    simpa using this
  have l0 : w0.heap[w.heap.size]? = some (.cells #[.int .i64 10, .int .i64 10, .int .i64 100] 24 (0, 0)) := by rw [← hw0, Below.heap_alloc _ _ _ (by simp)]; exact World.alloc_heap_new w _
  have HSC := Lib.hid (scan8_any (l := ⟨10, 10, 100⟩) w0 r0 (by decide) ⟨by decide, by decide, by decide⟩ (fun g hg => by cases hg; show w.heap.size + 1 < _; omega) (hsp.below b0) (hbd.below b0))
  rw [limv] at HSC
  rw [show (bv wkA).toArray = #[.int .u8 51, .int .u8 13, .int .u8 10, .int .u8 97, .int .u8 98, .int .u8 99, .int .u8 13, .int .u8 10, .int .u8 48, .int .u8 13, .int .u8 10, .int .u8 13, .int .u8 10] from rfl] at hw0
  have W0 := Lib.hid hw0
  have HSP := Lib.hid hsp
  have HBD := Lib.hid hbd
  clear hw0 r0 hsp hbd
  go_enter Tryd.func9, Tryd.ntmps9
  go_wp2_with fail
  rw [W0.out]
  refine HSC.out.mono ?_
  rintro e w1 ⟨s', k, e, dv, gv, hgo, rfl, hb1, hd, hf⟩
  obtain ⟨sA, hgA, hdA⟩ := wkA_go
  rw [hgA] at hgo
  simp only [Prod.mk.injEq] at hgo
  obtain ⟨rfl, rfl, rfl⟩ := hgo
  rw [if_pos rfl] at hd hf
  rw [hdA] at hd
  rw [if_pos rfl]
  have HD := Lib.hid hd
  have HF := Lib.hid hf
  obtain ⟨pd, cd, rfl, -⟩ := hd
  obtain ⟨pf, cf, rfl, -⟩ := RS.slice hf
  have l1 := (hb1.block w.heap.size (by omega)).trans l0
  obtain ⟨⟨c0, c1, c2⟩, -⟩ := three_cells8 l1
  have z1 := hb1.size
  have hlt : w.heap.size < w1.heap.size := by omega
  obtain ⟨w2, hw2⟩ : ∃ w2, w1.alloc (.cells #[.slice pd 3 cd, .slice pf sA.fields.length cf, .int .i64 13] 28) = w2 := ⟨_, rfl⟩
  have b2 : Below w1.heap.size w1 w2 := by rw [← hw2]; exact below_box _ _
  have z2 : w2.heap.size = w1.heap.size + 1 := by rw [← hw2]; simp
  have g2 : w2.heap[w1.heap.size]? = some (.cells #[.slice pd 3 cd, .slice pf sA.fields.length cf, .int .i64 13] 28 (0, 0)) := by rw [← hw2]; exact World.alloc_heap_new w1 _
  have hcvB := hcv w2 (bv wkB).toArray 2 2
  obtain ⟨w3, hw3⟩ : ∃ w3, w2.alloc (.cells #[.int .u8 51, .int .u8 120] 5 (2, 3)) = w3 := ⟨_, rfl⟩
  have b3 : Below w2.heap.size w2 w3 := by rw [← hw3]; exact below_box _ _
  have z3 : w3.heap.size = w2.heap.size + 1 := by rw [← hw3]; simp
  have r3 : RD w3 (.slice (some ⟨w2.heap.size, 0, none⟩) 2 2) wkB := by
    have := rd_lit w2 wkB (2, 3) (by decide)
    rw [← hw3]
    exact this
  have bb : Below w.heap.size w w3 := ahead (ahead (ahead b0 hb1) b2) b3
  have HSD := Lib.hid (scan8_any (l := ⟨10, 10, 100⟩) w3 r3 (by decide) ⟨by decide, by decide, by decide⟩ (fun g hg => by cases hg; show w2.heap.size < _; omega) (HSP.out.below bb) (HBD.out.below bb))
  rw [limv] at HSD
  rw [show (bv wkB).toArray = #[.int .u8 51, .int .u8 120] from rfl, ← hw2, World.size_alloc] at hcvB
  have W3 := Lib.hid (show (w1.alloc (.cells #[.slice pd 3 cd, .slice pf sA.fields.length cf, .int .i64 13] 28)).alloc (.cells #[.int .u8 51, .int .u8 120] 5 (2, 3)) = w3 by rw [hw2]; exact hw3)
  rw [z2] at HSD
  have g3 := (b3.block w1.heap.size (by omega)).trans g2
  have BB := Lib.hid bb
  have HDW := Lib.hid (HD.out.below (ahead b2 b3))
  clear hw2 hw3 r3 bb b2 b3 hb1 hf b0 l0 l1 g2 HSC HSP HBD W0 hcv hcvA hdA hgA
  unfold bodyv
  go_wp2_with fail
  rw [W3.out]
  refine HSD.out.mono ?_
  rintro e w4 ⟨s', k, e, dv, gv, hgo, rfl, hb4, hd, hf⟩
  obtain ⟨sB, hgB⟩ := wkB_go
  rw [hgB] at hgo
  simp only [Prod.mk.injEq] at hgo
  obtain ⟨rfl, rfl, rfl⟩ := hgo
  rw [if_neg (by decide)] at hd hf
  rw [if_neg (show ¬ ((2 : Nat) = 0) by decide)]
  obtain ⟨pe, ce, rfl, -⟩ := hd
  obtain ⟨pg, cg, rfl, -⟩ := RS.slice hf
  have g4 := (hb4.block w1.heap.size (by omega)).trans g3
  obtain ⟨⟨d0, d1, d2⟩, -⟩ := three_cells8 g4
  have hlt4 : w1.heap.size < w4.heap.size := by have := hb4.size; omega
  have hcc : (convert 22 9 (.slice pd 3 cd)).run Tryd.prog (w4.alloc (.cells #[.slice pe 0 ce, .slice pg 0 cg, .int .i64 0] 28)) = .ok (.string ⟨#[97, 98, 99]⟩) (w4.alloc (.cells #[.slice pe 0 ce, .slice pg 0 cg, .int .i64 0] 28)) := conv_rd ((HDW.out.below hb4).below (below_box _ _))
  have HB := Lib.hid (ahead (ahead BB.out hb4) (below_box w4 (.cells #[.slice pe 0 ce, .slice pg 0 cg, .int .i64 0] 28)))
  unfold bodyv
  clear hf hb4 g3 g4 HDW HSD BB W3 HD HF
  go_wp2_with fail
  go_ret
  exact ⟨rfl, HB.out⟩

end Go.Proofs.YtdbignianpkofaaDoor
