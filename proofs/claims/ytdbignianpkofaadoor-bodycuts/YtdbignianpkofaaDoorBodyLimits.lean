/- The law BodyLimits. -/
import Derived.Test.YtdbignianpkofaaDoorBodyWake
namespace Go.Proofs.YtdbignianpkofaaDoor
open Go.ChangeShapes Go.WideShapes Go.ChangeAt Go.RowKit
open Go.Shelf
open Oc Fl Bk Bd
set_option linter.unusedVariables false
set_option maxRecDepth 100000

theorem own_lt {w : World} {tv : Value} (W : World) (hv : ∀ g, tv.ownBlock = some g → g < w.heap.size) (h : w.heap.size ≤ W.heap.size) : ∀ g, tv.ownBlock = some g → g < W.heap.size := fun g hg => Nat.lt_of_lt_of_le (hv g hg) h

theorem go_fields (l : Lim) (s : St) (x : List UInt8) (i : Nat) : (go l s x i).1.fields.length ≤ s.fields.length + x.length := by
  induction x generalizing s i with
  | nil => simp [go]
  | cons c r ih =>
    have hn : (nxt s c).fields.length ≤ s.fields.length + 1 := by
      unfold nxt
      split <;> (try split) <;> (try split) <;> simp
    by_cases h : er l s c = 0
    · by_cases hp : (nxt s c).place = 11
      · rw [go_last h rfl hp]; simp only [List.length_cons]; omega
      · rw [go_step h rfl hp]
        have := ih (nxt s c) (i + 1)
        simp only [List.length_cons]; omega
    · rw [go_bad rfl h]; simp only [List.length_cons]; omega

set_option maxHeartbeats 8000000 in
theorem limits8_walk {tv : Value} {T : List UInt8} (a b c : Int) (m0 m1 m2 : Nat) (h0 : m0 ≤ 255) (h1 : m1 ≤ 255) (h2 : m2 ≤ 255) (w : World) (hT : RD w tv T) (hv : ∀ g, tv.ownBlock = some g → g < w.heap.size) (hsp : Spans w) (hbd : Bound w) :
    Calls Tryd.prog 6 #[tv, lim3 a b c, .agg #[.int .u8 (m0 : Int), .int .u8 (m1 : Int), .int .u8 (m2 : Int)]] w fun e w' => e = .returned (.bool true) ∧ Below w.heap.size w w' := by
  have HT := Lib.hid hT
  have HV := Lib.hid hv
  have HSP := Lib.hid hsp
  have HBD := Lib.hid hbd
  obtain ⟨pt, ct, rfl, hc1, hc2, -⟩ := hT
  simp only [maxLen] at hc2
  unfold lim3
  obtain ⟨b0, g0, k0, z0⟩ := two_boxes w (obLim a b c) (.cells #[.int .u8 (m0 : Int), .int .u8 (m1 : Int), .int .u8 (m2 : Int)] 54)
  obtain ⟨w0, hw0⟩ : ∃ w0, (w.alloc (obLim a b c)).alloc (.cells #[.int .u8 (m0 : Int), .int .u8 (m1 : Int), .int .u8 (m2 : Int)] 54) = w0 := ⟨_, rfl⟩
  rw [hw0] at b0 g0 k0 z0
  have HWK := Lib.hid (wakes8 w0 (hsp.below b0) (hbd.below b0))
  have W0 := Lib.hid hw0
  clear hw0 hv hsp hbd
  go_enter Tryd.func6, Tryd.ntmps6
  go_wp2_with fail
  rw [W0.out]
  refine HWK.out.mono ?_
  rintro e w1 ⟨rfl, hb1⟩
  have z1 := hb1.size
  have g1 := (hb1.block w.heap.size (by omega)).trans g0
  have k1 := (hb1.block (w.heap.size + 1) (by omega)).trans k0
  have b1 := ahead b0 hb1
  have B1 := Lib.hid b1
  obtain ⟨⟨x0, x1, x2⟩, -⟩ := three_cells8 g1
  clear W0 HWK g0 k0 b0 b1 hb1
  by_cases hlen : 800 < T.length
  · have hlen' : (800 : Int) < (T.length : Int) := by omega
    clear g1 k1
    go_wp2_with fail
    go_ret
    exact ⟨rfl, B1.out⟩
  have hlen' : ¬ (800 : Int) < (T.length : Int) := by omega
  have HR := Lib.hid (rright8_any a b c w1)
  unfold lim3 at HR
  go_wp2_with fail
  refine HR.out.mono ?_
  rintro e w2 ⟨rfl, hb2⟩
  have z2 := hb2.size
  have g2 := (hb2.block w.heap.size (by omega)).trans g1
  have k2 := (hb2.block (w.heap.size + 1) (by omega)).trans k1
  have b2 := ahead B1.out hb2
  have B2 := Lib.hid b2
  clear g1 k1 b2 hb2 HR B1 x0 x1 x2
  cases hok : okLs a b c with
  | false =>
    clear g2 k2 hok
    go_wp2_with fail
    go_ret
    exact ⟨rfl, B2.out⟩
  | true =>
    obtain ⟨⟨x0, x1, x2⟩, -⟩ := three_cells8 g2
    obtain ⟨⟨y0, y1, y2⟩, -⟩ := three_cells8 k2
    have hb : (0 ≤ a ∧ a ≤ 65536) ∧ (0 ≤ b ∧ b ≤ 65536) ∧ (0 ≤ c ∧ c ≤ 65536) := by
      unfold okLs okL at hok
      simpa using hok
    obtain ⟨la, rfl⟩ : ∃ la : Nat, a = (la : Int) := ⟨a.toNat, by omega⟩
    obtain ⟨lb, rfl⟩ : ∃ lb : Nat, b = (lb : Int) := ⟨b.toNat, by omega⟩
    obtain ⟨lc, rfl⟩ : ∃ lc : Nat, c = (lc : Int) := ⟨c.toNat, by omega⟩
    obtain ⟨ga, hga⟩ : ∃ ga, min (la + m0) 65536 = ga := ⟨_, rfl⟩
    obtain ⟨gb, hgb⟩ : ∃ gb, min (lb + m1) 65536 = gb := ⟨_, rfl⟩
    obtain ⟨gc, hgc⟩ : ∃ gc, min (lc + m2) 65536 = gc := ⟨_, rfl⟩
    have q0 : IntKind.i64.wrap ((la : Int) + (m0 : Int)) = (la : Int) + (m0 : Int) := IntWalk.i64_in _ (by omega)
    have q1 : IntKind.i64.wrap ((lb : Int) + (m1 : Int)) = (lb : Int) + (m1 : Int) := IntWalk.i64_in _ (by omega)
    have q2 : IntKind.i64.wrap ((lc : Int) + (m2 : Int)) = (lc : Int) + (m2 : Int) := IntWalk.i64_in _ (by omega)
    have q3 : IntKind.i64.wrap (m0 : Int) = (m0 : Int) := IntWalk.i64_in _ (by omega)
    have q4 : IntKind.i64.wrap (m1 : Int) = (m1 : Int) := IntWalk.i64_in _ (by omega)
    have q5 : IntKind.i64.wrap (m2 : Int) = (m2 : Int) := IntWalk.i64_in _ (by omega)
    have r0 : min ((la : Int) + (m0 : Int)) 65536 = (ga : Int) := by omega
    have r1 : min ((lb : Int) + (m1 : Int)) 65536 = (gb : Int) := by omega
    have r2 : min ((lc : Int) + (m2 : Int)) 65536 = (gc : Int) := by omega
    have hle : Lim.le ⟨la, lb, lc⟩ ⟨ga, gb, gc⟩ := ⟨by simp only; omega, by simp only; omega, by simp only; omega⟩
    have hlm : la ≤ 65536 ∧ lb ≤ 65536 ∧ lc ≤ 65536 := by omega
    have hgm : ga ≤ 65536 ∧ gb ≤ 65536 ∧ gc ≤ 65536 := by omega
    obtain ⟨w3, hw3⟩ : ∃ w3, w2.alloc (obLim (ga : Int) (gb : Int) (gc : Int)) = w3 := ⟨_, rfl⟩
    have b3 : Below w2.heap.size w2 w3 := by rw [← hw3]; exact below_box _ _
    have z3 : w3.heap.size = w2.heap.size + 1 := by rw [← hw3]; simp
    have g3 : w3.heap[w2.heap.size]? = some (.cells #[.int .i64 (ga : Int), .int .i64 (gb : Int), .int .i64 (gc : Int)] 24 (0, 0)) := by rw [← hw3]; exact World.alloc_heap_new w2 _
    have bb3 := ahead B2.out b3
    have HSC := Lib.hid (scan8_any (l := ⟨la, lb, lc⟩) w3 (HT.out.below bb3) (by omega) hlm (own_lt w3 HV.out bb3.size) (HSP.out.below bb3) (HBD.out.below bb3))
    rw [limv] at HSC
    have W3 := Lib.hid hw3
    have BB3 := Lib.hid bb3
    have HLE := Lib.hid hle
    have hlt2 : w.heap.size + 1 < w2.heap.size := by omega
    have hlt2' : w.heap.size < w2.heap.size := by omega
    clear hw3 b3 bb3 g2 k2 hok hb hle hga hgb hgc B2
    go_wp2_with fail
    rw [W3.out]
    refine HSC.out.mono ?_
    rintro e w4 ⟨s1, at1, e1, dv1, gv1, hgo1, rfl, hb4, hd1, hf1⟩
    have D1 := Lib.hid hd1
    have F1 := Lib.hid hf1
    obtain ⟨pd1, cd1, rfl, -⟩ := hd1
    obtain ⟨pf1, cf1, rfl, -⟩ := RS.slice hf1
    have z4 := hb4.size
    have g4 := (hb4.block w2.heap.size (by omega)).trans g3
    obtain ⟨⟨v0, v1, v2⟩, -⟩ := three_cells8 g4
    have hlt4 : w2.heap.size < w4.heap.size := by omega
    obtain ⟨w5, hw5⟩ : ∃ w5, w4.alloc (obBd (.slice pd1 (if e1 = 0 then s1.data else []).length cd1) (.slice pf1 (if e1 = 0 then s1.fields else []).length cf1) (if e1 = 0 then at1 else 0)) = w5 := ⟨_, rfl⟩
    have b5 : Below w4.heap.size w4 w5 := by rw [← hw5]; exact below_box _ _
    have z5 : w5.heap.size = w4.heap.size + 1 := by rw [← hw5]; simp
    have g5 : w5.heap[w4.heap.size]? = some (.cells #[.slice pd1 (if e1 = 0 then s1.data else []).length cd1, .slice pf1 (if e1 = 0 then s1.fields else []).length cf1, .int .i64 ((if e1 = 0 then at1 else 0 : Nat) : Int)] 28 (0, 0)) := by rw [← hw5]; exact World.alloc_heap_new w4 _
    have bb5 := ahead (ahead BB3.out hb4) b5
    have HSD := Lib.hid (scan8_any (l := ⟨ga, gb, gc⟩) w5 (HT.out.below bb5) (by omega) hgm (own_lt w5 HV.out bb5.size) (HSP.out.below bb5) (HBD.out.below bb5))
    rw [limv] at HSD
    replace D1 := Lib.hid (D1.out.below b5)
    replace F1 := Lib.hid (F1.out.below b5)
    have W5 := Lib.hid hw5
    have BB5 := Lib.hid bb5
    have HG1 := Lib.hid hgo1
    clear hw5 b5 bb5 hb4 hf1 g3 g4 HSC W3 BB3 x0 x1 x2 y0 y1 y2 hgo1
    unfold bodyv
    generalize hn1 : (if e1 = 0 then at1 else 0 : Nat) = n1 at *
    generalize hdd1 : (if e1 = 0 then s1.data else []) = dd1 at *
    generalize hff1 : (if e1 = 0 then s1.fields else []) = ff1 at *
    have HN1 := Lib.hid hn1
    have HD1 := Lib.hid hdd1
    have HF1 := Lib.hid hff1
    clear hn1 hdd1 hff1
    go_wp2_with fail
    rw [W5.out]
    refine HSD.out.mono ?_
    rintro e w6 ⟨s2, at2, e2, dv2, gv2, hgo2, rfl, hb6, hd2, hf2⟩
    have D2 := Lib.hid hd2
    have F2 := Lib.hid hf2
    obtain ⟨pd2, cd2, rfl, -⟩ := hd2
    obtain ⟨pf2, cf2, rfl, -⟩ := RS.slice hf2
    obtain ⟨hL1, hL2⟩ := go_limits HLE.out (sz [] 0 0) T 0
    rw [HG1.out] at hL1 hL2
    rw [hgo2] at hL1 hL2
    simp only at hL1 hL2
    have z6 := hb6.size
    have g6 := (hb6.block w4.heap.size (by omega)).trans g5
    have bb6 := ahead BB5.out hb6
    by_cases he5 : e1 = 5
    · subst he5
      have hat := hL2 rfl
      have hge : (at1 : Int) ≤ (at2 : Int) := by omega
      have HB := Lib.hid (ahead bb6 (below_box w6 (obBd (.slice pd2 (if e2 = 0 then s2.data else []).length cd2) (.slice pf2 (if e2 = 0 then s2.fields else []).length cf2) (if e2 = 0 then at2 else 0))))
      clear hL1 hL2 HG1 hgo2 D1 F1 D2 F2 hf2 hb6 g6 g5 bb6 HSD W5 BB5
      unfold bodyv
      generalize (if e2 = 0 then at2 else 0 : Nat) = n2 at HB ⊢
      generalize (if e2 = 0 then s2.data else []) = dd2 at HB ⊢
      generalize (if e2 = 0 then s2.fields else []) = ff2 at HB ⊢
      by_cases he2 : e2 = 5
      · subst he2
        go_wp2_with fail
        go_ret
        exact ⟨rfl, HB.out⟩
      · have hne2 : ((e2 : Int) != 5) = true := by unfold bne; rw [beq_eq_false_iff_ne.2 (by omega)]; rfl
        go_wp2_with fail
        go_ret
        exact ⟨rfl, HB.out⟩
    · have hEQ := hL1 he5
      simp only [Prod.mk.injEq] at hEQ
      obtain ⟨rfl, rfl, rfl⟩ := hEQ
      rw [HD1.out] at D2
      rw [HF1.out] at F2
      rw [HD1.out, HF1.out, HN1.out]
      have hfl : ff1.length ≤ 1000000 := by
        have := go_fields ⟨la, lb, lc⟩ (sz [] 0 0) T 0
        rw [HG1.out] at this
        rw [← HF1.out]
        simp only [sz, List.length_nil] at this
        split
        · omega
        · simp
      obtain ⟨w7, hw7⟩ : ∃ w7, w6.alloc (obBd (.slice pd2 dd1.length cd2) (.slice pf2 ff1.length cf2) n1) = w7 := ⟨_, rfl⟩
      have b7 : Below w6.heap.size w6 w7 := by rw [← hw7]; exact below_box _ _
      have HLS := Lib.hid (lsame_true (n := n1) w7 ((D1.out.below hb6).below b7) ((F1.out.below hb6).below b7) (D2.out.below b7) (F2.out.below b7) hfl)
      have BB7 := Lib.hid (ahead bb6 b7)
      have W7 := Lib.hid hw7
      obtain ⟨⟨t0, t1, t2⟩, -⟩ := three_cells8 g6
      have hlt6 : w4.heap.size < w6.heap.size := by omega
      have hne5 : ((e2 : Int) == 5) = false := beq_eq_false_iff_ne.2 (by omega)
      clear hL1 hL2 HG1 hgo2 D1 F1 D2 F2 hf2 hb6 g6 g5 bb6 HSD W5 BB5 hw7 b7 HD1 HF1 HN1 HLE he5
      unfold bodyv at HLS ⊢
      go_wp2_with fail
      rw [W7.out]
      refine HLS.out.mono ?_
      rintro e w8 ⟨rfl, hb8⟩
      go_wp2_with fail
      go_ret
      exact ⟨rfl, ahead BB7.out hb8⟩

end Go.Proofs.YtdbignianpkofaaDoor
