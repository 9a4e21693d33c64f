/- The law BodyScans. -/
import Derived.Test.YtdbignianpkofaaDoorBodyLimits
import Derived.Test.YtdbignianpkofaaDoorBodyRScan
namespace Go.Proofs.YtdbignianpkofaaDoor
open Go.ChangeShapes Go.WideShapes Go.ChangeAt Go.RowKit
open Go.Shelf
open Oc Fl Bk Bd
set_option linter.unusedVariables false
set_option maxRecDepth 100000

set_option maxHeartbeats 2000000 in
theorem of_any (s : St) (k e : Nat) (dv gv : Value) (w : World) (h1 : RD w dv s.data) (h2 : FS w gv s.fields) :
    Calls Tryd.prog 16 #[gotv s k e dv gv] w fun x w' => ∃ dv' gv', x = .returned (bodyv dv' gv' (if e = 0 then k else 0)) ∧ RD w' dv' (if e = 0 then s.data else []) ∧ FS w' gv' (if e = 0 then s.fields else []) ∧ Below w.heap.size w w' := by
  have H1 := Lib.hid h1
  have H2 := Lib.hid h2
  obtain ⟨pd, cd, rfl, -⟩ := h1
  obtain ⟨pf, cf, rfl, -⟩ := RS.slice h2
  clear h2
  unfold gotv
  by_cases he : e = 0
  · subst he
    rw [if_pos rfl, if_pos rfl, if_pos rfl]
    go_enter Tryd.func16, Tryd.ntmps16
    go_wp2_with fail
    refine bodyPost_ret (results_row1 rfl _ _ (w.heap.size + 1) 28 _ (0, 0) _ rfl (two_boxes w _ _).2.2.1 Tryd.underlying28 rfl (by kernel_rfl)) rfl ?_
    exact ⟨_, _, rfl, H1.out.below (two_boxes w _ _).1, H2.out.below (two_boxes w _ _).1, (two_boxes w _ _).1⟩
  · rw [if_neg he, if_neg he, if_neg he]
    have hne : ((e : Int) != 0) = true := by unfold bne; rw [beq_eq_false_iff_ne.2 (by omega)]; rfl
    clear he
    go_enter Tryd.func16, Tryd.ntmps16
    go_wp2_with fail
    refine bodyPost_ret (results_row1 rfl _ _ (w.heap.size + 1) 28 _ (0, 0) _ rfl (two_boxes w _ _).2.2.1 Tryd.underlying28 rfl (by kernel_rfl)) rfl ?_
    exact ⟨_, _, rfl, RD.nil _, RS.nil _ _, (two_boxes w _ _).1⟩

theorem go_pos (l : Lim) (s : St) (x : List UInt8) (i : Nat) (h : (go l s x i).2.2 = 0) : i < (go l s x i).2.1 := by
  induction x generalizing s i with
  | nil => simp [go] at h
  | cons c r ih =>
    by_cases h0 : er l s c = 0
    · by_cases hp : (nxt s c).place = 11
      · rw [go_last h0 rfl hp]; exact Nat.lt_succ_self _
      · rw [go_step h0 rfl hp] at h ⊢
        have := ih _ _ h
        omega
    · rw [go_bad rfl h0] at h; exact absurd h h0

set_option maxHeartbeats 2000000 in
theorem scans8_bad {tv : Value} {T : List UInt8} (a b c : Int) (hok : okLs a b c = false) (w : World) (hT : RD w tv T) (hsp : Spans w) (hbd : Bound w) :
    Calls Tryd.prog 3 #[tv, lim3 a b c] w fun e w' => e = .returned (.bool true) ∧ Below w.heap.size w w' := by
  have b0 := below_box w (obLim a b c)
  have HWK := Lib.hid (wakes8 _ (hsp.below b0) (hbd.below b0))
  obtain ⟨w0, hw0⟩ : ∃ w0, w.alloc (obLim a b c) = w0 := ⟨_, rfl⟩
  have z0 : w0.heap.size = w.heap.size + 1 := by rw [← hw0]; simp
  have g0 : w0.heap[w.heap.size]? = some (.cells #[.int .i64 a, .int .i64 b, .int .i64 c] 24 (0, 0)) := by rw [← hw0]; exact World.alloc_heap_new w _
  rw [hw0] at HWK b0
  obtain ⟨pt, ct, rfl, -⟩ := hT
  unfold lim3
  have W0 := Lib.hid hw0
  have HOK := Lib.hid hok
  clear hw0 hsp hbd hok
  go_enter Tryd.func3, Tryd.ntmps3
  go_wp2_with fail
  rw [W0.out]
  refine HWK.out.mono ?_
  rintro e w1 ⟨rfl, hb1⟩
  have z1 := hb1.size
  have g1 := (hb1.block w.heap.size (by omega)).trans g0
  have B1 := Lib.hid (ahead b0 hb1)
  obtain ⟨⟨x0, x1, x2⟩, -⟩ := three_cells8 g1
  clear W0 HWK g0 b0 hb1
  by_cases hlen : 800 < T.length
  · have hlen' : (800 : Int) < (T.length : Int) := by omega
    clear g1
    go_wp2_with fail
    go_ret
    exact ⟨rfl, B1.out⟩
  have hlen' : ¬ (800 : Int) < (T.length : Int) := by omega
  have HSB := Lib.hid (scan_bad (.slice pt T.length ct) a b c w1 HOK.out)
  unfold lim3 at HSB
  go_wp2_with fail
  refine HSB.out.mono ?_
  rintro e w2 ⟨rfl, hb2⟩
  have z2 := hb2.size
  have g2 := (hb2.block w.heap.size (by omega)).trans g1
  obtain ⟨w3, hw3⟩ : ∃ w3, w2.alloc (.cells zbody 28) = w3 := ⟨_, rfl⟩
  have b3 : Below w2.heap.size w2 w3 := by rw [← hw3]; exact below_box _ _
  have z3 : w3.heap.size = w2.heap.size + 1 := by rw [← hw3]; simp
  have k3 : w3.heap[w2.heap.size]? = some (.cells zbody 28 (0, 0)) := by rw [← hw3]; exact World.alloc_heap_new w2 _
  have g3 := (b3.block w.heap.size (by omega)).trans g2
  have B3 := Lib.hid (ahead (ahead B1.out hb2) b3)
  have hR : Hid (∀ W, _) := Lib.hid fun W => right8_any a b c W
  have hRR : Hid (∀ W, _) := Lib.hid fun W => rright8_any a b c W
  rw [HOK.out] at hR hRR
  unfold lim3 at hR hRR
  have KS : Hid (∀ W, Below w3.heap.size w3 W → W.cell? ⟨w.heap.size, 0, none⟩ = some (.int .i64 a) ∧ W.cell? ⟨w.heap.size, 1, none⟩ = some (.int .i64 b) ∧ W.cell? ⟨w.heap.size, 2, none⟩ = some (.int .i64 c)) := Lib.hid fun W hW => (three_cells8 ((hW.block _ (by omega)).trans g3)).1
  have KB : Hid (∀ W, Below w3.heap.size w3 W → W.heap[w2.heap.size]? = some (.cells zbody 28 (0, 0))) := Lib.hid fun W hW => (hW.block _ (by omega)).trans k3
  have BA : Hid (Below w3.heap.size w3 w3.drew) := Lib.hid (drew_below8 w3)
  have W3 := Lib.hid hw3
  have hnil : Hid (∀ W : World, _) := Lib.hid fun W => lsame_true (n := 0) (D := []) (fs := []) W (RD.nil W) (RS.nil W 2) (RD.nil W) (RS.nil W 2) (by decide)
  have hpay : Hid (∀ W : World, _) := Lib.hid fun W => payload_bad (.slice pt T.length ct) a b c W HOK.out
  unfold lim3 at hpay
  unfold bodyv at hnil
  clear hb2 b3 g1 g2 g3 k3 hw3 HSB x0 x1 x2
  go_wp2_with fail
  rw [W3.out]
  go_region_held3 (fun W => W.cell? ⟨w.heap.size, 0, none⟩ = some (.int .i64 a) ∧ W.cell? ⟨w.heap.size, 1, none⟩ = some (.int .i64 b) ∧ W.cell? ⟨w.heap.size, 2, none⟩ = some (.int .i64 c))
    ((refine KS.out _ ?_; with_reducible exact BA.out))
    (first
    | (go_at_call 11; refine (hR.out _).mono ?_; rintro e w' ⟨rfl, hb'⟩; replace BA := Lib.hid (ahead BA.out hb'); clear hb')
    | (go_at_call 12; refine (hRR.out _).mono ?_; rintro e w' ⟨rfl, hb'⟩; replace BA := Lib.hid (ahead BA.out hb'); clear hb'))
  all_goals
    obtain ⟨y0, y1, y2⟩ := KS.out _ BA.out
    go_wp2_with fail
    refine (hRR.out _).mono ?_
    rintro e w7 ⟨rfl, hb7⟩
    have B7 := ahead BA.out hb7
    obtain ⟨r0, r1, r2⟩ := KS.out _ B7
    obtain ⟨⟨t0, t1, t2⟩, -⟩ := three_cells8 (KB.out _ B7)
    have BB7 := Lib.hid B7
    clear hb7 B7 y0 y1 y2
    go_wp2_with fail
    refine (hnil.out _).mono ?_
    rintro e w8 ⟨rfl, hb8⟩
    have B8 := ahead BB7.out hb8
    obtain ⟨s0, s1, s2⟩ := KS.out _ B8
    have BB8 := Lib.hid B8
    clear hb8 B8 r0 r1 r2 t0 t1 t2
    go_wp2_with fail
    refine (hpay.out _).mono ?_
    rintro e w9 ⟨rfl, hb9⟩
    go_wp2_with fail
    go_ret
    exact ⟨rfl, ahead (ahead B3.out BB8.out) hb9⟩

set_option maxHeartbeats 8000000 in
theorem scans8_ok {tv : Value} {T : List UInt8} (la lb lc : Nat) (hlm : la ≤ 65536 ∧ lb ≤ 65536 ∧ lc ≤ 65536) (w : World) (hT : RD w tv T) (hv : ∀ g, tv.ownBlock = some g → g < w.heap.size) (hsp : Spans w) (hbd : Bound w) :
    Calls Tryd.prog 3 #[tv, lim3 (la : Int) (lb : Int) (lc : Int)] w fun e w' => e = .returned (.bool true) ∧ Below w.heap.size w w' := by
  have b0 := below_box w (obLim (la : Int) (lb : Int) (lc : Int))
  have HWK := Lib.hid (wakes8 _ (hsp.below b0) (hbd.below b0))
  obtain ⟨w0, hw0⟩ : ∃ w0, w.alloc (obLim (la : Int) (lb : Int) (lc : Int)) = w0 := ⟨_, rfl⟩
  have z0 : w0.heap.size = w.heap.size + 1 := by rw [← hw0]; simp
  have g0 : w0.heap[w.heap.size]? = some (.cells #[.int .i64 (la : Int), .int .i64 (lb : Int), .int .i64 (lc : Int)] 24 (0, 0)) := by rw [← hw0]; exact World.alloc_heap_new w _
  rw [hw0] at HWK b0
  have HT := Lib.hid hT
  have HV := Lib.hid hv
  have HSP := Lib.hid hsp
  have HBD := Lib.hid hbd
  obtain ⟨pt, ct, rfl, -⟩ := hT
  unfold lim3
  have W0 := Lib.hid hw0
  have hok : okLs (la : Int) (lb : Int) (lc : Int) = true := okLs_lim (l := ⟨la, lb, lc⟩) hlm
  have HOK := Lib.hid hok
  clear hw0 hsp hbd hok hv
  go_enter Tryd.func3, Tryd.ntmps3
  go_wp2_with fail
  rw [W0.out]
  refine HWK.out.mono ?_
  rintro e w1 ⟨rfl, hb1⟩
  have z1 := hb1.size
  have g1 := (hb1.block w.heap.size (by omega)).trans g0
  have B1 := Lib.hid (ahead b0 hb1)
  obtain ⟨⟨x0, x1, x2⟩, -⟩ := three_cells8 g1
  clear W0 HWK g0 b0 hb1
  by_cases hlen : 800 < T.length
  · have hlen' : (800 : Int) < (T.length : Int) := by omega
    clear g1
    go_wp2_with fail
    go_ret
    exact ⟨rfl, B1.out⟩
  have hlen' : ¬ (800 : Int) < (T.length : Int) := by omega
  have HSC := Lib.hid (scan8_any (l := ⟨la, lb, lc⟩) w1 (HT.out.below B1.out) (by omega) hlm (own_lt w1 HV.out B1.out.size) (HSP.out.below B1.out) (HBD.out.below B1.out))
  rw [limv] at HSC
  go_wp2_with fail
  refine HSC.out.mono ?_
  rintro e w2 ⟨s1, k1, e1, dv1, gv1, hgo, rfl, hb2, hd1, hf1⟩
  have hpos : e1 = 0 → k1 ≠ 0 := fun h => by
    have := go_pos ⟨la, lb, lc⟩ (sz [] 0 0) T 0 (by rw [hgo]; exact h)
    rw [hgo] at this
    simp only at this
    omega
  have hfl : s1.fields.length ≤ 1000000 := by
    have := go_fields ⟨la, lb, lc⟩ (sz [] 0 0) T 0
    rw [hgo] at this
    simp only [sz, List.length_nil] at this
    omega
  obtain ⟨n1, hn1⟩ : ∃ n1, (if e1 = 0 then k1 else 0 : Nat) = n1 := ⟨_, rfl⟩
  obtain ⟨dd, hdd⟩ : ∃ dd, (if e1 = 0 then s1.data else []) = dd := ⟨_, rfl⟩
  obtain ⟨ff, hff⟩ : ∃ ff, (if e1 = 0 then s1.fields else []) = ff := ⟨_, rfl⟩
  rw [hn1]
  rw [hdd] at hd1
  rw [hff] at hf1
  have hffl : ff.length ≤ 1000000 := by rw [← hff]; split; exact hfl; simp
  have D1 := Lib.hid hd1
  have F1 := Lib.hid hf1
  obtain ⟨pd1, cd1, rfl, -⟩ := hd1
  obtain ⟨pf1, cf1, rfl, -⟩ := RS.slice hf1
  have z2 := hb2.size
  have g2 := (hb2.block w.heap.size (by omega)).trans g1
  obtain ⟨w3, hw3⟩ : ∃ w3, w2.alloc (obBd (.slice pd1 dd.length cd1) (.slice pf1 ff.length cf1) n1) = w3 := ⟨_, rfl⟩
  have b3 : Below w2.heap.size w2 w3 := by rw [← hw3]; exact below_box _ _
  have z3 : w3.heap.size = w2.heap.size + 1 := by rw [← hw3]; simp
  have k3 : w3.heap[w2.heap.size]? = some (.cells #[.slice pd1 dd.length cd1, .slice pf1 ff.length cf1, .int .i64 (n1 : Int)] 28 (0, 0)) := by rw [← hw3]; exact World.alloc_heap_new w2 _
  have g3 := (b3.block w.heap.size (by omega)).trans g2
  have B3 := Lib.hid (ahead (ahead B1.out hb2) b3)
  replace D1 := Lib.hid (D1.out.below b3)
  replace F1 := Lib.hid (F1.out.below b3)
  have hR : Hid (∀ W, _) := Lib.hid fun W => right8_any (la : Int) (lb : Int) (lc : Int) W
  have hRR : Hid (∀ W, _) := Lib.hid fun W => rright8_any (la : Int) (lb : Int) (lc : Int) W
  rw [HOK.out] at hR hRR
  unfold lim3 at hR hRR
  have KS : Hid (∀ W, Below w3.heap.size w3 W → W.cell? ⟨w.heap.size, 0, none⟩ = some (.int .i64 (la : Int)) ∧ W.cell? ⟨w.heap.size, 1, none⟩ = some (.int .i64 (lb : Int)) ∧ W.cell? ⟨w.heap.size, 2, none⟩ = some (.int .i64 (lc : Int))) := Lib.hid fun W hW => (three_cells8 ((hW.block _ (by omega)).trans g3)).1
  have KB : Hid (∀ W, Below w3.heap.size w3 W → W.heap[w2.heap.size]? = some (.cells #[.slice pd1 dd.length cd1, .slice pf1 ff.length cf1, .int .i64 (n1 : Int)] 28 (0, 0))) := Lib.hid fun W hW => (hW.block _ (by omega)).trans k3
  have BA : Hid (Below w3.heap.size w3 w3.drew) := Lib.hid (drew_below8 w3)
  have W3 := Lib.hid hw3
  have HGO := Lib.hid hgo
  have HPOS := Lib.hid hpos
  have HND := Lib.hid (And.intro hn1 (And.intro hdd hff))
  unfold bodyv
  clear hb2 b3 g1 g2 g3 k3 hw3 HSC x0 x1 x2 hgo hpos hn1 hdd hff hf1
  go_wp2_with fail
  rw [W3.out]
  go_region_held3 (fun W => W.cell? ⟨w.heap.size, 0, none⟩ = some (.int .i64 (la : Int)) ∧ W.cell? ⟨w.heap.size, 1, none⟩ = some (.int .i64 (lb : Int)) ∧ W.cell? ⟨w.heap.size, 2, none⟩ = some (.int .i64 (lc : Int)))
    ((refine KS.out _ ?_; with_reducible exact BA.out))
    (first
    | (go_at_call 11; refine (hR.out _).mono ?_; rintro e w' ⟨rfl, hb'⟩; replace BA := Lib.hid (ahead BA.out hb'); clear hb')
    | (go_at_call 12; refine (hRR.out _).mono ?_; rintro e w' ⟨rfl, hb'⟩; replace BA := Lib.hid (ahead BA.out hb'); clear hb'))
  all_goals
    obtain ⟨y0, y1, y2⟩ := KS.out _ BA.out
    go_wp2_with fail
    refine (hRR.out _).mono ?_
    rintro e w5 ⟨rfl, hb5⟩
    have B5 := ahead BA.out hb5
    obtain ⟨r0, r1, r2⟩ := KS.out _ B5
    have BB5 := Lib.hid B5
    have HRS := Lib.hid (rscan8_any (l := ⟨la, lb, lc⟩) w5 (HT.out.below (ahead B3.out B5)) (by omega) hlm)
    rw [limv] at HRS
    clear hb5 B5 y0 y1 y2 BA
    go_wp2_with fail
    refine HRS.out.mono ?_
    rintro e w6 ⟨s2, k2, e2, dv2, gv2, hgo2, rfl, hd2, hf2, hb6⟩
    rw [HGO.out] at hgo2
    simp only [Prod.mk.injEq] at hgo2
    obtain ⟨rfl, rfl, rfl⟩ := hgo2
    have D2 := Lib.hid hd2
    have F2 := Lib.hid hf2
    obtain ⟨pq, cq, rfl, -⟩ := hd2
    obtain ⟨pr, cr, rfl, -⟩ := RS.slice hf2
    generalize hnq : s1.data.length = nq at *
    generalize hnr : s1.fields.length = nr at *
    obtain ⟨w7, hw7⟩ : ∃ w7, w6.alloc (.cells #[.int .i64 (s1.place : Int), .int .u64 (s1.n : Int), .int .i64 (s1.count : Int), .int .i64 (s1.lines : Int), .int .i64 (s1.size : Int), .string (arr s1.text), .slice pq nq cq, .slice pr nr cr, .int .i64 (k1 : Int), .int .i64 (e1 : Int)] 39) = w7 := ⟨_, rfl⟩
    have b7 : Below w6.heap.size w6 w7 := by rw [← hw7]; exact below_box _ _
    have z7 : w7.heap.size = w6.heap.size + 1 := by rw [← hw7]; simp
    have j7 : w7.heap[w6.heap.size]? = some (.cells #[.int .i64 (s1.place : Int), .int .u64 (s1.n : Int), .int .i64 (s1.count : Int), .int .i64 (s1.lines : Int), .int .i64 (s1.size : Int), .string (arr s1.text), .slice pq nq cq, .slice pr nr cr, .int .i64 (k1 : Int), .int .i64 (e1 : Int)] 39 (0, 0)) := by rw [← hw7]; exact World.alloc_heap_new w6 _
    have C7 := ahead (ahead BB5.out hb6) b7
    have CC7 := Lib.hid C7
    have KT : Hid (∀ W, Below w7.heap.size w7 W → W.cell? ⟨w.heap.size, 0, none⟩ = some (.int .i64 (la : Int)) ∧ W.cell? ⟨w.heap.size, 1, none⟩ = some (.int .i64 (lb : Int)) ∧ W.cell? ⟨w.heap.size, 2, none⟩ = some (.int .i64 (lc : Int)) ∧ W.cell? ⟨w2.heap.size, 0, none⟩ = some (.slice pd1 dd.length cd1) ∧ W.cell? ⟨w2.heap.size, 1, none⟩ = some (.slice pf1 ff.length cf1) ∧ W.cell? ⟨w2.heap.size, 2, none⟩ = some (.int .i64 (n1 : Int)) ∧ W.cell? ⟨w6.heap.size, 0, none⟩ = some (.int .i64 (s1.place : Int)) ∧ W.cell? ⟨w6.heap.size, 1, none⟩ = some (.int .u64 (s1.n : Int)) ∧ W.cell? ⟨w6.heap.size, 2, none⟩ = some (.int .i64 (s1.count : Int)) ∧ W.cell? ⟨w6.heap.size, 3, none⟩ = some (.int .i64 (s1.lines : Int)) ∧ W.cell? ⟨w6.heap.size, 4, none⟩ = some (.int .i64 (s1.size : Int)) ∧ W.cell? ⟨w6.heap.size, 5, none⟩ = some (.string (arr s1.text)) ∧ W.cell? ⟨w6.heap.size, 6, none⟩ = some (.slice pq nq cq) ∧ W.cell? ⟨w6.heap.size, 7, none⟩ = some (.slice pr nr cr) ∧ W.cell? ⟨w6.heap.size, 8, none⟩ = some (.int .i64 (k1 : Int)) ∧ W.cell? ⟨w6.heap.size, 9, none⟩ = some (.int .i64 (e1 : Int))) := Lib.hid fun W hW => by
      have h37 := ahead C7 hW
      obtain ⟨e0, e1, e2⟩ := KS.out _ h37
      obtain ⟨⟨f0, f1, f2⟩, -⟩ := three_cells8 (KB.out _ h37)
      obtain ⟨⟨i0, i1, i2, i3, i4, i5, i6, i7, i8, i9⟩, -⟩ := ten_cells ((hW.block _ (by omega)).trans j7)
      exact ⟨e0, e1, e2, f0, f1, f2, i0, i1, i2, i3, i4, i5, i6, i7, i8, i9⟩
    replace D2 := Lib.hid (D2.out.below b7)
    replace F2 := Lib.hid (F2.out.below b7)
    replace D1 := Lib.hid (D1.out.below C7)
    replace F1 := Lib.hid (F1.out.below C7)
    have BA : Hid (Below w7.heap.size w7 w7.drew) := Lib.hid (drew_below8 w7)
    have W7 := Lib.hid hw7
    have hpay : Hid (∀ W, Below w7.heap.size w7 W → _) := Lib.hid fun W hW => payload8_any (l := ⟨la, lb, lc⟩) W (HT.out.below (ahead (ahead B3.out C7) hW)) (by omega) hlm (own_lt W HV.out (ahead (ahead B3.out C7) hW).size) (HSP.out.below (ahead (ahead B3.out C7) hW)) (HBD.out.below (ahead (ahead B3.out C7) hW))
    rw [limv, HGO.out] at hpay
    have hof : Hid (∀ W, Below w7.heap.size w7 W → _) := Lib.hid fun W hW => of_any s1 k1 e1 _ _ W (D2.out.below hW) (F2.out.below hW)
    unfold gotv at hof
    obtain ⟨hn1, hdd, hff⟩ := HND.out
    rw [hn1, hdd, hff] at hof
    unfold bodyv at hof
    have HZ : ∃ bz : Bool, (∀ W, Below w7.heap.size w7 W → Calls Tryd.prog 13 #[.agg #[.slice pd1 dd.length cd1, .slice pf1 ff.length cf1, .int .i64 (n1 : Int)], .agg zbody] W fun e w' => e = .returned (.bool bz) ∧ Below W.heap.size W w') ∧
        (∀ W, Below w7.heap.size w7 W → Calls Tryd.prog 17 #[.agg #[.slice pd1 dd.length cd1, .slice pf1 ff.length cf1, .int .i64 (n1 : Int)], .agg zbody] W fun e w' => e = .returned (.bool bz) ∧ Below W.heap.size W w') := by
      by_cases he : e1 = 0
      · have hn0 : n1 ≠ 0 := by rw [← hn1, if_pos he]; exact HPOS.out he
        exact ⟨false, fun W hW => lsame_none W (D1.out.below hW) (F1.out.below hW) hn0, fun W hW => bsame_size (m := 0) (D' := []) (fs' := []) W (D1.out.below hW) (F1.out.below hW) (RD.nil W) (RS.nil W 2) hn0⟩
      · have hn0 : n1 = 0 := by rw [← hn1, if_neg he]
        have hd0 : dd = [] := by rw [← hdd, if_neg he]
        have hf0 : ff = [] := by rw [← hff, if_neg he]
        subst hn0
        subst hd0
        subst hf0
        exact ⟨true, fun W hW => lsame_true (n := 0) W (D1.out.below hW) (F1.out.below hW) (RD.nil W) (RS.nil W 2) (by decide), fun W hW => bsame_true (n := 0) W (D1.out.below hW) (F1.out.below hW) (RD.nil W) (RS.nil W 2) (by decide)⟩
    obtain ⟨bz, hz1, hz2⟩ := HZ
    unfold zbody at hz1 hz2
    have HZ1 := Lib.hid hz1
    have HZ2 := Lib.hid hz2
    have hbb : (bz == bz) = true := beq_self_eq_true bz
    have HFL := Lib.hid hffl
    clear hb6 b7 j7 hw7 KS KB hf2 r0 r1 r2 HRS BB5 hn1 hdd hff C7 hz1 hz2 HPOS HND hffl hfl HOK hRR hR
    unfold gotv
    go_wp2_with fail
    rw [W7.out]
    go_region_held3 (fun W => W.cell? ⟨w.heap.size, 0, none⟩ = some (.int .i64 (la : Int)) ∧ W.cell? ⟨w.heap.size, 1, none⟩ = some (.int .i64 (lb : Int)) ∧ W.cell? ⟨w.heap.size, 2, none⟩ = some (.int .i64 (lc : Int)) ∧ W.cell? ⟨w2.heap.size, 0, none⟩ = some (.slice pd1 dd.length cd1) ∧ W.cell? ⟨w2.heap.size, 1, none⟩ = some (.slice pf1 ff.length cf1) ∧ W.cell? ⟨w2.heap.size, 2, none⟩ = some (.int .i64 (n1 : Int)) ∧
        W.cell? ⟨w6.heap.size, 0, none⟩ = some (.int .i64 (s1.place : Int)) ∧ W.cell? ⟨w6.heap.size, 1, none⟩ = some (.int .u64 (s1.n : Int)) ∧ W.cell? ⟨w6.heap.size, 2, none⟩ = some (.int .i64 (s1.count : Int)) ∧ W.cell? ⟨w6.heap.size, 3, none⟩ = some (.int .i64 (s1.lines : Int)) ∧ W.cell? ⟨w6.heap.size, 4, none⟩ = some (.int .i64 (s1.size : Int)) ∧ W.cell? ⟨w6.heap.size, 5, none⟩ = some (.string (arr s1.text)) ∧ W.cell? ⟨w6.heap.size, 6, none⟩ = some (.slice pq nq cq) ∧ W.cell? ⟨w6.heap.size, 7, none⟩ = some (.slice pr nr cr) ∧ W.cell? ⟨w6.heap.size, 8, none⟩ = some (.int .i64 (k1 : Int)) ∧ W.cell? ⟨w6.heap.size, 9, none⟩ = some (.int .i64 (e1 : Int)))
      ((refine KT.out _ ?_; with_reducible exact BA.out))
      (first
      | (go_at_call 16; refine (hof.out _ BA.out).mono ?_; rintro e w' ⟨dva, gva, rfl, hda, hfa, hb'⟩; have HDA := Lib.hid hda; have HFA := Lib.hid hfa; obtain ⟨pda, cda, rfl, -⟩ := hda; obtain ⟨pfa, cfa, rfl, -⟩ := RS.slice hfa; replace BA := Lib.hid (ahead BA.out hb'); clear hb' hfa)
      | (go_at_call 13; refine (lsame_true (n := n1) _ (D1.out.below BA.out) (F1.out.below BA.out) HDA.out HFA.out HFL.out).mono ?_; rintro e w' ⟨rfl, hb'⟩; replace BA := Lib.hid (ahead BA.out hb'); clear hb')
      | (go_at_call 17; refine (bsame_true (n := n1) _ (D1.out.below BA.out) (F1.out.below BA.out) HDA.out HFA.out HFL.out).mono ?_; rintro e w' ⟨rfl, hb'⟩; replace BA := Lib.hid (ahead BA.out hb'); clear hb')
      | (go_at_call 17; refine (HZ2.out _ BA.out).mono ?_; rintro e w' ⟨rfl, hb'⟩; replace BA := Lib.hid (ahead BA.out hb'); clear hb')
      | (go_at_call 13; refine (HZ1.out _ BA.out).mono ?_; rintro e w' ⟨rfl, hb'⟩; replace BA := Lib.hid (ahead BA.out hb'); clear hb')
      | (go_at_call 14; refine (hpay.out _ BA.out).mono ?_; rintro e w' ⟨dvp, rfl, hdp, hb'⟩; have HDP := Lib.hid hdp; obtain ⟨pp, cp, rfl, -⟩ := hdp; rw [hnq] at HDP; replace BA := Lib.hid (ahead BA.out hb'); clear hb')
      | (go_at_call 18; refine (rsame8_any _ _ _ s1.data s1.data HDP.out (D2.out.below BA.out)).mono ?_; rintro e w' ⟨rfl, m', rfl⟩; replace BA := Lib.hid (ahead BA.out (drewN_below8 _ m'))))
    all_goals
      go_wp2_with fail
      go_ret
      exact ⟨rfl, ahead (ahead B3.out CC7.out) BA.out⟩

theorem scans8_walk {tv : Value} {T : List UInt8} (a b c : Int) (w : World) (hT : RD w tv T) (hv : ∀ g, tv.ownBlock = some g → g < w.heap.size) (hsp : Spans w) (hbd : Bound w) :
    Calls Tryd.prog 3 #[tv, lim3 a b c] w fun e w' => e = .returned (.bool true) ∧ Below w.heap.size w w' := by
  cases hok : okLs a b c with
  | false => exact scans8_bad a b c hok w hT hsp hbd
  | true =>
    unfold okLs okL at hok
    simp at hok
    obtain ⟨la, rfl⟩ := Int.eq_ofNat_of_zero_le (a := a) (by omega)
    obtain ⟨lb, rfl⟩ := Int.eq_ofNat_of_zero_le (a := b) (by omega)
    obtain ⟨lc, rfl⟩ := Int.eq_ofNat_of_zero_le (a := c) (by omega)
    exact scans8_ok la lb lc (by omega) w hT hv hsp hbd

end Go.Proofs.YtdbignianpkofaaDoor
