/- The law ClockStops, from what the program's clock answers. -/
import Derived.Test.YtcmkdeejofoibaaClkWake
import Derived.Test.YtcmkdeejofoibaaClkTimers
import Derived.Test.YtcmkdeejofoibaaClkSetGo
import Derived.Test.YtcmkdeejofoibaaClkSide
namespace Go.Proofs.Ytcmkdeejofoibaa
open Go.ChangeShapes Go.WideShapes Go.ChangeAt Go.RowKit
open Go.Shelf
open Ck
set_option linter.unusedVariables false
set_option maxRecDepth 100000

theorem results_bool15 {fn : Func} {p : Tmp} (h : fn.results = #[.cell p 4]) (tmps : Array Value) (w : World) (g : Nat) (b : Bool) (hp : tmps.getD p undef = .pointer (some ⟨g, 0, none⟩)) (hg : w.cell? ⟨g, 0, none⟩ = some (.bool b)) :
    (results fn tmps).run Try.prog w = .ok (.bool b) w := by
  have hp' : tmps[p]?.getD undef = .pointer (some ⟨g, 0, none⟩) := by simpa using hp
  simp [results, h, hp', asAddr, loadVar, isAgg, run_underlying Try.underlying4, hg, go_sem]
attribute [local go_sem] Oper.semAt_some

/-- So many were told. -/
structure StI (w4 : World) (R B Bn : Nat) (k S : Nat) (W : World) : Prop where
  below : Below w4.heap.size w4 W
  box : W.heap[B]? = some (.cells #[.pointer (some ⟨R, 0, none⟩)] 24 (0, 0))
  nn : W.heap[Bn]? = some (.cells #[.int .i64 (k : Int)] 3 (0, 0))
  le : k ≤ S
theorem StI.but {w4 : World} {R B Bn k S D : Nat} {A A' : World} (h : StI w4 R B Bn k S A) (hb : But D A A') (h1 : B < D) (h2 : Bn < D) (h3 : w4.heap.size ≤ D) : StI w4 R B Bn k S A' :=
  ⟨hb.below h.below h3 h.below.size, hb.heap h.box (by omega) (by omega), hb.heap h.nn (by omega) (by omega), h.le⟩
theorem StI.put {w4 : World} {R B Bn k S : Nat} {W : World} (h : StI w4 R B Bn k S W) (h1 : B ≠ Bn) (h2 : w4.heap.size ≤ Bn) (hk : k + 1 ≤ S) : StI w4 R B Bn (k + 1) S (W.setCell ⟨Bn, 0, none⟩ (.int .i64 ((k : Int) + 1))) :=
  ⟨h.below.setCell h2 _, (Below.heap_setCell _ _ _ _ h1).trans h.box, by have := heap_set (i := 0) (.int .i64 ((k : Int) + 1)) h.nn; simpa using this, hk⟩
/-- Stopped. -/
def StX (w4 : World) (R B Bn S n : Nat) (H : Nat) (c : Code) (k : Nat) (W : World) : Prop := c = .exit 2 ∧ StI w4 R B Bn S S W ∧ S < n

set_option maxHeartbeats 8000000 in
set_option maxRecDepth 100000 in
theorem stops15_walk {C : Nat → Cs → (Nat → Prop) → World → Prop} (F : Forms15 C) (A : Apart15 C) {q : Option Addr} {ck : Nat} (os : List Op15) (s : Int) (s0 : 0 ≤ s) (s1 : s ≤ 255) (w : World) (hO : Ops15 w q os) (hf : ∀ o ∈ os, o.fits) :
    Calls Try.prog 5 #[.slice q os.length ck, .int .u8 s] w fun e w' => e = .returned (.bool true) ∧ Below w.heap.size w w' := by
  obtain ⟨w0, hw0⟩ : ∃ w0, (w.alloc (.cells #[.int .u8 s] 5)).alloc (.cells #[.bool false] 4) = w0 := ⟨_, rfl⟩
  have b0 : Below w.heap.size w w0 := by rw [← hw0]; exact ahead (below_box _ _) (below_box _ _)
  have z0 : w0.heap.size = w.heap.size + 2 := by rw [← hw0]; simp
  have l0 : w0.heap[w.heap.size]? = some (.cells #[.int .u8 s] 5 (0, 0)) := by rw [← hw0]; exact (Below.heap_alloc _ _ _ (by simp)).trans (heap_alloc_new w _)
  have l1 : w0.heap[w.heap.size + 1]? = some (.cells #[.bool false] 4 (0, 0)) := by rw [← hw0]; exact heap_alloc2_new w _ _
  have HO := Lib.hid (hO.below b0)
  have HFT := Lib.hid hf
  have HF := Lib.hid F
  have HAP := Lib.hid A
  have HW := Lib.hid (wakes15 F w0)
  have HB0 := Lib.hid (And.intro b0 (And.intro z0 (And.intro l0 l1)))
  have H0 := Lib.hid hw0
  clear hO hf F A hw0 b0 l0 l1 z0
  have hnf := neq_fn15
  refine calls_of_marks Try.func5 rfl ?_
  simp only [Try.ntmps5, List.size_toArray, List.length_cons, List.length_nil, Nat.reduceAdd, Nat.reduceSub, Array.replicate_succ, Array.replicate_zero, List.push_toArray, List.append_toArray, List.nil_append, List.cons_append]
  go_wp2_with fail
  rw [H0.out]
  refine HW.out.mono ?_
  rintro e w1 ⟨rfl, hb1⟩
  have B1 := Lib.hid hb1
  clear hb1 HW H0
  have HRES := Lib.hid (fun (W : World) (h : Below w0.heap.size w0 W) => one_cell ((h.block (w.heap.size + 1) (by have := HB0.out.2.1; omega)).trans HB0.out.2.2.2))
  by_cases hg : (20 : Int) < (os.length : Int)
  · obtain ⟨r0, r1⟩ := HRES.out w1 B1.out
    go_wp2_with fail
    refine left_plain rfl (results_bool15 rfl _ _ (w.heap.size + 1) true rfl (World.cell?_setCell_same' _ _ _ (by rw [r0]; rfl))) ?_ (.inl rfl)
    exact ⟨rfl, (ahead HB0.out.1 B1.out).setCell (by simp) _⟩
  · have HN := Lib.hid (HF.out.new w1)
    go_wp2_with fail
    refine HN.out.mono ?_
    rintro e w2 ⟨R, M, rfl, hC, hb2, hm2⟩
    have bb := below_box w2 (.cells #[.int .i64 0, .slice none 0 0] 28)
    have HS := Lib.hid (show Side15 C w0 R w2.heap.size ⟨0, []⟩ ⟨0, []⟩ M none 0 (w2.alloc (.cells #[.int .i64 0, .slice none 0 0] 28)) from
      ⟨HF.out.below hC bb, heap_alloc_new w2 _, RS.nil _ _, fun g hg => by simp [Value.ownBlock] at hg, fun hm => by have := HF.out.lt hC _ hm; omega, fun g hg => by have := hm2 g hg; have := B1.out.size; omega, by have := hb2.size; have := B1.out.size; omega, ahead (ahead B1.out hb2) bb⟩)
    clear hC hb2 hm2 HN B1 bb
    have HG := Lib.hid (show os.length ≤ 20 by omega)
    have HSS := Lib.hid (And.intro s0 s1)
    clear hg s0 s1
    go_wp2_with fail
    go_loopw [23] (fun iv wr => ∃ (j : Nat) (N : Nat → Prop) (p : Option Addr) (c : Nat), j ≤ os.length ∧ iv = .int .i64 (j : Int) ∧ Hid (Side15 C w0 R w2.heap.size (setsF ⟨0, []⟩ (os.take j)) (setsF ⟨0, []⟩ (os.take j)) N p c wr)) (fun iv _ => os.length - (intOf iv).toNat)
    case atStart => exact ⟨0, M, none, 0, Nat.zero_le _, rfl, HS⟩
    case round =>
      clear HS
      obtain ⟨j, N, p, c, hj, rfl, HI⟩ := hrel
      by_cases hlt : j < os.length
      · obtain ⟨o, ho⟩ : ∃ o, os[j]? = some o := ⟨_, List.getElem?_eq_getElem hlt⟩
        obtain ⟨ad, rfl, e0, e1, e2⟩ := HO.out.below HI.out.below j o ho
        have k1 : (0 : Int) ≤ (j : Int) := by omega
        have k2 : (j : Int) < (os.length : Int) := by omega
        have hof := HFT.out o (List.mem_of_getElem? ho)
        have hfit := (setsF_fit (x := ⟨0, []⟩) (os.take j) fit_new (by have := HG.out; simp; omega) fun o ho => HFT.out o (List.mem_of_mem_take ho)).1
        have hsn := setsF_snoc (x := ⟨0, []⟩) ho
        obtain ⟨y, hy⟩ : ∃ y, setsF ⟨0, []⟩ (os.take j) = y := ⟨_, rfl⟩
        rw [hy] at HI hfit hsn
        have HSN := Lib.hid hsn
        have bb := below_box wr (obOp o)
        have HI2 := Lib.hid (HI.out.to HF.out bb)
        have HS := Lib.hid (HF.out.set o.id o.n _ hof.1.1 hof.1.2 HI2.out.one hfit)
        have HFI := Lib.hid (And.intro hof hfit)
        have hnew := heap_alloc_new wr (obOp o)
        obtain ⟨n0, n1, n2⟩ := three15 hnew
        have HNW := Lib.hid hnew
        obtain ⟨kd, id, n⟩ := o
        clear hof hfit hsn ho bb hnew n0 n1 n2 hy
        go_wp2_with fail
        refine HS.out.mono ?_
        rintro e w5 ⟨rfl, N5, hC5, hv5⟩
        have hX5 := (hv5.block wr.heap.size (by simp) (fun hm => by have := HF.out.lt HI.out.one _ hm; omega)).trans HNW.out
        have HI5 := Lib.hid (HI2.out.go HF.out HAP.out hC5 hv5)
        have HS5 := Lib.hid (rset_any y id n p c w5 HI5.out.ts (by have := HFI.out.2.len; omega) HI5.out.lt HFI.out.2.small)
        obtain ⟨n0, n1, n2⟩ := three15 hX5
        obtain ⟨⟨g0, g1⟩, -⟩ := sideCells HI5.out
        clear hC5 hv5 hX5 HS e0 e1 e2 HI2 HNW
        go_wp2_with fail
        refine HS5.out.mono ?_
        rintro e w6 ⟨q6, d6, rfl, ht6, hb6, hl6⟩
        have HI6 := Lib.hid (HI5.out.to HF.out hb6)
        have HD6 := Lib.hid (HI6.out.done HF.out (x1 := setC y id n) ht6 hl6)
        rw [set_now] at HD6
        obtain ⟨⟨g0, g1⟩, gf⟩ := sideCells HI6.out
        have gf0 := gf 0
        have gf1 := gf 1
        clear ht6 hb6 hl6 n0 n1 n2 HI5 HI6 gf
        go_wp2_with fail
        go_roundw
        case rel => exact ⟨j + 1, N5, q6, d6, by omega, by go_num, by rw [HSN.out]; exact HD6⟩
        case measure => simp [intOf]; omega
      · obtain rfl : j = os.length := by omega
        rw [List.take_length] at HI
        obtain ⟨hfit, hnow, hlen⟩ := setsF_fit (x := ⟨0, []⟩) os fit_new (by have := HG.out; simp; omega) HFT.out
        obtain ⟨z, hz⟩ : ∃ z, setsF ⟨0, []⟩ os = z := ⟨_, rfl⟩
        rw [hz] at HI hfit
        have HZ := Lib.hid hfit
        obtain ⟨S, hS⟩ : ∃ S : Nat, s = (S : Int) := ⟨s.toNat, by have := HSS.out; omega⟩
        subst hS
        have bn := below_box wr (.cells #[.int .i64 0] 3)
        have HT := Lib.hid (HF.out.timers (wr.alloc (.cells #[.int .i64 0] 3)) (HI.out.to HF.out bn).one)
        have HNW := Lib.hid (And.intro bn (heap_alloc_new wr (.cells #[.int .i64 0] 3)))
        have hsb := HSS.out.2
        clear hnow hlen hfit hz bn
        go_wp2_with fail
        refine HT.out.mono ?_
        rintro e w5 ⟨B, rfl, hB, hBz, hb5⟩
        have hz5 := hb5.size
        simp at hBz hz5
        have hB5 : B < w5.heap.size := (Array.getElem?_eq_some_iff.1 hB).1
        have HST := Lib.hid (show StI wr R B wr.heap.size 0 S w5 from ⟨ahead HNW.out.1 hb5, hB, (hb5.block _ (by simp)).trans HNW.out.2, Nat.zero_le _⟩)
        have HC : Hid (∀ W, Below wr.heap.size wr W → Side15 C w0 R w2.heap.size z z N p c W ∧ W.cell? ⟨w.heap.size, 0, none⟩ = some (.int .u8 (S : Int)) ∧ W.cell? ⟨w.heap.size + 1, 0, none⟩ = some (.bool false) ∧ W.frozen? ⟨w.heap.size + 1, 0, none⟩ = false) := Lib.hid fun W h => by
          have h1 := HI.out.to HF.out h
          have h2 := HB0.out.2.1
          exact ⟨h1, (one_cell ((h1.below.block w.heap.size (by omega)).trans HB0.out.2.2.1)).1, HRES.out W h1.below⟩
        clear hB hb5 HT HNW
        go_wp2_with fail
        clear hnf
        have HXT : w2.heap.size < wr.heap.size := HI.out.xlt
        have HLL := Lib.hid HZ.out.len
        refine wp_range (wpIn_rangeH (gf := 22) rfl (enters_of Try.func22 (by kernel_rfl) rfl) (HF.out.seq R z N B HZ.out.ok (by have := HZ.out.len; omega)) (fun k y hy => ?_)
          (fun H k W => StI wr R B wr.heap.size k S W) (StX wr R B wr.heap.size S z.l.length) (fun H k A A' h hb => h.but hb (by omega) (by omega) (by omega)) (fun H c k A A' h hb => ⟨h.1, h.2.1.but hb (by omega) (by omega) (by omega), h.2.2⟩) (fun A hA => ⟨hA.box, (HC.out A hA.below).1.one⟩) (fun H => HST.out) ?round ?done ?stop)
        · rw [List.getElem?_map] at hy
          obtain ⟨t, -, rfl⟩ := Option.map_eq_some_iff.1 hy
          rfl
        case round =>
          rintro H k y W hy - hH hHW
          rw [List.getElem?_map] at hy
          obtain ⟨t, ht, rfl⟩ := Option.map_eq_some_iff.1 hy
          obtain ⟨hkl, hke⟩ := List.getElem?_eq_some_iff.1 ht
          have HTT := Lib.hid ht
          clear ht hke
          gi_wp2_with fail
          first | (refine ⟨trivial, ?_⟩; rintro W2 hi hsz) | rintro W2 hi hsz
          obtain ⟨hside, x0, -, -⟩ := HC.out W2 hi.below
          obtain ⟨⟨g0, g1⟩, -⟩ := sideCells hside
          obtain ⟨x4, y4⟩ := one_cell hi.nn
          obtain ⟨-, ad, rfl, e0, e1⟩ := hside.ts.at HTT.out
          have HSI := Lib.hid hi
          have HHZ := Lib.hid (And.intro hH hsz)
          have kk0 : (0 : Int) ≤ (k : Int) := by omega
          have kk1 : (k : Int) < (z.l.length : Int) := by omega
          have hwS : IntKind.i64.wrap (S : Int) = (S : Int) := IntWalk.i64_in _ (by omega)
          have hwk : IntKind.i64.wrap ((k : Int) + 1) = (k : Int) + 1 := IntWalk.i64_in _ (by have := HLL.out; omega)
          clear hi hside hy
          by_cases hkS : k < S
          · have hkS' : (k : Int) < (S : Int) := by omega
            have HP := Lib.hid (HSI.out.put (by omega) (Nat.le_refl _) hkS)
            gi_wp2_with fail
            exact ⟨HeldH.of_all HHZ.out.1 (by simp [World.setCell]) (fun r h0 h1 => Below.heap_setCell _ _ _ _ (by simp; omega)), HP.out⟩
          · have hkS' : (S : Int) ≤ (k : Int) := by omega
            obtain rfl : k = S := by have := HSI.out.le; omega
            gi_wp2_with fail
            exact ⟨Held.refl _ _ _, rfl, HSI.out, hkl⟩
        case done =>
          rintro H W hi hD
          have hi2 : StI wr R B wr.heap.size z.l.length S W := by have : StI wr R B wr.heap.size (z.l.map tmA).length S W := hi; rwa [List.length_map] at this
          obtain ⟨hside, x0, x1, y1⟩ := HC.out W hi2.below
          obtain ⟨⟨g0, g1⟩, -⟩ := sideCells hside
          obtain ⟨x4, y4⟩ := one_cell hi2.nn
          have hle := hi2.le
          have hmin : min (S : Int) (z.l.length : Int) = (z.l.length : Int) := by omega
          have hwS : IntKind.i64.wrap (S : Int) = (S : Int) := IntWalk.i64_in _ (by omega)
          have HSI := Lib.hid (And.intro hi2 hside.below)
          clear hi hi2 hside
          go_wp2_with fail
          all_goals
            try rw [show ((z.l.length : Int) == (S : Int)) = true by simp; omega]
            try rw [show ((S : Int) == (S : Int)) = true by simp]
            have q1 := HB0.out.2.1
            have q2 := HI.out.below.size
            have hD2 : (W.setCell ⟨w.heap.size + 1, 0, none⟩ (.bool true)).heap[w5.heap.size]? = some (.deferred (some [])) := (Below.heap_setCell _ _ _ _ (by simp; omega)).trans hD
            have hbu : But w5.heap.size (W.setCell ⟨w.heap.size + 1, 0, none⟩ (.bool true)) ((W.setCell ⟨w.heap.size + 1, 0, none⟩ (.bool true)).putObj w5.heap.size (.deferred none)) := But.putObj _ _ (.inl rfl) _
            have hres : (W.setCell ⟨w.heap.size + 1, 0, none⟩ (.bool true)).cell? ⟨w.heap.size + 1, 0, none⟩ = some (.bool true) := World.cell?_setCell_same' _ _ _ (by rw [x1]; rfl)
            refine left_mark rfl hD2 (results_bool15 rfl _ _ (w.heap.size + 1) true rfl (hbu.cell hres (by simp; omega) (by simp; omega))) ?_ (.inl rfl)
            have hU : Below w.heap.size w (W.setCell ⟨w.heap.size + 1, 0, none⟩ (.bool true)) := (ahead HB0.out.1 HSI.out.2).setCell (by simp) _
            exact ⟨rfl, hbu.below hU (by omega) hU.size⟩
        case stop =>
          rintro H co k W - hi hD
          obtain ⟨rfl, hi2, hlt⟩ := hi
          refine wpIn_wide.2 ?_
          obtain ⟨hside, x0, x1, y1⟩ := HC.out W hi2.below
          obtain ⟨⟨g0, g1⟩, -⟩ := sideCells hside
          obtain ⟨x4, y4⟩ := one_cell hi2.nn
          have hmin : min (S : Int) (z.l.length : Int) = (S : Int) := by omega
          have hwS : IntKind.i64.wrap (S : Int) = (S : Int) := IntWalk.i64_in _ (by omega)
          have HSI := Lib.hid (And.intro hi2 hside.below)
          clear hi2 hside
          go_wp2_with fail
          all_goals
            try rw [show ((z.l.length : Int) == (S : Int)) = true by simp; omega]
            try rw [show ((S : Int) == (S : Int)) = true by simp]
            have q1 := HB0.out.2.1
            have q2 := HI.out.below.size
            have hD2 : (W.setCell ⟨w.heap.size + 1, 0, none⟩ (.bool true)).heap[w5.heap.size]? = some (.deferred (some [])) := (Below.heap_setCell _ _ _ _ (by simp; omega)).trans hD
            have hbu : But w5.heap.size (W.setCell ⟨w.heap.size + 1, 0, none⟩ (.bool true)) ((W.setCell ⟨w.heap.size + 1, 0, none⟩ (.bool true)).putObj w5.heap.size (.deferred none)) := But.putObj _ _ (.inl rfl) _
            have hres : (W.setCell ⟨w.heap.size + 1, 0, none⟩ (.bool true)).cell? ⟨w.heap.size + 1, 0, none⟩ = some (.bool true) := World.cell?_setCell_same' _ _ _ (by rw [x1]; rfl)
            refine left_mark rfl hD2 (results_bool15 rfl _ _ (w.heap.size + 1) true rfl (hbu.cell hres (by simp; omega) (by simp; omega))) ?_ (.inl rfl)
            have hU : Below w.heap.size w (W.setCell ⟨w.heap.size + 1, 0, none⟩ (.bool true)) := (ahead HB0.out.1 HSI.out.2).setCell (by simp) _
            exact ⟨rfl, hbu.below hU (by omega) hU.size⟩

end Go.Proofs.Ytcmkdeejofoibaa
