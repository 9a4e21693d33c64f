/- The law ClockActs, from what the program's clock answers. -/
import Derived.Test.YtcmkdeejofoibaaClkWake
import Derived.Test.YtcmkdeejofoibaaClkTimers
import Derived.Test.YtcmkdeejofoibaaClkSetGo
import Derived.Test.YtcmkdeejofoibaaClkSide
import Derived.Test.YtcmkdeejofoibaaClkNeq
import Derived.BigQuiet
import Derived.Deep.Cut
namespace Go.Proofs.Ytcmkdeejofoibaa
open Go.ChangeShapes Go.WideShapes Go.ChangeAt Go.RowKit
open Ck
set_option linter.unusedVariables false
set_option maxRecDepth 100000

theorem kind15 (x : UInt8) : ∃ m : Int, (x.toNat : Int).tmod 4 = m ∧ (m = 0 ∨ m = 1 ∨ m = 2 ∨ m = 3) := ⟨_, rfl, by rw [Int.tmod_eq_emod_of_nonneg (by omega)]; omega⟩
theorem drewN_below15 (w : World) (n : Nat) : Below w.heap.size w (w.drewN n) := ⟨rfl, rfl, rfl, Nat.le_refl _, fun _ _ => rfl⟩
namespace Ck
theorem clear_now (x : Cs) (id : Int) : (clearC x id).now = x.now := by
  unfold clearC
  split <;> rfl
theorem adv_now {x : Cs} {j : Nat} (h : x.now ≤ 1073741824 * j) (n : Int) : (advC x n).now ≤ 1073741824 * (j + 1 : Nat) := by
  unfold advC
  cases hb : badN n 0 with
  | true => rw [if_pos rfl]; push_cast; omega
  | false =>
    have hn : 0 ≤ n ∧ n ≤ 1073741824 := by unfold badN at hb; simp at hb; omega
    rw [if_neg (by decide)]
    show x.now + n ≤ _
    push_cast
    omega
theorem advL_len {x : Cs} (h : Fit x) (n : Int) : (advL x n).length ≤ 1000000 := by
  unfold advL
  split
  · simp
  · rw [List.length_map]
    have := List.length_filter_le (fun t => decide (t.due ≤ x.now + n)) x.l
    have := h.len
    omega
end Ck
/-- Between two calls: both clocks stand alike. -/
structure Act15 (C : Nat → Cs → (Nat → Prop) → World → Prop) (w : World) (R X j : Nat) (y : Cs) (M : Nat → Prop) (p : Option Addr) (c : Nat) (W : World) : Prop where
  side : Side15 C w R X y y M p c W
  fit : Fit y
  now : y.now ≤ 1073741824 * j
  len : y.l.length ≤ j

set_option maxHeartbeats 16000000 in
set_option maxRecDepth 100000 in
theorem acts15_walk {C : Nat → Cs → (Nat → Prop) → World → Prop} (F : Forms15 C) (A : Apart15 C) {q : Option Addr} {ck : Nat} (os : List Op15) (w : World) (hO : Ops15 w q os) (hf : ∀ o ∈ os, o.fits) :
    Calls Try.prog 3 #[.slice q os.length ck] w fun e w' => e = .returned (.bool true) ∧ Below w.heap.size w w' := by
  have HO := Lib.hid hO
  have HFT := Lib.hid hf
  have HF := Lib.hid F
  have HAP := Lib.hid A
  have HW := Lib.hid (wakes15 F w)
  clear hO hf F A
  go_enter Try.func3, Try.ntmps3
  go_wp2_with fail
  refine HW.out.mono ?_
  rintro e w1 ⟨rfl, hb1⟩
  have B1 := Lib.hid hb1
  clear hb1 HW
  by_cases hg : (30 : Int) < (os.length : Int)
  · go_wp2_with fail
    go_ret
    exact ⟨rfl, B1.out⟩
  · have HN := Lib.hid (HF.out.new w1)
    go_wp2_with fail
    refine HN.out.mono ?_
    rintro e w2 ⟨R, M, rfl, hC, hb2, hm2⟩
    have bb := below_box w2 (.cells #[.int .i64 0, .slice none 0 0] 28)
    have HS := Lib.hid (show Act15 C w R w2.heap.size 0 ⟨0, []⟩ M none 0 (w2.alloc (.cells #[.int .i64 0, .slice none 0 0] 28)) from
      ⟨⟨HF.out.below hC bb, heap_alloc_new w2 _, RS.nil _ _, fun g hg => by simp [Value.ownBlock] at hg, fun hm => by have := HF.out.lt hC _ hm; omega, fun g hg => by have := hm2 g hg; have := B1.out.size; omega, by have := hb2.size; have := B1.out.size; omega, ahead (ahead B1.out hb2) bb⟩, fit_new, by simp, by simp⟩)
    clear hC hb2 hm2 HN B1 bb
    have HG := Lib.hid (show os.length ≤ 30 by omega)
    clear hg
    go_wp2_with fail
    go_loopw [30] (fun iv wr => ∃ (j : Nat) (y : Cs) (N : Nat → Prop) (p : Option Addr) (c : Nat), j ≤ os.length ∧ iv = .int .i64 (j : Int) ∧ Hid (Act15 C w R w2.heap.size j y N p c wr)) (fun iv _ => os.length - (intOf iv).toNat)
    case atStart => exact ⟨0, ⟨0, []⟩, M, none, 0, Nat.zero_le _, rfl, HS⟩
    case round =>
      clear HS
      obtain ⟨j, y, N, p, c, hj, rfl, HI⟩ := hrel
      by_cases hlt : j < os.length
      · obtain ⟨o, ho⟩ : ∃ o, os[j]? = some o := ⟨_, List.getElem?_eq_getElem hlt⟩
        obtain ⟨ad, rfl, e0, e1, e2⟩ := HO.out.below HI.out.side.below j o ho
        have k1 : (0 : Int) ≤ (j : Int) := by omega
        have k2 : (j : Int) < (os.length : Int) := by omega
        have hof := HFT.out o (List.mem_of_getElem? ho)
        have bb := below_box wr (obOp o)
        have HI2 := Lib.hid (HI.out.side.to HF.out bb)
        have HFI := Lib.hid (And.intro hof HI.out.fit)
        have hnew := heap_alloc_new wr (obOp o)
        obtain ⟨n0, n1, n2⟩ := three15 hnew
        have HNW := Lib.hid hnew
        have HNA := Lib.hid (show y.now + 1073741824 ≤ 1099511627776 ∧ y.l.length ≤ 1000000 ∧ y.l.length + 1 ≤ 1000 by have := HI.out.now; have := HI.out.len; have := HG.out; omega)
        obtain ⟨kd, id, n⟩ := o
        obtain ⟨m, hm, hm3⟩ := kind15 kd
        have hm' : IntKind.u8.wrap ((kd.toNat : Int).tmod 4) = m := by rw [hm]; exact IntWalk.u8_in _ (by omega)
        clear hof ho bb hnew n0 n1 n2
        rcases hm3 with rfl | rfl | rfl | rfl
        · have HS := Lib.hid (HF.out.set id n _ HFI.out.1.1.1 HFI.out.1.1.2 HI2.out.one HFI.out.2)
          obtain ⟨E, hE⟩ : ∃ E, setE n = E := ⟨_, rfl⟩
          rw [hE] at HS
          go_wp2_with fail
          refine HS.out.mono ?_
          rintro e w5 ⟨rfl, N5, hC5, hv5⟩
          have hX5 := (hv5.block wr.heap.size (by simp) (fun hm => by have := HF.out.lt HI.out.side.one _ hm; omega)).trans HNW.out
          have HI5 := Lib.hid (HI2.out.go HF.out HAP.out hC5 hv5)
          have HZ5 := Lib.hid hv5.size
          have HR5 := Lib.hid (rset_any y id n p c w5 HI5.out.ts HNA.out.2.1 HI5.out.lt HFI.out.2.small)
          rw [hE] at HR5
          obtain ⟨n0, n1, n2⟩ := three15 hX5
          obtain ⟨⟨g0, g1⟩, -⟩ := sideCells HI5.out
          have HX5 := Lib.hid hX5
          clear hC5 hv5 hX5 HS e0 e1 e2 HI2 HNW hE
          go_wp2_with fail
          refine HR5.out.mono ?_
          rintro e w6 ⟨q6, d6, rfl, ht6, hb6, hl6⟩
          have HI6 := Lib.hid (HI5.out.to HF.out hb6)
          have HXZ0 := Lib.hid (show wr.heap.size < w5.heap.size by have := HZ5.out; simp at this; omega)
          have HX6 := Lib.hid ((hb6.block wr.heap.size HXZ0.out).trans HX5.out)
          have hxx : wr.heap.size ≠ w2.heap.size := by have := HI.out.side.xlt; omega
          have HX7 := Lib.hid (((Below.heap_setCell (w6.setCell ⟨w2.heap.size, 0, none⟩ (.int .i64 y.now)) ⟨w2.heap.size, 1, none⟩ (.slice q6 (setC y id n).l.length d6) _ hxx).trans (Below.heap_setCell w6 ⟨w2.heap.size, 0, none⟩ (.int .i64 y.now) _ hxx)).trans HX6.out)
          have HS7 := Lib.hid (HI6.out.done HF.out (x1 := setC y id n) ht6 hl6)
          rw [set_now] at HS7
          have HXZ := Lib.hid (show wr.heap.size < ((w6.setCell ⟨w2.heap.size, 0, none⟩ (.int .i64 y.now)).setCell ⟨w2.heap.size, 1, none⟩ (.slice q6 (setC y id n).l.length d6)).heap.size by have := HXZ0.out; have := hb6.size; simp [World.setCell]; omega)
          obtain ⟨⟨g0, g1⟩, gf⟩ := sideCells HI6.out
          have gf0 := gf 0
          have gf1 := gf 1
          have HFT1 := Lib.hid (show Fit (setC y id n) ∧ (setC y id n).now ≤ 1073741824 * (j + 1 : Nat) ∧ (setC y id n).l.length ≤ j + 1 from ⟨fit_set HFI.out.2 id n HNA.out.2.2 HFI.out.1.1, by rw [set_now]; have := HI.out.now; push_cast; omega, by have := set_len y id n; have := HI.out.len; omega⟩)
          have HYN := Lib.hid (set_now y id n)
          clear ht6 hb6 hl6 HI5 HI6 gf HR5 HX5 HX6 hxx HXZ0 HZ5 HNA
          obtain ⟨y1, hy1⟩ : ∃ y1, setC y id n = y1 := ⟨_, rfl⟩
          rw [hy1] at HX7 HS7 HXZ HFT1 ⊢
          clear hy1 n0 n1 n2
          go_upto_region 27 with (fail)
          clear g0 g1 gf0 gf1
          generalize ((w6.setCell ⟨w2.heap.size, 0, none⟩ (.int .i64 y.now)).setCell ⟨w2.heap.size, 1, none⟩ (.slice q6 y1.l.length d6)) = W7 at HX7 HS7 HXZ ⊢
          obtain ⟨n0, n1, n2⟩ := three15 HX7.out
          obtain ⟨⟨la, lb⟩, hl⟩ : ∃ z, leftC y1 id = z := ⟨_, rfl⟩
          have HL := Lib.hid (HF.out.left id W7 HFI.out.1.1.1 HFI.out.1.1.2 HS7.out.one HFT1.out.1)
          have HLR : Hid (∀ W q d, TS W (.slice q y1.l.length d) y1.l → _) := Lib.hid fun W q d (h : TS W (.slice q y1.l.length d) y1.l) => rleft_any y1 id q d W h (by have := HFT1.out.1.len; omega) HFT1.out.1.small
          rw [hl] at HL HLR
          clear hl
          go_wp2_with fail
          refine HL.out.mono ?_
          rintro e w8 ⟨rfl, hb8⟩
          have HS8 := Lib.hid (HS7.out.to HF.out hb8)
          have hX8 := (hb8.block wr.heap.size HXZ.out).trans HX7.out
          have HR := Lib.hid (HLR.out w8 _ _ HS8.out.ts)
          obtain ⟨⟨g0, g1⟩, -⟩ := sideCells HS8.out
          clear n0 n1 n2
          obtain ⟨n0, n1, n2⟩ := three15 hX8
          clear hX8 HL hb8 HLR
          go_wp2_with fail
          refine HR.out.mono ?_
          rintro e w9 ⟨rfl, hb9⟩
          have HS9 := Lib.hid (HS8.out.to HF.out hb9)
          have HNO := Lib.hid (fun nq => (HF.out.now (w9.drewN nq) (HF.out.keep HS9.out.one (W' := w9.drewN nq) fun g hg => by simp)).mono fun e w' h => And.intro h.1 h.2.symm)
          clear g0 g1 n0 n1 n2 hb9 HR HS8 HS7 HX7
          obtain ⟨⟨g0, g1⟩, -⟩ := sideCells HS9.out
          have hq0 : (E != E) = false := by simp
          have hq1 : (y1.now != y1.now) = false := by simp
          have hq2 : (la != la) = false := by simp
          have hq3 : (lb != lb) = false := by simp
          go_wp2_with fail
          go_quiet ((go_at_call 18; exact Calls.quiet_of_same (HNO.out _)))
          go_wp2_with fail
          go_roundw
          case rel => exact ⟨j + 1, y1, N5, q6, d6, by omega, by go_num, Lib.hid ⟨HS9.out.to HF.out (drewN_below15 w9 nq), HFT1.out.1, HFT1.out.2.1, HFT1.out.2.2⟩⟩
          case measure => simp [intOf]; omega
        · have HS := Lib.hid (HF.out.set id n _ HFI.out.1.1.1 HFI.out.1.1.2 HI2.out.one HFI.out.2)
          obtain ⟨E, hE⟩ : ∃ E, setE n = E := ⟨_, rfl⟩
          rw [hE] at HS
          go_wp2_with fail
          refine HS.out.mono ?_
          rintro e w5 ⟨rfl, N5, hC5, hv5⟩
          have hX5 := (hv5.block wr.heap.size (by simp) (fun hm => by have := HF.out.lt HI.out.side.one _ hm; omega)).trans HNW.out
          have HI5 := Lib.hid (HI2.out.go HF.out HAP.out hC5 hv5)
          have HZ5 := Lib.hid hv5.size
          have HR5 := Lib.hid (rset_any y id n p c w5 HI5.out.ts HNA.out.2.1 HI5.out.lt HFI.out.2.small)
          rw [hE] at HR5
          obtain ⟨n0, n1, n2⟩ := three15 hX5
          obtain ⟨⟨g0, g1⟩, -⟩ := sideCells HI5.out
          have HX5 := Lib.hid hX5
          clear hC5 hv5 hX5 HS e0 e1 e2 HI2 HNW hE
          go_wp2_with fail
          refine HR5.out.mono ?_
          rintro e w6 ⟨q6, d6, rfl, ht6, hb6, hl6⟩
          have HI6 := Lib.hid (HI5.out.to HF.out hb6)
          have HXZ0 := Lib.hid (show wr.heap.size < w5.heap.size by have := HZ5.out; simp at this; omega)
          have HX6 := Lib.hid ((hb6.block wr.heap.size HXZ0.out).trans HX5.out)
          have hxx : wr.heap.size ≠ w2.heap.size := by have := HI.out.side.xlt; omega
          have HX7 := Lib.hid (((Below.heap_setCell (w6.setCell ⟨w2.heap.size, 0, none⟩ (.int .i64 y.now)) ⟨w2.heap.size, 1, none⟩ (.slice q6 (setC y id n).l.length d6) _ hxx).trans (Below.heap_setCell w6 ⟨w2.heap.size, 0, none⟩ (.int .i64 y.now) _ hxx)).trans HX6.out)
          have HS7 := Lib.hid (HI6.out.done HF.out (x1 := setC y id n) ht6 hl6)
          rw [set_now] at HS7
          have HXZ := Lib.hid (show wr.heap.size < ((w6.setCell ⟨w2.heap.size, 0, none⟩ (.int .i64 y.now)).setCell ⟨w2.heap.size, 1, none⟩ (.slice q6 (setC y id n).l.length d6)).heap.size by have := HXZ0.out; have := hb6.size; simp [World.setCell]; omega)
          obtain ⟨⟨g0, g1⟩, gf⟩ := sideCells HI6.out
          have gf0 := gf 0
          have gf1 := gf 1
          have HFT1 := Lib.hid (show Fit (setC y id n) ∧ (setC y id n).now ≤ 1073741824 * (j + 1 : Nat) ∧ (setC y id n).l.length ≤ j + 1 from ⟨fit_set HFI.out.2 id n HNA.out.2.2 HFI.out.1.1, by rw [set_now]; have := HI.out.now; push_cast; omega, by have := set_len y id n; have := HI.out.len; omega⟩)
          have HYN := Lib.hid (set_now y id n)
          clear ht6 hb6 hl6 HI5 HI6 gf HR5 HX5 HX6 hxx HXZ0 HZ5 HNA
          obtain ⟨y1, hy1⟩ : ∃ y1, setC y id n = y1 := ⟨_, rfl⟩
          rw [hy1] at HX7 HS7 HXZ HFT1 ⊢
          clear hy1 n0 n1 n2
          go_upto_region 27 with (fail)
          clear g0 g1 gf0 gf1
          generalize ((w6.setCell ⟨w2.heap.size, 0, none⟩ (.int .i64 y.now)).setCell ⟨w2.heap.size, 1, none⟩ (.slice q6 y1.l.length d6)) = W7 at HX7 HS7 HXZ ⊢
          obtain ⟨n0, n1, n2⟩ := three15 HX7.out
          obtain ⟨⟨la, lb⟩, hl⟩ : ∃ z, leftC y1 id = z := ⟨_, rfl⟩
          have HL := Lib.hid (HF.out.left id W7 HFI.out.1.1.1 HFI.out.1.1.2 HS7.out.one HFT1.out.1)
          have HLR : Hid (∀ W q d, TS W (.slice q y1.l.length d) y1.l → _) := Lib.hid fun W q d (h : TS W (.slice q y1.l.length d) y1.l) => rleft_any y1 id q d W h (by have := HFT1.out.1.len; omega) HFT1.out.1.small
          rw [hl] at HL HLR
          clear hl
          go_wp2_with fail
          refine HL.out.mono ?_
          rintro e w8 ⟨rfl, hb8⟩
          have HS8 := Lib.hid (HS7.out.to HF.out hb8)
          have hX8 := (hb8.block wr.heap.size HXZ.out).trans HX7.out
          have HR := Lib.hid (HLR.out w8 _ _ HS8.out.ts)
          obtain ⟨⟨g0, g1⟩, -⟩ := sideCells HS8.out
          clear n0 n1 n2
          obtain ⟨n0, n1, n2⟩ := three15 hX8
          clear hX8 HL hb8 HLR
          go_wp2_with fail
          refine HR.out.mono ?_
          rintro e w9 ⟨rfl, hb9⟩
          have HS9 := Lib.hid (HS8.out.to HF.out hb9)
          have HNO := Lib.hid (fun nq => (HF.out.now (w9.drewN nq) (HF.out.keep HS9.out.one (W' := w9.drewN nq) fun g hg => by simp)).mono fun e w' h => And.intro h.1 h.2.symm)
          clear g0 g1 n0 n1 n2 hb9 HR HS8 HS7 HX7
          obtain ⟨⟨g0, g1⟩, -⟩ := sideCells HS9.out
          have hq0 : (E != E) = false := by simp
          have hq1 : (y1.now != y1.now) = false := by simp
          have hq2 : (la != la) = false := by simp
          have hq3 : (lb != lb) = false := by simp
          go_wp2_with fail
          go_quiet ((go_at_call 18; exact Calls.quiet_of_same (HNO.out _)))
          go_wp2_with fail
          go_roundw
          case rel => exact ⟨j + 1, y1, N5, q6, d6, by omega, by go_num, Lib.hid ⟨HS9.out.to HF.out (drewN_below15 w9 nq), HFT1.out.1, HFT1.out.2.1, HFT1.out.2.2⟩⟩
          case measure => simp [intOf]; omega
        · have HS := Lib.hid (HF.out.clear id _ HFI.out.1.1.1 HFI.out.1.1.2 HI2.out.one HFI.out.2)
          obtain ⟨E, hE⟩ : ∃ E, clearE y id = E := ⟨_, rfl⟩
          rw [hE] at HS
          go_wp2_with fail
          refine HS.out.mono ?_
          rintro e w5 ⟨rfl, N5, hC5, hv5⟩
          have hX5 := (hv5.block wr.heap.size (by simp) (fun hm => by have := HF.out.lt HI.out.side.one _ hm; omega)).trans HNW.out
          have HI5 := Lib.hid (HI2.out.go HF.out HAP.out hC5 hv5)
          have HZ5 := Lib.hid hv5.size
          have HR5 := Lib.hid (rclear_any y id p c w5 HI5.out.ts HNA.out.2.1 HI5.out.lt)
          rw [hE] at HR5
          obtain ⟨n0, n1, n2⟩ := three15 hX5
          obtain ⟨⟨g0, g1⟩, -⟩ := sideCells HI5.out
          have HX5 := Lib.hid hX5
          clear hC5 hv5 hX5 HS e0 e1 e2 HI2 HNW hE
          go_wp2_with fail
          refine HR5.out.mono ?_
          rintro e w6 ⟨q6, d6, rfl, ht6, hb6, hl6⟩
          have HI6 := Lib.hid (HI5.out.to HF.out hb6)
          have HXZ0 := Lib.hid (show wr.heap.size < w5.heap.size by have := HZ5.out; simp at this; omega)
          have HX6 := Lib.hid ((hb6.block wr.heap.size HXZ0.out).trans HX5.out)
          have hxx : wr.heap.size ≠ w2.heap.size := by have := HI.out.side.xlt; omega
          have HX7 := Lib.hid (((Below.heap_setCell (w6.setCell ⟨w2.heap.size, 0, none⟩ (.int .i64 y.now)) ⟨w2.heap.size, 1, none⟩ (.slice q6 (clearC y id).l.length d6) _ hxx).trans (Below.heap_setCell w6 ⟨w2.heap.size, 0, none⟩ (.int .i64 y.now) _ hxx)).trans HX6.out)
          have HS7 := Lib.hid (HI6.out.done HF.out (x1 := clearC y id) ht6 hl6)
          rw [clear_now] at HS7
          have HXZ := Lib.hid (show wr.heap.size < ((w6.setCell ⟨w2.heap.size, 0, none⟩ (.int .i64 y.now)).setCell ⟨w2.heap.size, 1, none⟩ (.slice q6 (clearC y id).l.length d6)).heap.size by have := HXZ0.out; have := hb6.size; simp [World.setCell]; omega)
          obtain ⟨⟨g0, g1⟩, gf⟩ := sideCells HI6.out
          have gf0 := gf 0
          have gf1 := gf 1
          have HFT1 := Lib.hid (show Fit (clearC y id) ∧ (clearC y id).now ≤ 1073741824 * (j + 1 : Nat) ∧ (clearC y id).l.length ≤ j + 1 from ⟨fit_clear HFI.out.2 id, by rw [clear_now]; have := HI.out.now; push_cast; omega, by have := clear_len y id; have := HI.out.len; omega⟩)
          have HYN := Lib.hid (clear_now y id)
          clear ht6 hb6 hl6 HI5 HI6 gf HR5 HX5 HX6 hxx HXZ0 HZ5 HNA
          obtain ⟨y1, hy1⟩ : ∃ y1, clearC y id = y1 := ⟨_, rfl⟩
          rw [hy1] at HX7 HS7 HXZ HFT1 ⊢
          clear hy1 n0 n1 n2
          go_upto_region 27 with (fail)
          clear g0 g1 gf0 gf1
          generalize ((w6.setCell ⟨w2.heap.size, 0, none⟩ (.int .i64 y.now)).setCell ⟨w2.heap.size, 1, none⟩ (.slice q6 y1.l.length d6)) = W7 at HX7 HS7 HXZ ⊢
          obtain ⟨n0, n1, n2⟩ := three15 HX7.out
          obtain ⟨⟨la, lb⟩, hl⟩ : ∃ z, leftC y1 id = z := ⟨_, rfl⟩
          have HL := Lib.hid (HF.out.left id W7 HFI.out.1.1.1 HFI.out.1.1.2 HS7.out.one HFT1.out.1)
          have HLR : Hid (∀ W q d, TS W (.slice q y1.l.length d) y1.l → _) := Lib.hid fun W q d (h : TS W (.slice q y1.l.length d) y1.l) => rleft_any y1 id q d W h (by have := HFT1.out.1.len; omega) HFT1.out.1.small
          rw [hl] at HL HLR
          clear hl
          go_wp2_with fail
          refine HL.out.mono ?_
          rintro e w8 ⟨rfl, hb8⟩
          have HS8 := Lib.hid (HS7.out.to HF.out hb8)
          have hX8 := (hb8.block wr.heap.size HXZ.out).trans HX7.out
          have HR := Lib.hid (HLR.out w8 _ _ HS8.out.ts)
          obtain ⟨⟨g0, g1⟩, -⟩ := sideCells HS8.out
          clear n0 n1 n2
          obtain ⟨n0, n1, n2⟩ := three15 hX8
          clear hX8 HL hb8 HLR
          go_wp2_with fail
          refine HR.out.mono ?_
          rintro e w9 ⟨rfl, hb9⟩
          have HS9 := Lib.hid (HS8.out.to HF.out hb9)
          have HNO := Lib.hid (fun nq => (HF.out.now (w9.drewN nq) (HF.out.keep HS9.out.one (W' := w9.drewN nq) fun g hg => by simp)).mono fun e w' h => And.intro h.1 h.2.symm)
          clear g0 g1 n0 n1 n2 hb9 HR HS8 HS7 HX7
          obtain ⟨⟨g0, g1⟩, -⟩ := sideCells HS9.out
          have hq0 : (E != E) = false := by simp
          have hq1 : (y1.now != y1.now) = false := by simp
          have hq2 : (la != la) = false := by simp
          have hq3 : (lb != lb) = false := by simp
          go_wp2_with fail
          go_quiet ((go_at_call 18; exact Calls.quiet_of_same (HNO.out _)))
          go_wp2_with fail
          go_roundw
          case rel => exact ⟨j + 1, y1, N5, q6, d6, by omega, by go_num, Lib.hid ⟨HS9.out.to HF.out (drewN_below15 w9 nq), HFT1.out.1, HFT1.out.2.1, HFT1.out.2.2⟩⟩
          case measure => simp [intOf]; omega
        · have HS := Lib.hid (HF.out.adv n _ HI2.out.one HFI.out.2)
          obtain ⟨E, hE⟩ : ∃ E, advE n = E := ⟨_, rfl⟩
          obtain ⟨L, hL⟩ : ∃ L, advL y n = L := ⟨_, rfl⟩
          have hLl : L.length ≤ 1000000 := by rw [← hL]; exact advL_len HFI.out.2 n
          obtain ⟨y1, hy1⟩ : ∃ y1, advC y n = y1 := ⟨_, rfl⟩
          rw [hE, hL, hy1] at HS
          go_wp2_with fail
          refine HS.out.mono ?_
          rintro e w5 ⟨p5, c5, rfl, hi5, ho5, N5, hC5, hv5, hn5⟩
          have hX5 := (hv5.block wr.heap.size (by simp) (fun hm => by have := HF.out.lt HI.out.side.one _ hm; omega)).trans HNW.out
          have HI5 := Lib.hid (HI2.out.go HF.out HAP.out hC5 hv5)
          have HZ5 := Lib.hid hv5.size
          have HR5 := Lib.hid (radvance_any y n p c w5 HI5.out.ts HNA.out.2.1 HI5.out.lt HFI.out.2.small)
          rw [hE, hL, hy1] at HR5
          have HFT1 := Lib.hid (show Fit y1 ∧ y1.now ≤ 1073741824 * (j + 1 : Nat) ∧ y1.l.length ≤ j + 1 by rw [← hy1]; exact ⟨fit_adv HFI.out.2 n HNA.out.1, adv_now (HI.out.now) n, by have := adv_len y n; have := HI.out.len; omega⟩)
          have HNL := Lib.hid hLl
          have HI5L := Lib.hid hi5
          obtain ⟨n0, n1, n2⟩ := three15 hX5
          obtain ⟨⟨g0, g1⟩, -⟩ := sideCells HI5.out
          have HX5 := Lib.hid hX5
          clear hi5 ho5 hC5 hv5 hn5 hX5 HS e0 e1 e2 HI2 HNW hE hL hy1 hLl
          go_wp2_with fail
          refine HR5.out.mono ?_
          rintro e w6 ⟨q6, d6, r6, b6, rfl, ht6, hi6, hb6, hl6, hr6⟩
          obtain ⟨w7, hw7⟩ : ∃ w7, w6.alloc (.cells #[.int .i64 y1.now, .slice q6 y1.l.length d6] 28) = w7 := ⟨_, rfl⟩
          have hb7 : Below w6.heap.size w6 w7 := by rw [← hw7]; exact below_box _ _
          have hY7 : w7.heap[w6.heap.size]? = some (.cells #[.int .i64 y1.now, .slice q6 y1.l.length d6] 28 (0, 0)) := by rw [← hw7]; exact heap_alloc_new w6 _
          have hb57 := ahead hb6 hb7
          have HNU := Lib.hid (numbers_any L L p5 r6 c5 b6 w7 (HI5L.out.below hb57) (hi6.below hb7) HNL.out HNL.out)
          rw [decide_eq_true rfl] at HNU
          have HI7 := Lib.hid (HI5.out.to HF.out hb57)
          have HY7 := Lib.hid hY7
          have HT7 := Lib.hid (And.intro (TS.below ht6 hb7) (fun g hg => Nat.lt_of_lt_of_le (hl6 g hg) hb7.size))
          have HXZ0 := Lib.hid (show wr.heap.size < w5.heap.size by have := HZ5.out; simp at this; omega)
          have HX7 := Lib.hid ((hb57.block wr.heap.size HXZ0.out).trans HX5.out)
          have HZ7 := Lib.hid (show w5.heap.size ≤ w7.heap.size ∧ w6.heap.size < w7.heap.size from ⟨hb57.size, (Array.getElem?_eq_some_iff.1 hY7).1⟩)
          clear n0 n1 n2 g0 g1 ht6 hi6 hb6 hl6 hr6 hb57 hb7 hY7 HI5 HI5L HX5 HR5 HZ5 HNA
          go_wp2_with fail
          try rw [hw7]
          clear hw7
          refine HNU.out.mono ?_
          rintro e w8 ⟨rfl, hb8⟩
          have HI8 := Lib.hid (HI7.out.to HF.out hb8)
          have HX8 := Lib.hid ((hb8.block wr.heap.size (by have := HXZ0.out; have := HZ7.out; omega)).trans HX7.out)
          obtain ⟨⟨z0, z1⟩, -⟩ := two15 ((hb8.block w6.heap.size HZ7.out.2).trans HY7.out)
          obtain ⟨⟨g0, g1⟩, gf⟩ := sideCells HI8.out
          have gf0 := gf 0
          have gf1 := gf 1
          have HS7 := Lib.hid (HI8.out.done HF.out (x1 := y1) (HT7.out.1.below hb8) (fun g hg => Nat.lt_of_lt_of_le (HT7.out.2 g hg) hb8.size))
          have hxx : wr.heap.size ≠ w2.heap.size := by have := HI.out.side.xlt; omega
          have HX7' := Lib.hid (((Below.heap_setCell (w8.setCell ⟨w2.heap.size, 0, none⟩ (.int .i64 y1.now)) ⟨w2.heap.size, 1, none⟩ (.slice q6 y1.l.length d6) _ hxx).trans (Below.heap_setCell w8 ⟨w2.heap.size, 0, none⟩ (.int .i64 y1.now) _ hxx)).trans HX8.out)
          have HXZ := Lib.hid (show wr.heap.size < ((w8.setCell ⟨w2.heap.size, 0, none⟩ (.int .i64 y1.now)).setCell ⟨w2.heap.size, 1, none⟩ (.slice q6 y1.l.length d6)).heap.size by have := HXZ0.out; have := HZ7.out; have := hb8.size; simp [World.setCell]; omega)
          clear HX7 gf hb8 hxx HI8 HI7 HT7 HNU HY7 HX8
          have HX7 := HX7'
          clear HX7'
          go_upto_region 27 with (fail)
          clear g0 g1 gf0 gf1 z0 z1
          generalize ((w8.setCell ⟨w2.heap.size, 0, none⟩ (.int .i64 y1.now)).setCell ⟨w2.heap.size, 1, none⟩ (.slice q6 y1.l.length d6)) = W7 at HX7 HS7 HXZ ⊢
          obtain ⟨n0, n1, n2⟩ := three15 HX7.out
          obtain ⟨⟨la, lb⟩, hl⟩ : ∃ z, leftC y1 id = z := ⟨_, rfl⟩
          have HL := Lib.hid (HF.out.left id W7 HFI.out.1.1.1 HFI.out.1.1.2 HS7.out.one HFT1.out.1)
          have HLR : Hid (∀ W q d, TS W (.slice q y1.l.length d) y1.l → _) := Lib.hid fun W q d (h : TS W (.slice q y1.l.length d) y1.l) => rleft_any y1 id q d W h (by have := HFT1.out.1.len; omega) HFT1.out.1.small
          rw [hl] at HL HLR
          clear hl
          go_wp2_with fail
          refine HL.out.mono ?_
          rintro e w8 ⟨rfl, hb8⟩
          have HS8 := Lib.hid (HS7.out.to HF.out hb8)
          have hX8 := (hb8.block wr.heap.size HXZ.out).trans HX7.out
          have HR := Lib.hid (HLR.out w8 _ _ HS8.out.ts)
          obtain ⟨⟨g0, g1⟩, -⟩ := sideCells HS8.out
          clear n0 n1 n2
          obtain ⟨n0, n1, n2⟩ := three15 hX8
          clear hX8 HL hb8 HLR
          go_wp2_with fail
          refine HR.out.mono ?_
          rintro e w9 ⟨rfl, hb9⟩
          have HS9 := Lib.hid (HS8.out.to HF.out hb9)
          have HNO := Lib.hid (fun nq => (HF.out.now (w9.drewN nq) (HF.out.keep HS9.out.one (W' := w9.drewN nq) fun g hg => by simp)).mono fun e w' h => And.intro h.1 h.2.symm)
          clear g0 g1 n0 n1 n2 hb9 HR HS8 HS7 HX7
          obtain ⟨⟨g0, g1⟩, -⟩ := sideCells HS9.out
          have hq0 : (E != E) = false := by simp
          have hq1 : (y1.now != y1.now) = false := by simp
          have hq2 : (la != la) = false := by simp
          have hq3 : (lb != lb) = false := by simp
          go_wp2_with fail
          go_quiet ((go_at_call 18; exact Calls.quiet_of_same (HNO.out _)))
          go_wp2_with fail
          go_roundw
          case rel => exact ⟨j + 1, y1, N5, q6, d6, by omega, by go_num, Lib.hid ⟨HS9.out.to HF.out (drewN_below15 w9 nq), HFT1.out.1, HFT1.out.2.1, HFT1.out.2.2⟩⟩
          case measure => simp [intOf]; omega
      · obtain rfl : j = os.length := by omega
        have HT := Lib.hid (timers_any HF.out wr HI.out.side.one HI.out.fit.ok (by have := HI.out.fit.len; omega))
        have HLN := Lib.hid HI.out.fit.len
        go_wp2_with fail
        refine HT.out.mono ?_
        rintro e w5 ⟨p5, c5, rfl, ht5, hb5⟩
        have HI5 := Lib.hid (HI.out.side.to HF.out hb5)
        have HT5 := Lib.hid ht5
        obtain ⟨⟨g0, g1⟩, -⟩ := sideCells HI5.out
        obtain ⟨L, hL⟩ : ∃ L, y.l = L := ⟨_, rfl⟩
        rw [hL] at HT5 HLN g1 ⊢
        have hq0 : ((L.length : Int) != (L.length : Int)) = false := by simp
        have HYL := Lib.hid hL
        clear hb5 ht5 HT hL
        go_wp2_with fail
        go_loopw [135] (fun iv wr2 => ∃ (k : Nat), k ≤ L.length ∧ iv = .int .i64 (k : Int) ∧ Hid (Below w5.heap.size w5 wr2)) (fun iv _ => L.length - (intOf iv).toNat)
        case atStart => exact ⟨0, Nat.zero_le _, rfl, Lib.hid (Below.refl _ _)⟩
        case round =>
          obtain ⟨k, hk, rfl, HB⟩ := hrel
          by_cases hkl : k < L.length
          · obtain ⟨t, ht⟩ : ∃ t, L[k]? = some t := ⟨_, List.getElem?_eq_getElem hkl⟩
            have HI6 := Lib.hid (HI5.out.to HF.out HB.out)
            obtain ⟨⟨g2, g3⟩, -⟩ := sideCells HI6.out
            rw [HYL.out] at g3
            have hts := HI6.out.ts
            rw [HYL.out] at hts
            obtain ⟨-, ad, rfl, e0, e1⟩ := hts.at ht
            obtain ⟨-, ad5, rfl, e2, e3⟩ := (TS.below HT5.out HB.out).at ht
            have kk0 : (0 : Int) ≤ (k : Int) := by omega
            have kk1 : (k : Int) < (L.length : Int) := by omega
            have hwk : IntKind.i64.wrap ((k : Int) + 1) = (k : Int) + 1 := IntWalk.i64_in _ (by have := HLN.out; omega)
            obtain ⟨id, due⟩ := t
            have hne := neq_tm id due
            clear hts ht g0 g1
            go_wp2_with fail
            go_quiet (fail)
            go_wp2_with fail
            go_roundw
            case rel => exact ⟨k + 1, by omega, by go_num, Lib.hid (ahead HB.out (drewN_below15 _ _))⟩
            case measure => simp [intOf]; omega
          · obtain rfl : k = L.length := by omega
            go_wp2_with fail
            go_ret
            exact ⟨rfl, ahead HI5.out.below HB.out⟩

end Go.Proofs.Ytcmkdeejofoibaa
