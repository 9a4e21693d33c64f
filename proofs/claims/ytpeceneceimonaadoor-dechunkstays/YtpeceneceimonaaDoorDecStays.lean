/- The law DechunkStays. -/
import Derived.Test.YtpeceneceimonaaDoorDecWake
namespace Go.Proofs.YtpeceneceimonaaDoor
open Go.ChangeShapes Go.WideShapes Go.ChangeAt Go.RowKit
open Oc Fl Bk Bd Dk
set_option linter.unusedVariables false
set_option maxRecDepth 100000

theorem cont_four {l : Lim} {T : List UInt8} {n : Nat} (h4 : (cont l (sz [] 0 0, 0, 4) T).2.2 = 4) (h : (cont l (sz [] 0 0, 0, 4) T).2.1 = 0 + n) : n = T.length := by
  rw [cont_go] at h4 h
  have := (go_at l (sz [] 0 0) T 0).2.2 h4
  omega
theorem okLs_nat {a b c : Int} (h : okLs a b c = true) : ∃ l : Lim, a = (l.ext : Int) ∧ b = (l.fields : Int) ∧ c = (l.bytes : Int) ∧ l.ext ≤ 65536 ∧ l.fields ≤ 65536 ∧ l.bytes ≤ 65536 := by
  unfold okLs okL at h
  simp at h
  refine ⟨⟨a.toNat, b.toNat, c.toNat⟩, ?_, ?_, ?_, ?_, ?_, ?_⟩ <;> simp <;> omega
theorem told_zero {e : Nat} : told e = 0 ↔ e = 0 ∨ e = 4 := by unfold told; split <;> omega

set_option maxHeartbeats 8000000 in
theorem stays9_walk (a b c : Int) {p q : Option Addr} {k m : Nat} {T U : List UInt8} (w : World) (hT : RD w (.slice p T.length k) T) (hU : RD w (.slice q U.length m) U)
    (hv : ∀ g, (Value.slice p T.length k).ownBlock = some g → g < w.heap.size) (hu : ∀ g, (Value.slice q U.length m).ownBlock = some g → g < w.heap.size) (hsp : Spans w) :
    Calls Tryd.prog 5 #[lim3 a b c, .slice p T.length k, .slice q U.length m] w fun e w' => e = .returned (.bool true) ∧ Below w.heap.size w w' := by
  obtain ⟨w0, hw0⟩ : ∃ w0, w.alloc (obLim a b c) = w0 := ⟨_, rfl⟩
  have b0 : Below w.heap.size w w0 := by rw [← hw0]; exact below_box _ _
  have z0 : w0.heap.size = w.heap.size + 1 := by rw [← hw0]; simp
  have l0 : w0.heap[w.heap.size]? = some (obLim a b c) := by rw [← hw0]; exact World.alloc_heap_new w _
  have HW := Lib.hid (wakes9 w0 (hsp.below b0))
  have W0 := Lib.hid hw0
  have B0 := Lib.hid b0
  have L0 := Lib.hid l0
  have HT := Lib.hid hT
  have HU := Lib.hid hU
  have HV := Lib.hid hv
  have HUV := Lib.hid hu
  have HSP := Lib.hid hsp
  unfold obLim at W0
  clear hw0 b0 l0 hT hU hv hu hsp
  unfold lim3
  go_enter Tryd.func5, Tryd.ntmps5
  go_wp2_with fail
  rw [W0.out]
  refine HW.out.mono ?_
  rintro e w1 ⟨rfl, hb1⟩
  have z1 := hb1.size
  have l1 := (hb1.block w.heap.size (by omega)).trans L0.out
  obtain ⟨⟨x0, x1, x2⟩, -⟩ := three_cells8 l1
  have L1 := Lib.hid l1
  have B1 := Lib.hid (ahead B0.out hb1)
  clear hb1 l1 HW W0
  by_cases h400 : (400 : Int) < (T.length : Int)
  · go_wp2_with fail
    go_ret
    exact ⟨rfl, B1.out⟩
  have h400' : (T.length : Int) ≤ 400 := by omega
  by_cases h200 : (200 : Int) < (U.length : Int)
  · go_wp2_with fail
    go_ret
    exact ⟨rfl, B1.out⟩
  have h200' : (U.length : Int) ≤ 200 := by omega
  have HR := Lib.hid (rright8_any a b c w1)
  unfold lim3 at HR
  cases hok : okLs a b c with
  | false =>
    rw [hok] at HR
    clear hok
    go_wp2_with fail
    refine HR.out.mono ?_
    rintro e w2 ⟨rfl, hb2⟩
    have B2 := Lib.hid (ahead B1.out hb2)
    clear hb2
    go_wp2_with fail
    go_ret
    exact ⟨rfl, B2.out⟩
  | true =>
    obtain ⟨l, rfl, rfl, rfl, hlm⟩ := okLs_nat hok
    rw [hok] at HR
    clear hok x0 x1 x2
    have L1' := L1.out
    obtain ⟨⟨x0, x1, x2⟩, -⟩ := three_cells8 L1'
    clear L1'
    go_wp2_with fail
    refine HR.out.mono ?_
    rintro e w2 ⟨rfl, hb2⟩
    have z2 := hb2.size
    obtain ⟨⟨y0, y1, y2⟩, -⟩ := three_cells8 ((hb2.block w.heap.size (by omega)).trans L1.out)
    have b2 := ahead B1.out hb2
    have HN := Lib.hid (newX l w2 hlm (HSP.out.below b2))
    unfold lim3 at HN
    have B2 := Lib.hid b2
    have HT2 := Lib.hid (HT.out.below b2)
    have HU2 := Lib.hid (HU.out.below b2)
    clear hb2 b2 HR x0 x1 x2 L1
    go_wp2_with fail
    refine HN.out.mono ?_
    rintro e w3 ⟨R, M, rfl, hd3, hm3, hb3⟩
    have hz2 := B2.out.size
    have hz3 := hb3.size
    have HP := Lib.hid (putX w3 hd3 (HT2.out.below hb3) (fun g hg hm => by have h1 := hm3 g hm; have h2 := HV.out g hg; omega) (by omega) (by decide) hlm)
    have B3 := Lib.hid (ahead B2.out hb3)
    have HM3 := Lib.hid (fun k hk => Nat.le_trans hz2 (hm3 k hk))
    have HU3 := Lib.hid (HU2.out.below hb3)
    have HLM := Lib.hid hlm
    clear hd3 hm3 hb3 HN y0 y1 y2 HT2 HU2 hlm
    go_wp2_with fail
    refine HP.out.mono ?_
    rintro e w4 ⟨M4, p4, c4, D4, n4, rfl, hd4, m4, hat4, hn4, hdat4, hrd4, hown4⟩
    obtain ⟨B4, HM4⟩ := Moves.low B3.out m4 (by omega) HM3.out
    have hU4 := HU3.out.same fun g hg hlt => m4.block g hlt (fun hm => by have h1 := HM3.out g hm; have h2 := HUV.out g hg; omega)
    have HB4 := Lib.hid B4
    have HDN := Lib.hid (doneX w4 hd4)
    have hn400 : n4 ≤ 400 := by omega
    by_cases h4 : (cont l (sz [] 0 0, 0, 4) T).2.2 = 4
    · have hnT := cont_four h4 hat4
      subst hnT
      rw [show told (cont l (sz [] 0 0, 0, 4) T).2.2 = 0 from told_zero.2 (.inr h4)]
      rw [decide_eq_false (by omega)] at HDN
      clear hd4 m4 hat4 hn4 hdat4 hrd4 hown4 B4 HM4 hU4 h4 HP
      go_wp2_with fail
      refine HDN.out.mono ?_
      rintro e w5 ⟨rfl, rfl⟩
      go_wp2_with fail
      go_ret
      exact ⟨rfl, HB4.out⟩
    · have hce := cont_end (l := l) U h4
      have HP5 := Lib.hid (putX w4 hd4 hU4 (fun g hg hm => by have h1 := HM4 g hm; have h2 := HUV.out g hg; omega) (by omega) (by rw [hat4]; show 0 + n4 ≤ _; omega) HLM.out)
      have HM4' := Lib.hid HM4
      have hz4 := B4.size
      obtain ⟨f, hf⟩ : ∃ f, told (cont l (sz [] 0 0, 0, 4) T).2.2 = f := ⟨_, rfl⟩
      have hff : f = 0 → decide ((cont l (sz [] 0 0, 0, 4) T).2.2 = 0) = true := fun h => decide_eq_true (by have := told_zero.1 (hf.trans h); omega)
      generalize cont l (sz [] 0 0, 0, 4) T = x at *
      rw [hf]
      replace hat4 : x.2.1 = n4 := by rw [hat4]; show 0 + n4 = n4; omega
      have HX := Lib.hid (And.intro hce hat4)
      clear hd4 m4 hn4 hdat4 hrd4 hown4 B4 HM4 hU4 h4 HP hce hat4 HM3 HU3
      replace HP5 : Hid (Calls Tryd.prog 10 #[.pointer (some ⟨R, 0, none⟩), .slice q U.length m] w4 fun e w' => ∃ p5 c5 M5, e = .returned (.tuple #[.slice p5 0 c5, .int .i64 0, .int .i64 (f : Int)]) ∧ DecAt R l x M5 w' ∧ Below w.heap.size w w') := Lib.hid (HP5.out.mono fun e w5 hq => by
        obtain ⟨M5, p5, c5, D5, n5, he, hd5, m5, hat5, hn5, hdat5, hrd5, hown5⟩ := hq
        obtain ⟨hce, hat4⟩ := HX.out
        rw [hce] at he hd5 hat5 hdat5
        obtain rfl : D5 = [] := List.self_eq_append_right.1 hdat5
        obtain rfl : n5 = 0 := by omega
        rw [hf] at he
        exact ⟨p5, c5, M5, he, hd5, (Moves.low HB4.out m5 (by omega) HM4'.out).1⟩)
      have HA := HX.out.2
      by_cases hf0 : f = 0
      · rw [hff hf0] at HDN
        subst hf0
        clear hff
        have HF := Lib.hid hf
        clear hf
        go_wp2_with fail
        refine HDN.out.mono ?_
        rintro e w5 ⟨rfl, rfl⟩
        go_wp2_with fail
        refine HP5.out.mono ?_
        rintro e w5 ⟨p5, c5, M5, rfl, hd5, hb5⟩
        have HTK := Lib.hid (takenX w5 hd5)
        have HER := Lib.hid (errX w5 hd5)
        rw [HF.out] at HER
        rw [HA] at HTK
        have HB5 := Lib.hid hb5
        clear hd5 hb5
        go_wp2_with (first | (go_at_call 15; refine HTK.out.mono ?_; rintro e w' ⟨rfl, rfl⟩) | (go_at_call 14; refine HER.out.mono ?_; rintro e w' ⟨rfl, rfl⟩))
        go_ret
        exact ⟨rfl, HB5.out⟩
      · have hfz : ((f : Int) == 0) = false := beq_eq_false_iff_ne.2 (by omega)
        have hfz2 : ¬ (f : Int) = 0 := by omega
        clear hff hf0
        have HF := Lib.hid hf
        clear hf
        go_wp2_with fail
        refine HP5.out.mono ?_
        rintro e w5 ⟨p5, c5, M5, rfl, hd5, hb5⟩
        have HTK := Lib.hid (takenX w5 hd5)
        have HER := Lib.hid (errX w5 hd5)
        rw [HF.out] at HER
        rw [HA] at HTK
        have HB5 := Lib.hid hb5
        clear hd5 hb5
        go_wp2_with (first | (go_at_call 15; refine HTK.out.mono ?_; rintro e w' ⟨rfl, rfl⟩) | (go_at_call 14; refine HER.out.mono ?_; rintro e w' ⟨rfl, rfl⟩))
        go_ret
        exact ⟨rfl, HB5.out⟩

end Go.Proofs.YtpeceneceimonaaDoor
