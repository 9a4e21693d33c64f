/- The law DechunkBytes. -/
import Derived.Test.YtpeceneceimonaaDoorDecCounts
namespace Go.Proofs.YtpeceneceimonaaDoor
open Go.ChangeShapes Go.WideShapes Go.ChangeAt Go.RowKit
open Oc Fl Bk Bd Dk
set_option linter.unusedVariables false
set_option maxRecDepth 100000

/-- Byte by byte: i bytes were handed over; what was told lies in a row of the call's own. -/
structure ByteAt (R : Nat) (l : Lim) (T : List UInt8) (M : Nat → Prop) (w5 : World) (i : Nat) (N : Nat → Prop) (ov : Value) (wr : World) : Prop where
  mv : Moves M N w5 wr
  dec : DecAt R l (cont l (sz [] 0 0, 0, 4) (T.take i)) N wr
  own : wr.ownsRow w5.heap.size 5 1 ov (cont l (sz [] 0 0, 0, 4) (T.take i)).1.data.length (bv (cont l (sz [] 0 0, 0, 4) (T.take i)).1.data)
  apart : ∀ g, ov.ownBlock = some g → ¬ N g
  le : i ≤ T.length

theorem cont_at_le (l : Lim) (T : List UInt8) : (cont l (sz [] 0 0, 0, 4) T).2.1 ≤ T.length := by
  rw [cont_go]
  have := (go_at l (sz [] 0 0) T 0).2.1
  omega
theorem take_byte {T : List UInt8} {i : Nat} {b : UInt8} (h : T[i]? = some b) : T.take (i + 1) = T.take i ++ [b] := by rw [List.take_add_one, h]; rfl

theorem ByteAt.next {R : Nat} {l : Lim} {T : List UInt8} {M N N' : Nat → Prop} {w5 wr w1 w2 : World} {i : Nat} {ov v' : Value} {b : UInt8} {D : List UInt8} (h : ByteAt R l T M w5 i N ov wr) (hb : T[i]? = some b)
    (hd : DecAt R l (cont l (cont l (sz [] 0 0, 0, 4) (T.take i)) [b]) N' w1) (m1 : Moves N N' wr w1) (hdat : (cont l (cont l (sz [] 0 0, 0, 4) (T.take i)) [b]).1.data = (cont l (sz [] 0 0, 0, 4) (T.take i)).1.data ++ D)
    (r1 : w2.ownsRow w5.heap.size 5 1 v' ((cont l (sz [] 0 0, 0, 4) (T.take i)).1.data ++ D).length (bv ((cont l (sz [] 0 0, 0, 4) (T.take i)).1.data ++ D))) (r2 : w1.grownBy w2 ov.ownBlock) (r3 : ∀ g, v'.ownBlock = some g → ov.ownBlock = some g ∨ w1.heap.size ≤ g)
    (hlow : 0 < w5.heap.size) : ByteAt R l T M w5 (i + 1) N' v' w2 := by
  have hov : ∀ g, ov.ownBlock = some g → w5.heap.size ≤ g ∧ g < wr.heap.size ∧ ¬ N' g := fun g hg => by
    have h1 := h.own.lt g hg
    refine ⟨h1.1, h1.2, fun hn => ?_⟩
    rcases m1.own g hn with h' | h'
    · exact h.apart g hg h'
    · omega
  have e : cont l (sz [] 0 0, 0, 4) (T.take (i + 1)) = cont l (cont l (sz [] 0 0, 0, 4) (T.take i)) [b] := by rw [take_byte hb, cont_app]
  have mm := h.mv.trans m1
  have hlt := (List.getElem?_eq_some_iff.1 hb).1
  refine ⟨⟨r2.os.trans mm.os, r2.tape.trans mm.tape, r2.output.trans mm.output, Nat.le_trans mm.size r2.size, fun k hk hm => (r2.block k (Nat.lt_of_lt_of_le hk mm.size) (fun e => by have := (hov k e.symm).1; omega)).trans (mm.block k hk hm), mm.own⟩, ?_, ?_, fun g hg hn => ?_, hlt⟩
  · rw [e]
    exact hd.moved (fun k hk => r2.block k (hd.lt hk).2 (fun e => (hov k e.symm).2.2 hk)) (hd.spans.grown r2 fun k hk => by have := (hov k hk).1; omega)
  · rw [e, hdat]
    exact r1
  · rcases r3 g hg with h' | h'
    · exact (hov g h').2.2 hn
    · have := (hd.lt hn).2; omega

set_option maxHeartbeats 8000000 in
theorem bytes9_walk (a b c : Int) {p : Option Addr} {k : Nat} {T : List UInt8} (w : World) (hT : RD w (.slice p T.length k) T)
    (hv : ∀ g, (Value.slice p T.length k).ownBlock = some g → g < w.heap.size) (hsp : Spans w) :
    Calls Tryd.prog 4 #[lim3 a b c, .slice p T.length k] w fun e w' => e = .returned (.bool true) ∧ Below w.heap.size w w' := by
  obtain ⟨w0, hw0⟩ : ∃ w0, w.alloc (obLim a b c) = w0 := ⟨_, rfl⟩
  have b0 : Below w.heap.size w w0 := by rw [← hw0]; exact below_box _ _
  have z0 : w0.heap.size = w.heap.size + 1 := by rw [← hw0]; simp
  have l0 : w0.heap[w.heap.size]? = some (obLim a b c) := by rw [← hw0]; exact World.alloc_heap_new w _
  have HFIN : Hid (∀ W, Below w0.heap.size w0 W → Below w.heap.size w W) := Lib.hid fun W h => ahead b0 h
  have KL : Hid (∀ W, Below w0.heap.size w0 W → W.cell? ⟨w.heap.size, 0, none⟩ = some (.int .i64 a) ∧ W.cell? ⟨w.heap.size, 1, none⟩ = some (.int .i64 b) ∧ W.cell? ⟨w.heap.size, 2, none⟩ = some (.int .i64 c)) := Lib.hid fun W h => (three_cells8 ((h.block _ (by omega)).trans l0)).1
  have HW := Lib.hid (wakes9 w0 (hsp.below b0))
  have W0 := Lib.hid hw0
  have HT := Lib.hid (hT.below b0)
  have HV := Lib.hid (fun g hg => Nat.lt_of_lt_of_le (hv g hg) b0.size)
  have HSP := Lib.hid (hsp.below b0)
  have HTC := Lib.hid (show T.length ≤ k by obtain ⟨_, _, e, h1, _⟩ := hT; cases e; exact h1)
  unfold obLim at W0
  clear hw0 b0 l0 hT hv hsp
  unfold lim3
  go_enter Tryd.func4, Tryd.ntmps4
  go_wp2_with fail
  rw [W0.out]
  refine HW.out.mono ?_
  rintro e w1 ⟨rfl, hb1⟩
  obtain ⟨x0, x1, x2⟩ := KL.out w1 hb1
  have B1 := Lib.hid hb1
  clear hb1 HW W0
  by_cases h400 : (400 : Int) < (T.length : Int)
  · go_wp2_with fail
    go_ret
    exact ⟨rfl, HFIN.out _ B1.out⟩
  have h400' : (T.length : Int) ≤ 400 := by omega
  have HR := Lib.hid (rright8_any a b c w1)
  unfold lim3 at HR
  cases hok : okLs a b c with
  | false =>
    rw [hok] at HR
    clear hok
    go_wp2_with fail
    refine HR.out.mono ?_
    rintro e w2 ⟨rfl, hb2⟩
    have B2 := Lib.hid (ahead B1.out hb2)
    clear hb2
    go_wp2_with fail
    go_ret
    exact ⟨rfl, HFIN.out _ B2.out⟩
  | true =>
    obtain ⟨l, rfl, rfl, rfl, hlm⟩ := okLs_nat hok
    rw [hok] at HR
    clear hok x0 x1 x2
    obtain ⟨x0, x1, x2⟩ := KL.out w1 B1.out
    go_wp2_with fail
    refine HR.out.mono ?_
    rintro e w2 ⟨rfl, hb2⟩
    have b2 := ahead B1.out hb2
    clear x0 x1 x2
    obtain ⟨x0, x1, x2⟩ := KL.out w2 b2
    have HN := Lib.hid (newX l w2 hlm (HSP.out.below b2))
    unfold lim3 at HN
    have B2 := Lib.hid b2
    clear hb2 b2 HR
    go_wp2_with fail
    refine HN.out.mono ?_
    rintro e w3 ⟨R, M, rfl, hd3, hm3, hb3⟩
    have hz2 := B2.out.size
    have hz3 := hb3.size
    have b3 := ahead B2.out hb3
    clear x0 x1 x2
    obtain ⟨x0, x1, x2⟩ := KL.out w3 b3
    have HN2 := Lib.hid (newX l w3 hlm (HSP.out.below b3))
    unfold lim3 at HN2
    have B3 := Lib.hid b3
    have HD3 := Lib.hid hd3
    have HM3 := Lib.hid (fun k hk => Nat.le_trans hz2 (hm3 k hk))
    clear hb3 b3 HN hd3 hm3
    go_wp2_with fail
    refine HN2.out.mono ?_
    rintro e w4 ⟨S, N, rfl, hd4, hm4, hb4⟩
    have hz4 := hb4.size
    have B4 := Lib.hid (ahead B3.out hb4)
    have HD4 := Lib.hid (HD3.out.below hb4)
    have HE4 := Lib.hid hd4
    have HMN := Lib.hid (fun k (h1 : M k) (h2 : N k) => show False by have := (HD3.out.lt h1).2; have := hm4 k h2; omega)
    have HN4 := Lib.hid (fun k hk => Nat.le_trans (Nat.le_trans hz2 hz3) (hm4 k hk))
    have HP := Lib.hid (putX w4 HD4.out (HT.out.below B4.out) (fun g hg hm => by have h1 := HM3.out g hm; have h2 := HV.out g hg; omega) (by omega) (by decide) hlm)
    have HLM := Lib.hid hlm
    clear hd4 hm4 hb4 HN2 hlm x0 x1 x2 HD3
    go_wp2_with fail
    refine HP.out.mono ?_
    rintro e w5 ⟨M5, p5, c5, D5, n5, rfl, hd5, m5, hat5, hn5, hdat5, hrd5, hown5⟩
    obtain ⟨B5', HM5'⟩ := Moves.low B4.out m5 (by have := B4.out.size; omega) HM3.out
    have B5 := Lib.hid B5'
    have HE5 := Lib.hid (HE4.out.moved (fun k hk => m5.block k (HE4.out.lt hk).2 (fun hm => HMN.out k hm hk)) hd5.spans)
    have HD5 := Lib.hid hd5
    have HA5 := Lib.hid (And.intro hrd5 (show ∀ g, (Value.slice p5 D5.length c5).ownBlock = some g → g < w5.heap.size ∧ ¬ N g from fun g hg => ⟨(hown5 g hg).2.1, fun hn => by have := (hown5 g hg).1; have := (HE4.out.lt hn).2; omega⟩))
    have HMN5 := Lib.hid (show ∀ k, M5 k → N k → False from fun k h1 h2 => by
      rcases m5.own k h1 with h' | h'
      · exact HMN.out k h' h2
      · have := (HE4.out.lt h2).2; omega)
    have HDAT := Lib.hid (And.intro hdat5 hat5)
    have H0 : Hid (ByteAt S l T N w5 0 N (.slice none 0 0) w5) := Lib.hid ⟨Moves.refl _ _, HE5.out, World.ownsRow_nil _ _ _ _, fun g hg => by simp [Value.ownBlock] at hg, Nat.zero_le _⟩
    have hz5 := m5.size
    clear hd5 m5 hat5 hn5 hdat5 hrd5 hown5 B5' HM5' HP HD4 HE4 HMN HM3 
    obtain ⟨dl, hdl⟩ : ∃ dl, D5.length = dl := ⟨_, rfl⟩
    rw [hdl]
    obtain ⟨f5, hf5⟩ : ∃ f, told (cont l (sz [] 0 0, 0, 4) T).2.2 = f := ⟨_, rfl⟩
    rw [hf5]
    have HF5 := Lib.hid (And.intro hdl hf5)
    clear hdl hf5
    go_wp2_with fail
    go_loopw [12, 13, 14, 15, 16, 17, 61] (fun ov nv _ _ _ _ iv wr => ∃ (i : Nat) (N' : Nat → Prop) (q : Option Addr) (n m : Nat), ov = .slice q n m ∧ iv = .int .i64 (i : Int) ∧ nv = .int .i64 ((cont l (sz [] 0 0, 0, 4) (T.take i)).2.1 : Int) ∧ ByteAt S l T N w5 i N' (.slice q n m) wr) (fun _ _ _ _ _ _ iv _ => T.length - (intOf iv).toNat)
    case atStart => exact ⟨0, N, none, 0, 0, rfl, rfl, by simp [cont_nil], H0.out⟩
    case round =>
      clear H0
      obtain ⟨i, N', q, n, m, rfl, rfl, rfl, hA⟩ := hrel
      have hi := hA.le
      have HA := Lib.hid hA
      have hat := cont_at_le l (T.take i)
      have hatl : (cont l (sz [] 0 0, 0, 4) (T.take i)).2.1 ≤ 400 := by have : (T.take i).length ≤ T.length := by simp; omega
                                                                        omega
      by_cases hlt : i < T.length
      case pos =>
        obtain ⟨b, hb⟩ : ∃ b, T[i]? = some b := ⟨_, List.getElem?_eq_getElem hlt⟩
        have hTr : RD wr (.slice p T.length k) T := (HT.out.below B5.out).same fun g hg hlt' => hA.mv.block g hlt' (fun hn => by have h1 := HN4.out g hn; have h2 := HV.out g hg; omega)
        have hpart := hTr.part (i := i) (j := i + 1) (m := k) (by omega) (by omega) (by have := HTC.out; omega) (Nat.le_refl _)
        have hone : (T.take (i + 1)).drop i = [b] := by rw [take_byte hb, List.drop_append_of_le_length (by simp; omega), List.drop_eq_nil_of_le (by simp; omega)]; rfl
        rw [hone] at hpart
        obtain ⟨j, hj⟩ : ∃ j, i + 1 = j := ⟨_, rfl⟩
        obtain ⟨uv, huv⟩ : ∃ uv, sliced p i (i + 1) k 1 = uv := ⟨_, rfl⟩
        rw [hj] at huv
        rw [hj, huv] at hpart
        have hcut : ∀ W, (Instr.slice 26 (.slice p T.length k) (some (.int .i64 (i : Int))) (some (.int .i64 (j : Int))) none).run Tryd.prog W = .ok uv W := fun W => huv ▸ cut_lh p T.length k i j (by omega) (by have := HTC.out; omega) W
        have hwi : IntKind.i64.wrap ((i : Int) + 1) = (j : Int) := by rw [IntWalk.i64_in _ (by omega)]; omega
        have hz0 := B5.out.size
        have hzr := hA.mv.size
        have hfar : ∀ g, uv.ownBlock = some g → ¬ N' g := fun g hg hn => by
          rw [← huv] at hg
          obtain ⟨ad, rfl, hg2⟩ := sliced_ownBlock hg
          have h2 := HV.out g (by simp [Value.ownBlock, hg2])
          rcases hA.mv.own g hn with h' | h'
          · have := HN4.out g h'; omega
          · omega
        have HP := Lib.hid (putX wr hA.dec hpart hfar (by simp) (by omega) HLM.out)
        have HB := Lib.hid hb
        have HLT := Lib.hid (And.intro hlt hatl)
        have hk1 : (0 : Int) ≤ (i : Int) := by omega
        have hk2 : (i : Int) < (T.length : Int) := by omega
        have hk3 : (i : Int) ≤ (j : Int) := by omega
        have hk4 : (j : Int) ≤ (T.length : Int) := by omega
        obtain ⟨xi, hxi⟩ : ∃ xi, cont l (sz [] 0 0, 0, 4) (T.take i) = xi := ⟨_, rfl⟩
        rw [hxi] at HP
        have HXI := Lib.hid hxi
        rw [hxi]
        have HJ := Lib.hid hj
        clear hA hi hat hatl hlt hb hTr hpart hone huv hfar hz0 hzr hxi hj
        go_upto_region 16 with (go_at_call 10; refine HP.out.mono ?_; rintro e w6 ⟨N6, p6, c6, D6, n6, rfl, hd6, m6, hat6, hn6, hdat6, hrd6, hown6⟩)
        have hxi := HXI.out
        have hj := HJ.out
        obtain ⟨hlt, hatl⟩ := HLT.out
        rw [hxi] at hatl
        have hz6 := m6.size
        have hzr := HA.out.mv.size
        have hown : w6.ownsRow w5.heap.size 5 1 (.slice q n m) xi.1.data.length (bv xi.1.data) := by
          have := own_same HA.out.own fun g hg => m6.block g (HA.out.own.lt g hg).2 (HA.out.apart g hg)
          rw [hxi] at this
          exact this
        have hdl : xi.1.data.length ≤ 400 := by have := HA.out.dec.data; rw [hxi] at this; omega
        have hDl : D6.length ≤ 1000 := by have h1 := hd6.data; have h2 := congrArg List.length hdat6; simp at hn6 h2; omega
        have hrd : RD w6 (.slice p6 D6.length c6) D6 := hrd6
        obtain ⟨v', w7, r0, r1, r2, r3⟩ := append_rd9 w6 26 w5.heap.size (.slice q n m) (.slice p6 D6.length c6) xi.1.data D6 hown hrd (by omega) (by omega)
        have hlow : 0 < w5.heap.size := HD5.out.spans.1
        have hnx := HA.out.next HB.out (D := D6) (v' := v') (w2 := w7) (by rw [hxi]; exact hd6) m6 (by rw [hxi]; exact hdat6) (by rw [hxi]; exact r1) r2 r3 hlow
        rw [hj] at hnx
        have hcj : (cont l (sz [] 0 0, 0, 4) (T.take j)).2.1 = xi.2.1 + n6 := by rw [← hj, take_byte HB.out, cont_app, hxi]; exact hat6
        obtain ⟨nn, hnn⟩ : ∃ nn, xi.2.1 + n6 = nn := ⟨_, rfl⟩
        have hwn : IntKind.i64.wrap ((xi.2.1 : Int) + (n6 : Int)) = (nn : Int) := by rw [IntWalk.i64_in _ (by simp at hn6; omega)]; omega
        obtain ⟨q2, l2, k2, rfl⟩ := own_slice r1
        have HR := Lib.hid r0
        have HNX := Lib.hid hnx
        have HCJ := Lib.hid (hcj.trans hnn)
        have HJ2 := Lib.hid (And.intro hlt hj)
        generalize D6.length = d6 at *
        generalize xi.2.1 = x6 at *
        clear hd6 m6 hat6 hn6 hdat6 hrd6 hown6 hown hdl hDl hrd r0 r1 r2 r3 hnx hcj hnn hz6 hzr hlt hatl hxi hj HP HXI HLT HJ hlow hcut
        go_wp2_with (at_builtin; refine wpList_append_run rfl (.tmp 75) (.tmp 76) 26 rfl _ _ _ _ rfl rfl HR.out ?_)
        go_roundw
        case rel => exact ⟨j, N6, q2, l2, k2, rfl, rfl, by rw [HCJ.out], HNX.out⟩
        case measure => have := HJ2.out; simp only [intOf]; omega
      case neg =>
        obtain rfl : i = T.length := by omega
        have hTT : T.take T.length = T := List.take_length
        obtain ⟨xx, hxx⟩ : ∃ xx, cont l (sz [] 0 0, 0, 4) T = xx := ⟨_, rfl⟩
        rw [hTT, hxx] at hat hatl
        rw [hTT, hxx]
        clear HA
        have hdec := hA.dec
        have hown := hA.own
        rw [hTT, hxx] at hdec hown
        have hmv := hA.mv
        have hdd := HD5.out.moved (W' := wr) (fun g hg => hmv.block g (HD5.out.lt hg).2 (fun hn => HMN5.out g hg hn)) hdec.spans
        rw [hxx] at hdd
        obtain ⟨hdat5, hat5⟩ := HDAT.out
        rw [hxx] at hdat5 hat5
        rw [show ((sz [] 0 0, 0, 4) : St × Nat × Nat).1.data = [] from rfl, List.nil_append] at hdat5
        rw [show ((sz [] 0 0, 0, 4) : St × Nat × Nat).2.1 + n5 = n5 from Nat.zero_add _] at hat5
        obtain ⟨hdl, hf5⟩ := HF5.out
        rw [hxx] at hf5
        have hra : RD wr (.slice p5 dl c5) D5 := by rw [← hdl]; exact HA5.out.1.same fun g hg hlt' => hmv.block g hlt' ((HA5.out.2 g hg).2)
        have hrb : RD wr (.slice q n m) D5 := by have := RD.of_own hown; rw [hdat5] at this; exact this
        have HSM := Lib.hid (rsame8_any wr _ _ D5 D5 hra hrb)
        rw [decide_eq_true rfl] at HSM
        rw [hat5]
        have HBB := Lib.hid ((hmv.below (B := w0.heap.size) (by have := B5.out.size; omega) HN4.out))
        have HBW := Lib.hid (B5.out.trans HBB.out)
        have HE1 : Hid (∀ W, Below wr.heap.size wr W → _) := Lib.hid fun W hW => errX W (hdec.below hW)
        rw [hf5] at HE1
        have HD1 : Hid (∀ W, Below wr.heap.size wr W → _) := Lib.hid fun W hW => doneX W (hdd.below hW)
        have HD2 : Hid (∀ W, Below wr.heap.size wr W → _) := Lib.hid fun W hW => doneX W (hdec.below hW)
        have HL1 : Hid (∀ W, Below wr.heap.size wr W → _) := Lib.hid fun W hW => leftXA W (hdd.below hW)
        have HL2 : Hid (∀ W, Below wr.heap.size wr W → _) := Lib.hid fun W hW => leftXA W (hdec.below hW)
        have HF1 : Hid (∀ W, Below wr.heap.size wr W → _) := Lib.hid fun W hW => fieldsXA W (hdd.below hW) HLM.out.2.1
        have HF2 : Hid (∀ W, Below wr.heap.size wr W → _) := Lib.hid fun W hW => fieldsXA W (hdec.below hW) HLM.out.2.1
        have hfl := hdec.fields_le
        have hfl2 := HLM.out.2.1
        have HFL := Lib.hid (show (fieldsX xx).length ≤ 1000000 by omega)
        generalize decide (xx.2.2 = 0) = dn at HD1 HD2
        generalize leftX xx = lx at HL1 HL2
        generalize fieldsX xx = fx at HF1 HF2 HFL
        have hbb : (dn == dn) = true := beq_self_eq_true dn
        clear hA hat hatl hlt hi hTT hxx hdec hown hmv hdd hdat5 hat5 hdl hf5 hra hrb HBB hfl hfl2
        go_wp2_with fail
        refine HSM.out.mono ?_
        rintro e w6 ⟨rfl, m6, rfl⟩
        have B6 := Lib.hid (show Below wr.heap.size wr (wr.drewN m6) from below_drewN (Below.refl _ _) m6)
        go_wp2_with (first
          | (go_at_call 14; refine (HE1.out _ B6.out).mono ?_; rintro e w' ⟨rfl, rfl⟩)
          | (go_at_call_of 13 R; refine (HD1.out _ B6.out).mono ?_; rintro e w' ⟨rfl, rfl⟩)
          | (go_at_call_of 13 S; refine (HD2.out _ B6.out).mono ?_; rintro e w' ⟨rfl, rfl⟩)
          | (go_at_call_of 17 R; refine (HL1.out _ B6.out).mono ?_; rintro e w' ⟨rfl, rfl⟩)
          | (go_at_call_of 17 S; refine (HL2.out _ B6.out).mono ?_; rintro e w' ⟨rfl, rfl⟩))
        refine (HF1.out _ B6.out).mono ?_
        rintro e w7 ⟨u1, rfl, hu1, hb7⟩
        have B7 := Lib.hid (ahead B6.out hb7)
        have HU1 := Lib.hid hu1
        obtain ⟨q1, c1, rfl, -⟩ := RS.slice hu1
        clear hu1 hb7
        go_wp2_with fail
        refine (HF2.out _ B7.out).mono ?_
        rintro e w8 ⟨u2, rfl, hu2, hb8⟩
        have HQ := Lib.hid (fields_any fx fx _ u2 w8 (HU1.out.below hb8) hu2 HFL.out HFL.out rfl)
        have B8 := Lib.hid (ahead B7.out hb8)
        obtain ⟨q2, c2, rfl, -⟩ := RS.slice hu2
        clear hu2 hb8
        go_wp2_with fail
        refine HQ.out.mono ?_
        rintro e w9 ⟨rfl, hb9⟩
        have B9 := Lib.hid (ahead B8.out hb9)
        clear hb9
        go_wp2_with fail
        go_ret
        exact ⟨rfl, HFIN.out _ (ahead HBW.out B9.out)⟩

end Go.Proofs.YtpeceneceimonaaDoor
