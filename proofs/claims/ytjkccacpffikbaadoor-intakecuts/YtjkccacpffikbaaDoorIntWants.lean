/- The law IntakeWants; framings that came in as arguments. -/
import Derived.Test.YtjkccacpffikbaaDoorIntWake
import Derived.Test.YtjkccacpffikbaaDoorDecStays
import Derived.Test.YtjkccacpffikbaaDoorBytesOpen
namespace Go.Proofs.YtjkccacpffikbaaDoor
open Go.ChangeShapes Go.WideShapes Go.ChangeAt Go.RowKit Go.Deep
open Oc Fl Bk Bd Dk Ik
set_option linter.unusedVariables false
set_option maxRecDepth 100000

theorem frame_cells : Tryd.prog.cellTypes Tryd.prog.depth 24 = some [3, 22] := by kernel_rfl
theorem frame_size : Tryd.prog.cellsOf 24 = 2 := by kernel_rfl
set_option maxRecDepth 100000 in
/-- A framing. -/
theorem open_frame {W : World} {base : Nat} {v : Value} (u : Value.okWide Tryd.prog W .any base 24 v) : ∃ k s, v = fr12 k s ∧ 0 ≤ s := by
  simp only [Value.okWide, Tryd.underlying24] at u
  obtain ⟨cs, rfl, hs, ts, h1, h2, h3⟩ := u
  rw [frame_cells] at h1
  cases h1
  rw [frame_size] at hs
  obtain ⟨l⟩ := cs
  match l, hs with
  | [x, y], _ =>
    obtain ⟨u0, e0, c0⟩ := h3 0 x rfl
    obtain ⟨u1, e1, c1⟩ := h3 1 y rfl
    cases e0
    cases e1
    obtain ⟨a, rfl, ha⟩ := cell_int Tryd.underlying3 c0
    obtain ⟨b, rfl, hb⟩ := cell_int Tryd.underlying22 c1
    exact ⟨a, b, rfl, hb.1⟩
theorem rightF_nat {k s : Int} (h : rightF k s = true) (hs : 0 ≤ s) : ∃ kind size : Nat, k = (kind : Int) ∧ s = (size : Int) ∧ kind ≤ 3 ∧ (kind ≠ 1 → size = 0) ∧ size ≤ 4611686018427387903 := by
  unfold rightF at h
  simp at h
  refine ⟨k.toNat, s.toNat, ?_, ?_, ?_, ?_, ?_⟩ <;> omega

theorem cont_at_le12 (l : Lim) (T : List UInt8) : (cont l (sz [] 0 0, 0, 4) T).2.1 ≤ T.length := by
  rw [cont_go]
  have := (go_at l (sz [] 0 0) T 0).2.1
  omega
namespace Ik
/-- Of what it takes it wants as much, at least. -/
theorem num_wants (k : Kd) (T : List UInt8) (h : T.length ≤ 1000) : numK k T ≤ wantsK k 0 := by
  cases hd : doneK k with
  | true => rw [(done_next T hd).2.1]; exact Nat.zero_le _
  | false =>
    rw [show wantsK k 0 = leftK k from if_neg (by rw [hd]; decide)]
    cases k with
    | fix n c => exact Nat.min_le_left _ _
    | unt b c =>
      show (if b = true then 0 else T.length) ≤ 4611686018427387903
      split <;> omega
    | dec l x =>
      show (cont l x T).2.1 - x.2.1 ≤ 4611686018427387903
      by_cases h4 : x.2.2 = 4
      · have := cont_num (l := l) (T := T) h4; omega
      · rw [cont_end T h4]; omega
theorem wants_cases (k : Kd) (e : Nat) : (doneK k = true ∧ wantsK k e = 0) ∨ (doneK k = false ∧ e ≠ 0 ∧ wantsK k e = 0) ∨ (doneK k = false ∧ e = 0 ∧ 0 < wantsK k e) := by
  cases hd : doneK k with
  | true => exact .inl ⟨rfl, if_pos (.inr hd)⟩
  | false =>
    by_cases he : e = 0
    · refine .inr (.inr ⟨rfl, he, ?_⟩)
      rw [show wantsK k e = leftK k from if_neg (by rw [hd, he]; decide)]
      cases k with
      | fix n c => exact Nat.pos_of_ne_zero (of_decide_eq_false hd)
      | unt b c => show 0 < 4611686018427387903; decide
      | dec l x => show 0 < 4611686018427387903; decide
    · exact .inr (.inl ⟨rfl, he, if_pos (.inl he)⟩)
end Ik
theorem InAt.counts {R : Nat} {k : Kd} {e : Nat} {M : Nat → Prop} {w : World} (h : InAt R k e M w) : givenK k ≤ takenK k := by
  obtain ⟨T, K, M0, h1, h2, -⟩ := h
  cases k with
  | fix n c => exact Nat.le_refl _
  | unt b c => exact Nat.le_refl _
  | dec l x => exact h2.2.1.data
/-- A new one's first piece: the data are no more than what was taken. -/
theorem new_data {R : Nat} {e : Nat} {M : Nat → Prop} {w : World} {kind size : Nat} {l : Lim} {T : List UInt8} (h : InAt R (nextK (newK kind size l) T) e M w) : (dataK (newK kind size l) T).length ≤ numK (newK kind size l) T := by
  have hc := h.counts
  unfold newK at hc ⊢
  by_cases h2 : kind = 2
  · rw [if_pos h2] at hc ⊢
    show ((cont l (sz [] 0 0, 0, 4) T).1.data.drop 0).length ≤ (cont l (sz [] 0 0, 0, 4) T).2.1 - 0
    exact hc
  · rw [if_neg h2]
    by_cases h3 : kind = 3
    · rw [if_pos h3]; exact Nat.le_refl _
    · rw [if_neg h3]
      show (T.take size).length ≤ min size T.length
      rw [List.length_take]
      exact Nat.le_refl _

/-- Which framing it is, and whether its limits are right: New's arguments in their boxes. -/
structure Box12 (w w0 : World) (k s a b c : Int) : Prop where
  fr : ∀ W, Below w0.heap.size w0 W → W.cell? ⟨w.heap.size, 0, none⟩ = some (.int .i64 k) ∧ W.cell? ⟨w.heap.size, 1, none⟩ = some (.int .u64 s)
  lm : ∀ W, Below w0.heap.size w0 W → W.cell? ⟨w.heap.size + 1, 0, none⟩ = some (.int .i64 a) ∧ W.cell? ⟨w.heap.size + 1, 1, none⟩ = some (.int .i64 b) ∧ W.cell? ⟨w.heap.size + 1, 2, none⟩ = some (.int .i64 c)

set_option maxHeartbeats 8000000 in
theorem wants12_walk (k s a b c : Int) {p : Option Addr} {cap : Nat} {T : List UInt8} (w : World) (hs : 0 ≤ s) (hT : RD w (.slice p T.length cap) T) (hv : ∀ g, (Value.slice p T.length cap).ownBlock = some g → g < w.heap.size) (hsp : Spans w) :
    Calls Tryd.prog 4 #[fr12 k s, lim3 a b c, .slice p T.length cap] w fun e w' => e = .returned (.bool true) ∧ Below w.heap.size w w' := by
  obtain ⟨w0, hw0, b0, z0, l0, l1⟩ := boxes12 w k s a b c
  have KB : Box12 w w0 k s a b c := ⟨fun W h => two_cells12 ((h.block w.heap.size (by omega)).trans l0), fun W h => (three_cells8 ((h.block (w.heap.size + 1) (by omega)).trans l1)).1⟩
  have HFIN : Hid (∀ W, Below w0.heap.size w0 W → Below w.heap.size w W) := Lib.hid fun W h => ahead b0 h
  have KX := Lib.hid KB
  have HW := Lib.hid (wakes12 w0 (hsp.below b0))
  have W0 := Lib.hid hw0
  have HT := Lib.hid (hT.below b0)
  have HV := Lib.hid (fun g hg => Nat.lt_of_lt_of_le (hv g hg) b0.size)
  have HSP := Lib.hid (hsp.below b0)
  have HRF : Hid (∀ W, _) := Lib.hid fun W => rright12_any k s W
  have HRL : Hid (∀ W, _) := Lib.hid fun W => rright8_any a b c W
  have HS := Lib.hid hs
  unfold fr12 at HRF
  unfold lim3 at HRL
  clear hw0 b0 l0 l1 hT hv hsp KB hs
  unfold fr12 lim3
  go_enter Tryd.func4, Tryd.ntmps4
  go_wp2_with fail
  rw [W0.out]
  refine HW.out.mono ?_
  rintro e w1 ⟨rfl, hb1⟩
  obtain ⟨x0, x1⟩ := KX.out.fr w1 hb1
  have B1 := Lib.hid hb1
  clear hb1 HW W0
  by_cases h400 : (400 : Int) < (T.length : Int)
  · go_wp2_with fail
    go_ret
    exact ⟨rfl, HFIN.out _ B1.out⟩
  have h400' : (T.length : Int) ≤ 400 := by omega
  cases hr : rightF k s with
  | false =>
    rw [hr] at HRF
    clear hr
    go_wp2_with fail
    refine (HRF.out _).mono ?_
    rintro e w2 ⟨rfl, hb2⟩
    have B2 := Lib.hid (ahead B1.out hb2)
    clear hb2
    go_wp2_with fail
    go_ret
    exact ⟨rfl, HFIN.out _ B2.out⟩
  | true =>
    rw [hr] at HRF
    go_wp2_with fail
    refine (HRF.out _).mono ?_
    rintro e w2 ⟨rfl, hb2⟩
    have B2 := Lib.hid (ahead B1.out hb2)
    clear hb2 x0 x1
    obtain ⟨y0, y1, y2⟩ := KX.out.lm w2 B2.out
    cases hok : okLs a b c with
    | false =>
      rw [hok] at HRL
      clear hr hok
      go_wp2_with fail
      refine (HRL.out _).mono ?_
      rintro e w3 ⟨rfl, hb3⟩
      have B3 := Lib.hid (ahead B2.out hb3)
      clear hb3
      go_wp2_with fail
      go_ret
      exact ⟨rfl, HFIN.out _ B3.out⟩
    | true =>
      rw [hok] at HRL
      go_wp2_with fail
      refine (HRL.out _).mono ?_
      rintro e w3 ⟨rfl, hb3⟩
      have b3 := ahead B2.out hb3
      clear y0 y1 y2
      obtain ⟨kind, size, hk1, hk2, hk, hsz, hmax⟩ := rightF_nat hr HS.out
      obtain ⟨l, ha, hb, hc, hlm⟩ := okLs_nat hok
      obtain ⟨x0, x1⟩ := KX.out.fr w3 b3
      obtain ⟨y0, y1, y2⟩ := KX.out.lm w3 b3
      have HN := Lib.hid (newI kind size l w3 hk hsz hmax hlm (HSP.out.below b3))
      rw [← hk1, ← hk2, ← ha, ← hb, ← hc] at HN
      unfold fr12 lim3 at HN
      have B3 := Lib.hid b3
      clear hb3 b3 HRF HRL KX hr hok hk1 hk2 ha hb hc hk hsz hmax hlm
      go_wp2_with fail
      refine HN.out.mono ?_
      rintro e w4 ⟨R, M, rfl, hi4, hm4, hb4⟩
      have hz3 := B3.out.size
      have b4 := ahead B3.out hb4
      have HWA := Lib.hid (wantsI hi4)
      have HP := Lib.hid (putI (b := T) p cap hi4 (HT.out.below b4) (fun _ g hg hm => by have h1 := hm4 g hm; have h2 := HV.out g hg; omega) (by omega) (by unfold newK; split; exact Nat.zero_le _; split <;> exact Nat.zero_le _))
      have B4 := Lib.hid b4
      have HM4 := Lib.hid (fun g hg => Nat.le_trans hz3 (hm4 g hg))
      have hnw := num_wants (newK kind size l) T (by omega)
      have HL := Lib.hid (show T.length ≤ 400 by omega)
      clear hi4 hm4 hb4 b4 HN x0 x1 y0 y1 y2 hz3
      obtain ⟨u, hu⟩ : ∃ u, wantsK (newK kind size l) 0 = u := ⟨_, rfl⟩
      rw [hu] at HWA hnw
      clear hu
      go_wp2_with fail
      refine HWA.out.mono ?_
      rintro e w5 ⟨rfl, rfl⟩
      go_wp2_with fail
      refine HP.out.mono ?_
      rintro e w6 ⟨M6, p6, c6, rfl, hi6, m6, hrd6, hown6⟩
      rw [show dataP (newK kind size l) 0 T = dataK (newK kind size l) T from rfl, show numP (newK kind size l) 0 T = numK (newK kind size l) T from rfl, show errP (newK kind size l) 0 T = errK (newK kind size l) T from rfl]
      rw [show nextP (newK kind size l) 0 T = nextK (newK kind size l) T from rfl, show errP (newK kind size l) 0 T = errK (newK kind size l) T from rfl] at hi6
      have hdn := new_data hi6
      obtain ⟨B6, -⟩ := Moves.low B4.out m6 (by have := B4.out.size; omega) HM4.out
      have HB6 := Lib.hid B6
      have HWA6 := Lib.hid (wantsI hi6)
      have HDN6 := Lib.hid (doneI hi6)
      have HER6 := Lib.hid (errI hi6)
      have hcs := wants_cases (nextK (newK kind size l) T) (errK (newK kind size l) T)
      obtain ⟨n, hn⟩ : ∃ n, numK (newK kind size l) T = n := ⟨_, rfl⟩
      obtain ⟨d, hd⟩ : ∃ d, (dataK (newK kind size l) T).length = d := ⟨_, rfl⟩
      rw [hn] at hnw hdn ⊢
      rw [hd] at hdn ⊢
      have hnm : n ≤ 400 := by
        rw [← hn]
        have h1 := HL.out
        show numK (newK kind size l) T ≤ 400
        unfold newK
        split
        · have := cont_at_le12 l T; show (cont l (sz [] 0 0, 0, 4) T).2.1 - 0 ≤ 400; omega
        · split
          · show T.length ≤ 400; omega
          · show min size T.length ≤ 400; omega
      generalize wantsK (nextK (newK kind size l) T) (errK (newK kind size l) T) = v at *
      generalize doneK (nextK (newK kind size l) T) = dn at *
      generalize errK (newK kind size l) T = er at *
      have hwn : IntKind.u64.wrap (n : Int) = (n : Int) := IntWalk.u64_in _ (by omega)
      have k1 : ¬ ((u : Int) < (n : Int)) := by omega
      have k2 : ¬ ((n : Int) < (d : Int)) := by omega
      clear hi6 m6 hrd6 hown6 B6 HP HWA hdn hnw hn hd HT HV
      rcases hcs with ⟨rfl, rfl⟩ | ⟨rfl, he, rfl⟩ | ⟨rfl, rfl, hv⟩
      · go_wp2_with fail
        refine HWA6.out.mono ?_
        rintro e w7 ⟨rfl, rfl⟩
        go_wp2_with fail
        refine HDN6.out.mono ?_
        rintro e w7 ⟨rfl, rfl⟩
        go_wp2_with fail
        go_ret
        exact ⟨rfl, HFIN.out _ HB6.out⟩
      · have hb : ((er : Int) == 0) = false := beq_eq_false_iff_ne.2 (by omega)
        clear he
        go_wp2_with fail
        refine HWA6.out.mono ?_
        rintro e w7 ⟨rfl, rfl⟩
        go_wp2_with fail
        refine HDN6.out.mono ?_
        rintro e w7 ⟨rfl, rfl⟩
        go_wp2_with fail
        refine HER6.out.mono ?_
        rintro e w7 ⟨rfl, rfl⟩
        go_wp2_with fail
        go_ret
        exact ⟨rfl, HFIN.out _ HB6.out⟩
      · have hb : (0 : Int) < (v : Int) := by omega
        clear hv
        go_wp2_with fail
        refine HWA6.out.mono ?_
        rintro e w7 ⟨rfl, rfl⟩
        go_wp2_with fail
        refine HDN6.out.mono ?_
        rintro e w7 ⟨rfl, rfl⟩
        go_wp2_with fail
        refine HER6.out.mono ?_
        rintro e w7 ⟨rfl, rfl⟩
        go_wp2_with fail
        go_ret
        exact ⟨ret_bool (by rw [decide_eq_true_eq]; omega), HFIN.out _ HB6.out⟩

set_option maxRecDepth 100000 in
theorem wants12_data {H : Type} {enc : TypeId × Value → H} {W : World} {base : Nat} {v0 v1 v2 : Value} {d2 : DataW H} {p2 : List MemPlace} (u0 : Value.okWide Tryd.prog W .any base 24 v0) (u1 : Value.okWide Tryd.prog W .any base 30 v1)
    (u2 : Value.okWide Tryd.prog W .any base 25 v2) (h2 : DataW.Trod enc Tryd.prog W 0 (fun _ => true) true 25 v2 d2 p2) (hsp : Spans W) :
    Calls Tryd.prog 4 #[v0, v1, v2] W fun e w' => e = .returned (.bool true) ∧ Below W.heap.size W w' := by
  obtain ⟨k, s, rfl, hs⟩ := open_frame u0
  obtain ⟨a, b, c, rfl⟩ := open_lims u1
  obtain ⟨T, hT, hv⟩ := open_bytes u2 h2
  obtain ⟨p, cap, rfl, -⟩ := id hT
  exact wants12_walk k s a b c W hs hT hv hsp

end Go.Proofs.YtjkccacpffikbaaDoor
