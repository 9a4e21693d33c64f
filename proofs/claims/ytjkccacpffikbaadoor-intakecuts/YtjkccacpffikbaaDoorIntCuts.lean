/- The law IntakeCuts. -/
import Derived.Test.YtjkccacpffikbaaDoorIntWants
import Derived.Test.YtjkccacpffikbaaDoorIntCutMath
import Derived.Deep.Cut
namespace Go.Proofs.YtjkccacpffikbaaDoor
open Go.ChangeShapes Go.WideShapes Go.ChangeAt Go.RowKit Go.Deep
open Oc Fl Bk Bd Dk Ik
set_option linter.unusedVariables false
set_option maxRecDepth 100000

/-- Two appends, one behind the other, onto an empty row. -/
theorem own_two12 {u v : Value} {xs ys : List UInt8} (w : World) (hu : RD w u xs) (hv : RD w v ys) (hx : xs.length ≤ 100000) (hy : ys.length ≤ 100000) :
    ∃ p1 l1 c1 w1 p2 n2 c2 w2, (Builtin.append_ #[25, 25] 25 #[.slice (some ⟨w.heap.size, 0, none⟩) 0 0, u]).run Tryd.prog (w.alloc (.cells #[] 5)) = .ok (.slice p1 l1 c1) w1 ∧
      (Builtin.append_ #[25, 25] 25 #[.slice p1 l1 c1, v]).run Tryd.prog w1 = .ok (.slice p2 n2 c2) w2 ∧ n2 = (xs ++ ys).length ∧ RD w2 (.slice p2 n2 c2) (xs ++ ys) ∧ Below w.heap.size w w2 := by
  have hown : (w.alloc (.cells #[] 5)).ownsRow w.heap.size 5 1 (.slice (some ⟨w.heap.size, 0, none⟩) 0 0) 0 (bv []) := World.ownsRow_made w #[] 0 (Nat.le_refl _) (by decide) rfl
  have b0 : Below w.heap.size w (w.alloc (.cells #[] 5)) := below_box _ _
  obtain ⟨v1, w1, r0, r1, r2⟩ := run_append_rd (w.alloc (.cells #[] 5)) 25 w.heap.size _ _ 0 [] xs hown (hu.below b0) (by simp; omega) (by simp)
  have b1 : Below w.heap.size w w1 := b0.grown r2 (by simp) (fun r e => by cases e; exact Nat.le_refl _)
  obtain ⟨v2, w2, s0, s1, s2⟩ := run_append_rd w1 25 w.heap.size _ _ _ _ ys r1 (hv.below b1) (by simp; omega) b1.size
  have b2 : Below w.heap.size w w2 := b1.grown s2 b1.size (fun k hk => (r1.lt k hk).1)
  obtain ⟨p1, l1, c1, rfl⟩ := own_slice r1
  have hrd : RD w2 v2 (xs ++ ys) := by simpa using RD.of_own s1
  obtain ⟨p2, c2, rfl, -⟩ := id hrd
  exact ⟨p1, l1, c1, w1, p2, _, c2, w2, r0, s0, rfl, hrd, b2⟩

set_option maxHeartbeats 16000000 in
theorem cuts12_walk (k s : Int) {p : Option Addr} {cap : Nat} {T : List UInt8} (cut : Nat) (w : World) (hs : 0 ≤ s) (hc : cut ≤ 65535) (hT : RD w (.slice p T.length cap) T) (hv : ∀ g, (Value.slice p T.length cap).ownBlock = some g → g < w.heap.size) (hsp : Spans w) :
    Calls Tryd.prog 3 #[fr12 k s, .slice p T.length cap, .int .u16 (cut : Int)] w fun e w' => e = .returned (.bool true) ∧ Below w.heap.size w w' := by
  obtain ⟨w0, hw0⟩ : ∃ w0, w.alloc (.cells #[.int .i64 k, .int .u64 s] 24) = w0 := ⟨_, rfl⟩
  have b0 : Below w.heap.size w w0 := by rw [← hw0]; exact below_box _ _
  have z0 : w0.heap.size = w.heap.size + 1 := by rw [← hw0]; simp
  have l0 : w0.heap[w.heap.size]? = some (.cells #[.int .i64 k, .int .u64 s] 24 (0, 0)) := by rw [← hw0]; exact World.alloc_heap_new w _
  have KF : Hid (∀ W, Below w0.heap.size w0 W → _) := Lib.hid fun W h => two_cells12 ((h.block w.heap.size (by omega)).trans l0)
  have HFIN : Hid (∀ W, Below w0.heap.size w0 W → Below w.heap.size w W) := Lib.hid fun W h => ahead b0 h
  have HW := Lib.hid (wakes12 w0 (hsp.below b0))
  have W0 := Lib.hid hw0
  have HT := Lib.hid (hT.below b0)
  have HV := Lib.hid (fun g hg => Nat.lt_of_lt_of_le (hv g hg) b0.size)
  have HSP := Lib.hid (hsp.below b0)
  have HRF : Hid (∀ W, _) := Lib.hid fun W => rright12_any k s W
  have HS := Lib.hid hs
  have hbk : T.length ≤ cap := by obtain ⟨_, _, e, h1, _⟩ := hT; cases e; exact h1
  unfold fr12 at HRF
  clear hw0 b0 l0 hT hv hsp hs
  unfold fr12
  go_enter Tryd.func3, Tryd.ntmps3
  go_wp2_with fail
  rw [W0.out]
  refine HW.out.mono ?_
  rintro e w1 ⟨rfl, hb1⟩
  obtain ⟨x0, x1⟩ := KF.out w1 hb1
  have B1 := Lib.hid hb1
  clear hb1 HW W0
  by_cases h400 : (400 : Int) < (T.length : Int)
  · go_wp2_with fail
    go_ret
    exact ⟨rfl, HFIN.out _ B1.out⟩
  have h400' : (T.length : Int) ≤ 400 := by omega
  cases hr : rightF k s with
  | false =>
    rw [hr] at HRF
    clear hr
    go_wp2_with fail
    refine (HRF.out _).mono ?_
    rintro e w2 ⟨rfl, hb2⟩
    have B2 := Lib.hid (ahead B1.out hb2)
    clear hb2
    go_wp2_with fail
    go_ret
    exact ⟨rfl, HFIN.out _ B2.out⟩
  | true =>
    rw [hr] at HRF
    go_wp2_with fail
    refine (HRF.out _).mono ?_
    rintro e w2 ⟨rfl, hb2⟩
    have b2 := ahead B1.out hb2
    obtain ⟨w3, hw3⟩ : ∃ w3, w2.alloc (.cells #[.int .i64 20, .int .i64 5, .int .i64 200] 30) = w3 := ⟨_, rfl⟩
    have b3 : Below w0.heap.size w0 w3 := by rw [← hw3]; exact ahead b2 (below_box _ _)
    have l3 : w3.heap[w2.heap.size]? = some (.cells #[.int .i64 20, .int .i64 5, .int .i64 200] 30 (0, 0)) := by rw [← hw3]; exact World.alloc_heap_new w2 _
    have hlt3 := (Array.getElem?_eq_some_iff.1 l3).1
    have KL : Hid (∀ W, Below w3.heap.size w3 W → _) := Lib.hid fun W h => (three_cells8 ((h.block w2.heap.size hlt3).trans l3)).1
    clear x0 x1
    obtain ⟨x0, x1⟩ := KF.out w2 b2
    obtain ⟨y0, y1⟩ := KF.out w3 b3
    obtain ⟨q0, q1, q2⟩ := KL.out w3 (Below.refl _ _)
    obtain ⟨kind, size, hk1, hk2, hk, hsz, hmax⟩ := rightF_nat hr HS.out
    have HN0 : Hid (∀ W, Below w0.heap.size w0 W → _) := Lib.hid fun W h => newI kind size ⟨20, 5, 200⟩ W hk hsz hmax (by decide) (HSP.out.below h)
    rw [← hk1, ← hk2] at HN0
    unfold fr12 lim3 at HN0
    have HN1 := Lib.hid (HN0.out w3 b3)
    have W3 := Lib.hid hw3
    have B3 := Lib.hid b3
    clear hb2 b2 hw3 b3 l3 HRF hr hk1 hk2 hk hsz hmax
    obtain ⟨k0, hk0⟩ : ∃ k0, newK kind size ⟨20, 5, 200⟩ = k0 := ⟨_, rfl⟩
    have HK0 := Lib.hid (show takenK k0 = 0 by rw [← hk0]; unfold newK; split; rfl; split <;> rfl)
    simp only [hk0] at HN0 HN1
    have HND : Hid (∀ (R e : Nat) (M : Nat → Prop) (W : World), InAt R (nextK k0 T) e M W → (dataK k0 T).length ≤ T.length) := Lib.hid fun R e M W h => by
      rw [← hk0] at h ⊢
      exact Nat.le_trans (new_data h) (num_le _ _)
    clear hk0
    go_upto_region 6 with fail
    rw [W3.out]
    go_wp2_with fail
    refine HN1.out.mono ?_
    rintro e w4 ⟨R, M, rfl, hi4, hm4, hb4⟩
    have hz3 := B3.out.size
    have b4 := ahead B3.out hb4
    clear x0 x1 y0 y1 q0 q1 q2
    obtain ⟨x0, x1⟩ := KF.out w4 b4
    obtain ⟨q0, q1, q2⟩ := KL.out w4 hb4
    have HN2 := Lib.hid (HN0.out w4 b4)
    have HI4 := Lib.hid hi4
    have HM := Lib.hid (fun g hg => Nat.le_trans hz3 (hm4 g hg))
    have B4 := Lib.hid b4
    clear hi4 hm4 hb4 b4 HN1 HN0 W3
    go_wp2_with fail
    refine HN2.out.mono ?_
    rintro e w5 ⟨S, N, rfl, hj5, hn5, hb5⟩
    have hz4 := B4.out.size
    have b5 := ahead B4.out hb5
    have HI5 := Lib.hid (HI4.out.below hb5)
    have HJ5 := Lib.hid hj5
    have HN := Lib.hid (fun g hg => Nat.le_trans hz4 (hn5 g hg))
    have HMN5 := Lib.hid (fun g (h1 : M g) (h2 : N g) => show False by have := HI4.out.lt h1; have := hn5 g h2; omega)
    have HP1 := Lib.hid (putI (b := T) p cap HI5.out (HT.out.below b5) (fun _ g hg hm => by have h1 := HM.out g hm; have h2 := HV.out g hg; omega) (by omega) (by rw [HK0.out]; exact Nat.zero_le _))
    have B5 := Lib.hid b5
    clear hj5 hn5 hb5 b5 HN2 HI4 x0 x1 q0 q1 q2 KL KF B3 B4 hz3 hz4 hlt3
    go_wp2_with fail
    refine HP1.out.mono ?_
    rintro e w6 ⟨M6, p6, c6, rfl, hi6, m6, hrd6, hown6⟩
    rw [show dataP k0 0 T = dataK k0 T from rfl] at hrd6 hown6
    rw [show dataP k0 0 T = dataK k0 T from rfl, show numP k0 0 T = numK k0 T from rfl, show errP k0 0 T = errK k0 T from rfl]
    rw [show nextP k0 0 T = nextK k0 T from rfl, show errP k0 0 T = errK k0 T from rfl] at hi6
    have hz5 := B5.out.size
    obtain ⟨B6', HM6'⟩ := Moves.low B5.out m6 hz5 HM.out
    have HI6 := Lib.hid hi6
    have HM6 := Lib.hid HM6'
    have B6 := Lib.hid B6'
    have HJ6 := Lib.hid (HJ5.out.moved (W' := w6) (fun g hg => m6.block g (HJ5.out.lt hg) (fun hm => HMN5.out g hm hg)) (HSP.out.below B6'))
    have HMN6 := Lib.hid (fun g (h1 : M6 g) (h2 : N g) => show False by
      rcases m6.own g h1 with h' | h'
      · exact HMN5.out g h' h2
      · have := HJ5.out.lt h2; omega)
    have HX6 := Lib.hid (And.intro hrd6 (show ∀ g, (Value.slice p6 (dataK k0 T).length c6).ownBlock = some g → g < w6.heap.size ∧ ¬ N g from fun g hg => ⟨(hown6 g hg).2.1, fun hn => by have := (hown6 g hg).1; have := HJ5.out.lt hn; omega⟩))
    clear hi6 m6 hrd6 hown6 B6' HM6' HP1 HI5 HJ5 HMN5 HM B5 hz5
    obtain ⟨dl, hdl⟩ : ∃ dl, (dataK k0 T).length = dl := ⟨_, rfl⟩
    rw [hdl] at HX6 ⊢
    obtain ⟨er, her⟩ : ∃ er, errK k0 T = er := ⟨_, rfl⟩
    rw [her] at HI6 ⊢
    obtain ⟨nw, hnw⟩ : ∃ nw, numK k0 T = nw := ⟨_, rfl⟩
    rw [hnw]
    clear hnw
    obtain ⟨KK, hKK⟩ : ∃ KK, nextK k0 T = KK := ⟨_, rfl⟩
    rw [hKK] at HI6
    obtain ⟨XX, hXX⟩ : ∃ XX, dataK k0 T = XX := ⟨_, rfl⟩
    rw [hXX] at HX6
    have HEQ := Lib.hid (And.intro her (And.intro hKK hXX))
    clear hdl her hKK hXX
    obtain ⟨L1, hL1⟩ : ∃ L1, T.length + 1 = L1 := ⟨_, rfl⟩
    obtain ⟨kk, hkk⟩ : ∃ kk, cut % L1 = kk := ⟨_, rfl⟩
    have hkl : kk ≤ T.length := by have := Nat.mod_lt cut (show 0 < L1 by omega); omega
    have hwa : IntKind.i64.wrap (cut : Int) = (cut : Int) := IntWalk.i64_in _ (by omega)
    have hwb : IntKind.i64.wrap ((T.length : Int) + 1) = (L1 : Int) := by rw [IntWalk.i64_in _ (by omega)]; omega
    have hrem : ((cut : Int)).tmod (L1 : Int) = (kk : Int) := by rw [Int.tmod_eq_emod_of_nonneg (by omega), ← hkk]; push_cast; rfl
    have hwc : IntKind.i64.wrap (kk : Int) = (kk : Int) := IntWalk.i64_in _ (by omega)
    have hnz : ¬ (L1 : Int) = 0 := by omega
    obtain ⟨T1, hT1⟩ : ∃ T1, T.take kk = T1 := ⟨_, rfl⟩
    obtain ⟨T2, hT2⟩ : ∃ T2, T.drop kk = T2 := ⟨_, rfl⟩
    have hTT : T1 ++ T2 = T := by rw [← hT1, ← hT2, List.take_append_drop]
    have hl1 : T1.length = kk := by rw [← hT1]; simp; omega
    obtain ⟨uv, huv⟩ : ∃ uv, sliced p 0 kk cap 1 = uv := ⟨_, rfl⟩
    have hcut : ∀ W, (Instr.slice 25 (.slice p T.length cap) none (some (.int .i64 (kk : Int))) none).run Tryd.prog W = .ok uv W := fun W => huv ▸ cut_h p T.length cap kk (by omega) W
    have hu := HT.out.part (i := 0) (j := kk) (m := cap) (by omega) hkl (by omega) (Nat.le_refl _)
    rw [huv, List.drop_zero, hT1] at hu
    have hufar : ∀ g, uv.ownBlock = some g → g < w0.heap.size := fun g hg => by
      rw [← huv] at hg
      obtain ⟨ad, rfl, hg2⟩ := sliced_ownBlock hg
      exact HV.out g (by simp [Value.ownBlock, hg2])
    obtain ⟨pu, cu, huu, -⟩ := id hu
    subst huu
    have HP2 := Lib.hid (putI (b := T1) pu cu HJ6.out (hu.below B6.out) (fun _ g hg hm => by have h1 := HN.out g hm; have h2 := hufar g hg; omega) (by omega) (by rw [HK0.out]; exact Nat.zero_le _))
    rw [hl1] at hcut HP2
    have hnl := num_le k0 T1
    obtain ⟨vv, hvv⟩ : ∃ vv, sliced p kk T.length cap 1 = vv := ⟨_, rfl⟩
    have hcut2 : ∀ W, (Instr.slice 25 (.slice p T.length cap) (some (.int .i64 (kk : Int))) none none).run Tryd.prog W = .ok vv W := fun W => hvv ▸ cut_l p T.length cap kk hkl W
    have hu2 := HT.out.part (i := kk) (j := T.length) (m := cap) hkl (Nat.le_refl _) hbk (Nat.le_refl _)
    rw [hvv, List.take_length, hT2] at hu2
    have hvfar : ∀ g, vv.ownBlock = some g → g < w0.heap.size := fun g hg => by
      rw [← hvv] at hg
      obtain ⟨ad, rfl, hg2⟩ := sliced_ownBlock hg
      exact HV.out g (by simp [Value.ownBlock, hg2])
    obtain ⟨pv, cv, hvu, -⟩ := id hu2
    subst hvu
    have HU2 := Lib.hid (And.intro hu2 hvfar)
    have hl2 : T2.length ≤ 400 := by rw [← hT2]; simp; omega
    have HLS := Lib.hid (And.intro hTT (And.intro hl1 hl2))
    have hkli : (kk : Int) ≤ (T.length : Int) := by omega
    have hkl0 : (0 : Int) ≤ (kk : Int) := by omega
    obtain ⟨l2, hl2e⟩ : ∃ l2, T2.length = l2 := ⟨_, rfl⟩
    rw [hl2e] at hcut2
    have HL2 := Lib.hid hl2e
    clear hT1 hT2 hTT hl1 huv hu hufar hvv hu2 hvfar hl2 hl2e hL1 hkk hkl hbk HT HV hc
    go_wp2_with fail
    refine HP2.out.mono ?_
    rintro e w7 ⟨N7, p7, c7, rfl, hj7, m7, hrd7, hown7⟩
    rw [show dataP k0 0 T1 = dataK k0 T1 from rfl] at hrd7 hown7
    rw [show dataP k0 0 T1 = dataK k0 T1 from rfl, show numP k0 0 T1 = numK k0 T1 from rfl, show errP k0 0 T1 = errK k0 T1 from rfl]
    rw [show nextP k0 0 T1 = nextK k0 T1 from rfl, show errP k0 0 T1 = errK k0 T1 from rfl] at hj7
    have hz6 := B6.out.size
    obtain ⟨B7', HN7'⟩ := Moves.low B6.out m7 hz6 HN.out
    have B7 := Lib.hid B7'
    have HN7 := Lib.hid HN7'
    have HI7 := Lib.hid (HI6.out.moved (W' := w7) (fun g hg => m7.block g (HI6.out.lt hg) (fun hn => HMN6.out g hg hn)) (HSP.out.below B7'))
    have HMN7 := Lib.hid (fun g (h1 : M6 g) (h2 : N7 g) => show False by
      rcases m7.own g h2 with h' | h'
      · exact HMN6.out g h1 h'
      · have := HI6.out.lt h1; omega)
    have HX7 := Lib.hid (And.intro (HX6.out.1.same (W' := w7) fun g hg hlt => m7.block g hlt ((HX6.out.2 g hg).2)) (show ∀ g, (Value.slice p6 dl c6).ownBlock = some g → g < w7.heap.size ∧ ¬ N7 g from fun g hg => ⟨by have := (HX6.out.2 g hg).1; have := m7.size; omega, fun hn => by
      rcases m7.own g hn with h' | h'
      · exact (HX6.out.2 g hg).2 h'
      · have := (HX6.out.2 g hg).1; omega⟩))
    have HJ7 := Lib.hid hj7
    have HY7 := Lib.hid (And.intro hrd7 (show ∀ g, (Value.slice p7 (dataK k0 T1).length c7).ownBlock = some g → g < w7.heap.size ∧ ¬ N7 g from fun g hg => (hown7 g hg).2))
    clear hj7 m7 hrd7 hown7 B7' HN7' HP2 HI6 HJ6 HX6 HMN6 B6 hz6 HN
    by_cases hon : numK k0 T1 = kk ∧ errK k0 T1 = 0
    case pos =>
      obtain ⟨hna, hea⟩ := hon
      obtain ⟨c1', c2', c3'⟩ := cut_on k0 T1 T2 (by rw [hna]; exact HLS.out.2.1.symm) hea
      rw [HLS.out.1, HEQ.out.2.1] at c1'
      rw [HLS.out.1, HEQ.out.2.2] at c2'
      rw [HLS.out.1, HEQ.out.1] at c3'
      rw [hea] at HJ7
      rw [hna, hea]
      have hz7 := B7.out.size
      have HP3 := Lib.hid (putI (b := T2) pv cv HJ7.out (HU2.out.1.below B7.out) (fun _ g hg hm => by have h1 := HN7.out g hm; have h2 := HU2.out.2 g hg; omega) (by have := HLS.out.2.2; omega) (by have h1 := taken_next k0 T1; have h2 := HK0.out; have h3 := HLS.out.2.1; omega))
      rw [HL2.out] at HP3
      have HC := Lib.hid (And.intro c1' (And.intro c2' c3'))
      clear hna hea c1' c2' c3' hnl hz7
      obtain ⟨d1, hd1⟩ : ∃ d1, (dataK k0 T1).length = d1 := ⟨_, rfl⟩
      rw [hd1] at HY7 ⊢
      have HD1 := Lib.hid hd1
      clear hd1
      go_wp2_with fail
      refine HP3.out.mono ?_
      rintro e w8 ⟨N8, p8, c8, rfl, hj8, m8, hrd8, hown8⟩
      rw [show dataP (nextK k0 T1) 0 T2 = dataK (nextK k0 T1) T2 from rfl] at hrd8
      rw [show dataP (nextK k0 T1) 0 T2 = dataK (nextK k0 T1) T2 from rfl, show numP (nextK k0 T1) 0 T2 = numK (nextK k0 T1) T2 from rfl, show errP (nextK k0 T1) 0 T2 = errK (nextK k0 T1) T2 from rfl]
      rw [show nextP (nextK k0 T1) 0 T2 = nextK (nextK k0 T1) T2 from rfl, show errP (nextK k0 T1) 0 T2 = errK (nextK k0 T1) T2 from rfl] at hj8
      obtain ⟨c1', c2', c3'⟩ := HC.out
      rw [← c1', ← c3'] at hj8
      rw [← c3']
      have hz7 := B7.out.size
      obtain ⟨B8, HN8⟩ := Moves.low B7.out m8 hz7 HN7.out
      have hi8 := HI7.out.moved (W' := w8) (fun g hg => m8.block g (HI7.out.lt hg) (fun hn => HMN7.out g hg hn)) (HSP.out.below B8)
      have hx8 := HX7.out.1.same (W' := w8) fun g hg hlt => m8.block g hlt ((HX7.out.2 g hg).2)
      have hy8 := HY7.out.1.same (W' := w8) fun g hg hlt => m8.block g hlt ((HY7.out.2 g hg).2)
      have hdx : XX.length ≤ 400 := by
        have h1 := HEQ.out.2.2
        have h2 := HI7.out
        rw [← HEQ.out.2.1] at h2
        have h3 := HND.out _ _ _ _ h2
        rw [h1] at h3
        omega
      rw [c2', List.length_append] at hdx
      have hd8 : (dataK (nextK k0 T1) T2).length ≤ 100000 := by omega
      have hd7 : (dataK k0 T1).length ≤ 100000 := by omega
      obtain ⟨pA, lA, cA, wA, pB, nB, cB, wB, r0, r1, hnB, hrB, bB⟩ := own_two12 w8 hy8 hrd8 hd7 hd8
      rw [← c2'] at hnB hrB
      have hzB := bB.size
      have HI := Lib.hid (hi8.below bB)
      have HJ := Lib.hid (hj8.below bB)
      have HMN : Hid (∀ g, M6 g → N8 g → False) := Lib.hid fun g h1 h2 => by
        rcases m8.own g h2 with h' | h'
        · exact HMN7.out g h1 h'
        · have := HI7.out.lt h1; omega
      have HM := Lib.hid HM6.out
      have HN := Lib.hid HN8
      have BW := Lib.hid (ahead B8 bB)
      have HZ := Lib.hid (Nat.le_trans B8.size hzB)
      have HSM := Lib.hid (same_any wB p6 pB dl c6 nB cB XX XX (hx8.below bB) hrB)
      rw [decide_eq_true rfl] at HSM
      have RA := Lib.hid r0
      have RB := Lib.hid r1
      obtain ⟨d2, hd2⟩ : ∃ d2, (dataK (nextK k0 T1) T2).length = d2 := ⟨_, rfl⟩
      rw [hd2] at RB ⊢
      clear hdx hd2 c1' c2' c3' hj8 m8 hrd8 hown8 B8 HN8 hi8 hx8 hy8 hd8 hd7 r0 r1 hnB hrB bB hzB hz7 HI7 HJ7 HX7 HY7 HMN7 HC HP3 HD1
      generalize numK (nextK k0 T1) T2 = nz at *
      go_upto_region 16 with (first | (at_builtin; refine wpList_append_run rfl (.tmp 97) (.tmp 98) 25 rfl _ _ _ _ rfl rfl RA.out ?_) | (at_builtin; refine wpList_append_run rfl (.tmp 99) (.tmp 100) 25 rfl _ _ _ _ rfl rfl RB.out ?_))
      have HFI : Hid (∀ W', Below wB.heap.size wB W' → _) := Lib.hid fun W' h => fieldsI (HI.out.below h)
      have HFJ : Hid (∀ W', Below wB.heap.size wB W' → _) := Lib.hid fun W' h => fieldsI (HJ.out.below h)
      have HTI : Hid (∀ W', Below wB.heap.size wB W' → _) := Lib.hid fun W' h => takenI (HI.out.below h)
      have HTJ : Hid (∀ W', Below wB.heap.size wB W' → _) := Lib.hid fun W' h => takenI (HJ.out.below h)
      have HDI : Hid (∀ W', Below wB.heap.size wB W' → _) := Lib.hid fun W' h => doneI (HI.out.below h)
      have HDJ : Hid (∀ W', Below wB.heap.size wB W' → _) := Lib.hid fun W' h => doneI (HJ.out.below h)
      have hfl := HI.out.fields_le
      obtain ⟨fx, hfx⟩ : ∃ fx, fieldsK KK = fx := ⟨_, rfl⟩
      rw [hfx] at HFI HFJ hfl
      obtain ⟨tk, htk⟩ : ∃ tk, takenK KK = tk := ⟨_, rfl⟩
      rw [htk] at HTI HTJ
      obtain ⟨dn, hdn⟩ : ∃ dn, doneK KK = dn := ⟨_, rfl⟩
      rw [hdn] at HDI HDJ
      have HFL := Lib.hid (show fx.length ≤ 1000000 by omega)
      have hbb : (dn == dn) = true := beq_self_eq_true dn
      clear hfx htk hdn hfl
      go_wp2_with fail
      refine HSM.out.mono ?_
      rintro e wa ⟨rfl, mm, rfl⟩
      have BA := Lib.hid (drewN_below8 wB mm)
      go_wp2_with (first
        | (go_at_call_of 11 R; refine (HTI.out _ BA.out).mono ?_; rintro e w' ⟨rfl, rfl⟩)
        | (go_at_call_of 11 S; refine (HTJ.out _ BA.out).mono ?_; rintro e w' ⟨rfl, rfl⟩)
        | (go_at_call_of 12 R; refine (HDI.out _ BA.out).mono ?_; rintro e w' ⟨rfl, rfl⟩)
        | (go_at_call_of 12 S; refine (HDJ.out _ BA.out).mono ?_; rintro e w' ⟨rfl, rfl⟩))
      refine (HFI.out _ BA.out).mono ?_
      rintro e wb ⟨u1, rfl, hu1, hbb1⟩
      have BB := Lib.hid (ahead BA.out hbb1)
      have HU1 := Lib.hid hu1
      obtain ⟨q1, cq1, rfl, -⟩ := RS.slice hu1
      clear hu1 hbb1
      go_wp2_with fail
      refine (HFJ.out _ BB.out).mono ?_
      rintro e wc ⟨u2, rfl, hu2, hbb2⟩
      have HQ := Lib.hid (fields_any fx fx _ u2 wc (HU1.out.below hbb2) hu2 HFL.out HFL.out rfl)
      have BC := Lib.hid (ahead BB.out hbb2)
      obtain ⟨q2, cq2, rfl, -⟩ := RS.slice hu2
      clear hu2 hbb2
      go_wp2_with fail
      refine HQ.out.mono ?_
      rintro e wd ⟨rfl, hbb3⟩
      have bd := ahead BC.out hbb3
      have HCI := Lib.hid (closeI (HI.out.below bd))
      have HJD := Lib.hid (HJ.out.below bd)
      have BD := Lib.hid bd
      clear hbb3 bd
      go_wp2_with fail
      refine HCI.out.mono ?_
      rintro e we ⟨rfl, hie, mie⟩
      have be := (BW.out.trans (BD.out.mono HZ.out)).trans (mie.below (B := w0.heap.size) (Nat.le_trans HZ.out BD.out.size) HM.out)
      have HCJ := Lib.hid (closeI (HJD.out.moved (W' := we) (fun g hg => mie.block g (HJD.out.lt hg) (fun hm => HMN.out g hm hg)) (HSP.out.below be)))
      have BE := Lib.hid be
      have HZE := Lib.hid (Nat.le_trans (Nat.le_trans HZ.out BD.out.size) mie.size)
      clear hie mie be
      obtain ⟨se, hse⟩ : ∃ se, shutE KK er = se := ⟨_, rfl⟩
      rw [hse]
      have HSE := Lib.hid hse
      clear hse
      go_wp2_with fail
      refine HCJ.out.mono ?_
      rintro e wf ⟨rfl, hjf, mjf⟩
      rw [HSE.out]
      have HBF := Lib.hid (HFIN.out _ (BE.out.trans (mjf.below (B := w0.heap.size) HZE.out HN.out)))
      clear hjf mjf
      go_wp2_with fail
      go_ret
      exact ⟨rfl, HBF.out⟩
    case neg =>
      obtain ⟨c1', c2', c3'⟩ := cut_off k0 T1 T2 (by rw [HLS.out.2.1]; by_cases h : numK k0 T1 = kk; exact .inr fun h' => hon ⟨h, h'⟩; exact .inl h)
      rw [HLS.out.1, HEQ.out.2.1] at c1'
      rw [HLS.out.1, HEQ.out.2.2] at c2'
      rw [HLS.out.1, HEQ.out.1] at c3'
      have hj7 := HJ7.out
      rw [← c1', ← c3'] at hj7
      have hy7 := HY7.out.1
      rw [← c2'] at hy7
      rw [← c3', ← c2']
      rw [← c3'] at hon
      have HI := Lib.hid HI7.out
      have HJ := Lib.hid hj7
      have HMN := Lib.hid HMN7.out
      have HM := Lib.hid HM6.out
      have HN := Lib.hid HN7.out
      have BW := Lib.hid B7.out
      have HZ := Lib.hid B7.out.size
      have HSM := Lib.hid (same_any w7 p6 p7 dl c6 _ c7 XX XX HX7.out.1 hy7)
      rw [decide_eq_true rfl] at HSM
      obtain ⟨d1, hd1⟩ : ∃ d1, XX.length = d1 := ⟨_, rfl⟩
      rw [hd1] at HSM ⊢
      obtain ⟨n1, hn1⟩ : ∃ n1, numK k0 T1 = n1 := ⟨_, rfl⟩
      rw [hn1] at hon hnl ⊢
      clear hd1 hn1 c1' c2' c3' hj7 hy7 HI7 HJ7 HX7 HY7 HMN7 hnl
      by_cases hnk : n1 = kk
      · subst hnk
        have hne : ((er : Int) == 0) = false := beq_eq_false_iff_ne.2 (fun h => hon ⟨rfl, by omega⟩)
        clear hon
        have HFI : Hid (∀ W', Below w7.heap.size w7 W' → _) := Lib.hid fun W' h => fieldsI (HI.out.below h)
        have HFJ : Hid (∀ W', Below w7.heap.size w7 W' → _) := Lib.hid fun W' h => fieldsI (HJ.out.below h)
        have HTI : Hid (∀ W', Below w7.heap.size w7 W' → _) := Lib.hid fun W' h => takenI (HI.out.below h)
        have HTJ : Hid (∀ W', Below w7.heap.size w7 W' → _) := Lib.hid fun W' h => takenI (HJ.out.below h)
        have HDI : Hid (∀ W', Below w7.heap.size w7 W' → _) := Lib.hid fun W' h => doneI (HI.out.below h)
        have HDJ : Hid (∀ W', Below w7.heap.size w7 W' → _) := Lib.hid fun W' h => doneI (HJ.out.below h)
        have hfl := HI.out.fields_le
        obtain ⟨fx, hfx⟩ : ∃ fx, fieldsK KK = fx := ⟨_, rfl⟩
        rw [hfx] at HFI HFJ hfl
        obtain ⟨tk, htk⟩ : ∃ tk, takenK KK = tk := ⟨_, rfl⟩
        rw [htk] at HTI HTJ
        obtain ⟨dn, hdn⟩ : ∃ dn, doneK KK = dn := ⟨_, rfl⟩
        rw [hdn] at HDI HDJ
        have HFL := Lib.hid (show fx.length ≤ 1000000 by omega)
        have hbb : (dn == dn) = true := beq_self_eq_true dn
        clear hfx htk hdn hfl
        go_wp2_with fail
        refine HSM.out.mono ?_
        rintro e wa ⟨rfl, mm, rfl⟩
        have BA := Lib.hid (drewN_below8 w7 mm)
        go_wp2_with (first
          | (go_at_call_of 11 R; refine (HTI.out _ BA.out).mono ?_; rintro e w' ⟨rfl, rfl⟩)
          | (go_at_call_of 11 S; refine (HTJ.out _ BA.out).mono ?_; rintro e w' ⟨rfl, rfl⟩)
          | (go_at_call_of 12 R; refine (HDI.out _ BA.out).mono ?_; rintro e w' ⟨rfl, rfl⟩)
          | (go_at_call_of 12 S; refine (HDJ.out _ BA.out).mono ?_; rintro e w' ⟨rfl, rfl⟩))
        refine (HFI.out _ BA.out).mono ?_
        rintro e wb ⟨u1, rfl, hu1, hbb1⟩
        have BB := Lib.hid (ahead BA.out hbb1)
        have HU1 := Lib.hid hu1
        obtain ⟨q1, cq1, rfl, -⟩ := RS.slice hu1
        clear hu1 hbb1
        go_wp2_with fail
        refine (HFJ.out _ BB.out).mono ?_
        rintro e wc ⟨u2, rfl, hu2, hbb2⟩
        have HQ := Lib.hid (fields_any fx fx _ u2 wc (HU1.out.below hbb2) hu2 HFL.out HFL.out rfl)
        have BC := Lib.hid (ahead BB.out hbb2)
        obtain ⟨q2, cq2, rfl, -⟩ := RS.slice hu2
        clear hu2 hbb2
        go_wp2_with fail
        refine HQ.out.mono ?_
        rintro e wd ⟨rfl, hbb3⟩
        have bd := ahead BC.out hbb3
        have HCI := Lib.hid (closeI (HI.out.below bd))
        have HJD := Lib.hid (HJ.out.below bd)
        have BD := Lib.hid bd
        clear hbb3 bd
        go_wp2_with fail
        refine HCI.out.mono ?_
        rintro e we ⟨rfl, hie, mie⟩
        have be := (BW.out.trans (BD.out.mono HZ.out)).trans (mie.below (B := w0.heap.size) (Nat.le_trans HZ.out BD.out.size) HM.out)
        have HCJ := Lib.hid (closeI (HJD.out.moved (W' := we) (fun g hg => mie.block g (HJD.out.lt hg) (fun hm => HMN.out g hm hg)) (HSP.out.below be)))
        have BE := Lib.hid be
        have HZE := Lib.hid (Nat.le_trans (Nat.le_trans HZ.out BD.out.size) mie.size)
        clear hie mie be
        obtain ⟨se, hse⟩ : ∃ se, shutE KK er = se := ⟨_, rfl⟩
        rw [hse]
        have HSE := Lib.hid hse
        clear hse
        go_wp2_with fail
        refine HCJ.out.mono ?_
        rintro e wf ⟨rfl, hjf, mjf⟩
        rw [HSE.out]
        have HBF := Lib.hid (HFIN.out _ (BE.out.trans (mjf.below (B := w0.heap.size) HZE.out HN.out)))
        clear hjf mjf
        go_wp2_with fail
        go_ret
        exact ⟨rfl, HBF.out⟩
      · have hnk' : ((n1 : Int) == (kk : Int)) = false := beq_eq_false_iff_ne.2 (by omega)
        clear hon hnk
        have HFI : Hid (∀ W', Below w7.heap.size w7 W' → _) := Lib.hid fun W' h => fieldsI (HI.out.below h)
        have HFJ : Hid (∀ W', Below w7.heap.size w7 W' → _) := Lib.hid fun W' h => fieldsI (HJ.out.below h)
        have HTI : Hid (∀ W', Below w7.heap.size w7 W' → _) := Lib.hid fun W' h => takenI (HI.out.below h)
        have HTJ : Hid (∀ W', Below w7.heap.size w7 W' → _) := Lib.hid fun W' h => takenI (HJ.out.below h)
        have HDI : Hid (∀ W', Below w7.heap.size w7 W' → _) := Lib.hid fun W' h => doneI (HI.out.below h)
        have HDJ : Hid (∀ W', Below w7.heap.size w7 W' → _) := Lib.hid fun W' h => doneI (HJ.out.below h)
        have hfl := HI.out.fields_le
        obtain ⟨fx, hfx⟩ : ∃ fx, fieldsK KK = fx := ⟨_, rfl⟩
        rw [hfx] at HFI HFJ hfl
        obtain ⟨tk, htk⟩ : ∃ tk, takenK KK = tk := ⟨_, rfl⟩
        rw [htk] at HTI HTJ
        obtain ⟨dn, hdn⟩ : ∃ dn, doneK KK = dn := ⟨_, rfl⟩
        rw [hdn] at HDI HDJ
        have HFL := Lib.hid (show fx.length ≤ 1000000 by omega)
        have hbb : (dn == dn) = true := beq_self_eq_true dn
        clear hfx htk hdn hfl
        go_wp2_with fail
        refine HSM.out.mono ?_
        rintro e wa ⟨rfl, mm, rfl⟩
        have BA := Lib.hid (drewN_below8 w7 mm)
        go_wp2_with (first
          | (go_at_call_of 11 R; refine (HTI.out _ BA.out).mono ?_; rintro e w' ⟨rfl, rfl⟩)
          | (go_at_call_of 11 S; refine (HTJ.out _ BA.out).mono ?_; rintro e w' ⟨rfl, rfl⟩)
          | (go_at_call_of 12 R; refine (HDI.out _ BA.out).mono ?_; rintro e w' ⟨rfl, rfl⟩)
          | (go_at_call_of 12 S; refine (HDJ.out _ BA.out).mono ?_; rintro e w' ⟨rfl, rfl⟩))
        refine (HFI.out _ BA.out).mono ?_
        rintro e wb ⟨u1, rfl, hu1, hbb1⟩
        have BB := Lib.hid (ahead BA.out hbb1)
        have HU1 := Lib.hid hu1
        obtain ⟨q1, cq1, rfl, -⟩ := RS.slice hu1
        clear hu1 hbb1
        go_wp2_with fail
        refine (HFJ.out _ BB.out).mono ?_
        rintro e wc ⟨u2, rfl, hu2, hbb2⟩
        have HQ := Lib.hid (fields_any fx fx _ u2 wc (HU1.out.below hbb2) hu2 HFL.out HFL.out rfl)
        have BC := Lib.hid (ahead BB.out hbb2)
        obtain ⟨q2, cq2, rfl, -⟩ := RS.slice hu2
        clear hu2 hbb2
        go_wp2_with fail
        refine HQ.out.mono ?_
        rintro e wd ⟨rfl, hbb3⟩
        have bd := ahead BC.out hbb3
        have HCI := Lib.hid (closeI (HI.out.below bd))
        have HJD := Lib.hid (HJ.out.below bd)
        have BD := Lib.hid bd
        clear hbb3 bd
        go_wp2_with fail
        refine HCI.out.mono ?_
        rintro e we ⟨rfl, hie, mie⟩
        have be := (BW.out.trans (BD.out.mono HZ.out)).trans (mie.below (B := w0.heap.size) (Nat.le_trans HZ.out BD.out.size) HM.out)
        have HCJ := Lib.hid (closeI (HJD.out.moved (W' := we) (fun g hg => mie.block g (HJD.out.lt hg) (fun hm => HMN.out g hm hg)) (HSP.out.below be)))
        have BE := Lib.hid be
        have HZE := Lib.hid (Nat.le_trans (Nat.le_trans HZ.out BD.out.size) mie.size)
        clear hie mie be
        obtain ⟨se, hse⟩ : ∃ se, shutE KK er = se := ⟨_, rfl⟩
        rw [hse]
        have HSE := Lib.hid hse
        clear hse
        go_wp2_with fail
        refine HCJ.out.mono ?_
        rintro e wf ⟨rfl, hjf, mjf⟩
        rw [HSE.out]
        have HBF := Lib.hid (HFIN.out _ (BE.out.trans (mjf.below (B := w0.heap.size) HZE.out HN.out)))
        clear hjf mjf
        go_wp2_with fail
        go_ret
        exact ⟨rfl, HBF.out⟩

set_option maxRecDepth 100000 in
theorem cuts12_data {H : Type} {enc : TypeId × Value → H} {W : World} {base : Nat} {v0 v1 v2 : Value} {d1 d2 : DataW H} {p1 p2 : List MemPlace} (u0 : Value.okWide Tryd.prog W .any base 24 v0)
    (u1 : Value.okWide Tryd.prog W .any base 25 v1) (h1 : DataW.Trod enc Tryd.prog W 0 (fun _ => true) true 25 v1 d1 p1) (u2 : Value.okWide Tryd.prog W .any base 26 v2) (h2 : DataW.Trod enc Tryd.prog W 0 (fun _ => true) true 26 v2 d2 p2) (hsp : Spans W) :
    Calls Tryd.prog 3 #[v0, v1, v2] W fun e w' => e = .returned (.bool true) ∧ Below W.heap.size W w' := by
  obtain ⟨k, s, rfl, hs⟩ := open_frame u0
  obtain ⟨T, hT, hv⟩ := open_bytes u1 h1
  obtain ⟨p, cap, rfl, -⟩ := id hT
  obtain ⟨a, rfl, _, _, w0⟩ := open_int Tryd.underlying26 u2 h2
  have b := bounds_u16 w0
  obtain ⟨n, rfl⟩ : ∃ n : Nat, a = (n : Int) := ⟨a.toNat, by omega⟩
  exact cuts12_walk k s n W hs (by omega) hT hv hsp

end Go.Proofs.YtjkccacpffikbaaDoor
