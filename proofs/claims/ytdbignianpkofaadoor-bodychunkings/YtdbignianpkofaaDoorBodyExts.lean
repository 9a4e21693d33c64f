/- The law BodyExtensions. -/
import Derived.Test.YtdbignianpkofaaDoorBodyPuts
namespace Go.Proofs.YtdbignianpkofaaDoor
open Go.ChangeShapes Go.WideShapes Go.ChangeAt Go.RowKit
open Go.Shelf
open Oc Fl Bk Bd
set_option linter.unusedVariables false
set_option maxRecDepth 100000

/-- A body without trailers, scanned. -/
theorem scan_bod0 {tv : Value} {E : Nat} {e : List UInt8} {cs : List (List UInt8)} {nf nb : Nat} (hnf : cs.flatten.length = nf) (hnb : (bod e cs []).length = nb) (w : World) (hT : RD w tv (bod e cs [])) (hl : nb ≤ 100000) (hE : E ≤ 65536)
    (he : Ext ⟨E, 0, 0⟩ e) (hc : nf ≤ 100000) (hv : ∀ g, tv.ownBlock = some g → g < w.heap.size) (hsp : Spans w) (hbd : Bound w) :
    Calls Tryd.prog 10 #[tv, .agg #[.int .i64 (E : Int), .int .i64 0, .int .i64 0]] w fun x w' => ∃ p1 c1 p2 c2, x = .returned (.tuple #[.agg #[.slice p1 nf c1, .slice p2 0 c2, .int .i64 (nb : Int)], .int .i64 (nb : Int), .int .i64 0]) ∧ RD w' (.slice p1 nf c1) cs.flatten ∧ Below w.heap.size w w' := by
  subst hnf
  subst hnb
  refine (scan_bod (l := ⟨E, 0, 0⟩) (M := []) (fs := []) w (by rw [List.append_nil]; exact hT) (by rw [List.append_nil]; omega) ⟨hE, Nat.zero_le _, Nat.zero_le _⟩ he (by omega) rfl (Nat.le_refl _) (by simp [body]) hv hsp hbd).mono ?_
  rintro x w' ⟨p1, c1, p2, c2, rfl, hd, hg, hb⟩
  exact ⟨p1, c1, p2, c2, rfl, hd, hb⟩
theorem scan_over {tv : Value} {T : List UInt8} {l : Lim} {s' : St} {k e : Nat} (hgo : go l (sz [] 0 0) T 0 = (s', k, e)) (he : e ≠ 0) (w : World) (hT : RD w tv T) (hl : T.length ≤ 100000) (hlm : l.ext ≤ 65536 ∧ l.fields ≤ 65536 ∧ l.bytes ≤ 65536) (hv : ∀ g, tv.ownBlock = some g → g < w.heap.size) (hsp : Spans w) (hbd : Bound w) :
    Calls Tryd.prog 10 #[tv, limv l] w fun x w' => ∃ p1 c1 p2 c2, x = .returned (.tuple #[.agg #[.slice p1 0 c1, .slice p2 0 c2, .int .i64 0], .int .i64 (k : Int), .int .i64 (e : Int)]) ∧ Below w.heap.size w w' := by
  refine (scan8_any w hT (by omega) hlm hv hsp hbd).mono ?_
  rintro x w' ⟨s1, k1, e1, dv, gv, hgo1, rfl, hbl, hd, hg⟩
  rw [hgo] at hgo1
  simp only [Prod.mk.injEq] at hgo1
  obtain ⟨rfl, rfl, rfl⟩ := hgo1
  rw [if_neg he] at hd hg ⊢
  obtain ⟨p1, c1, rfl, q1⟩ := id hd
  obtain ⟨p2, c2, rfl, q2⟩ := RS.slice hg
  exact ⟨p1, c1, p2, c2, rfl, hbl⟩
theorem digit_not {b : UInt8} (h : Hx.isd b = true) : ((b.toNat : Int) == 59) = false := by
  rw [beq_eq_false_iff_ne]
  intro e
  have : b = 59 := by apply UInt8.toNat_inj.1; have : b.toNat = 59 := by omega
                      rw [this]; rfl
  subst this
  exact absurd h (by decide)

set_option maxHeartbeats 8000000 in
theorem exts8_walk (cs : List (List UInt8)) (x : List UInt8) (m : Nat) (hm : m ≤ 255) (p : Option Addr) (c : Nat) (w : World) (hC : CS w (.slice p cs.length c) cs)
    (hcb : ∀ x ∈ cs, x.length ≤ 140737488355328) (hxl : x.length ≤ 9223372036854775807) (hsp : Spans w) (hbd : Bound w) :
    Calls Tryd.prog 7 #[.slice p cs.length c, .string (arr x), .int .u8 (m : Int)] w fun e w' => e = .returned (.bool true) ∧ Below w.heap.size w w' := by
  have HWK := Lib.hid (wakes8 w hsp hbd)
  have HC := Lib.hid hC
  have HSP := Lib.hid hsp
  have HBD := Lib.hid hbd
  have HCB := Lib.hid hcb
  have hes := arr_size x
  have HAL := Lib.hid (arr_list x)
  have HAE := Lib.hid (show (⟨#[59]⟩ : ByteArray) ++ arr x = arr (59 :: x) by rw [show (⟨#[59]⟩ : ByteArray) = arr [59] from rfl, arr_app8]; rfl)
  obtain ⟨eb, heb⟩ : ∃ y, arr x = y := ⟨_, rfl⟩
  rw [heb] at hes HAL HAE ⊢
  clear hC hsp hbd hcb heb
  go_enter Tryd.func7, Tryd.ntmps7
  go_wp2_with fail
  refine HWK.out.mono ?_
  rintro e w1 ⟨rfl, hb1⟩
  have B1 := Lib.hid hb1
  clear hb1 HWK
  by_cases hn : 5 < cs.length
  · have hn' : (5 : Int) < (cs.length : Int) := by omega
    go_wp2_with fail
    go_ret
    exact ⟨rfl, B1.out⟩
  have hn' : ¬ (5 : Int) < (cs.length : Int) := by omega
  by_cases hm5 : 50 < eb.size
  · have hm' : (50 : Int) < (eb.size : Int) := by omega
    go_wp2_with fail
    go_ret
    exact ⟨rfl, B1.out⟩
  have hm' : ¬ (50 : Int) < (eb.size : Int) := by omega
  have HTX := Lib.hid (rtext_any eb w1 (by omega))
  rw [HAL.out] at HTX
  cases ht : text x with
  | false =>
    rw [ht] at HTX
    go_wp2_with fail
    refine HTX.out.mono ?_
    rintro e w2 ⟨rfl, rfl⟩
    go_wp2_with fail
    go_ret
    exact ⟨rfl, B1.out⟩
  | true =>
  rw [ht] at HTX
  go_wp2_with fail
  refine HTX.out.mono ?_
  rintro e w2 ⟨rfl, rfl⟩
  have HT := Lib.hid ht
  clear HTX ht
  go_wp2_with fail
  go_loopw [7, 35] (fun n i wr => ∃ (k : Nat), k ≤ cs.length ∧ i = .int .i64 k ∧ n = .int .i64 ((cs.take k).flatten.length : Int) ∧ (cs.take k).flatten.length ≤ 300 ∧ Hid (Below w.heap.size w wr)) (fun _ i _ => cs.length - (intOf i).toNat)
  case atStart => exact ⟨0, Nat.zero_le _, rfl, rfl, by simp, B1⟩
  case round =>
    obtain ⟨k, hk, rfl, rfl, h5, HB⟩ := hrel
    by_cases hlt : k < cs.length
    · obtain ⟨y, hy⟩ : ∃ y, cs[k]? = some y := ⟨_, List.getElem?_eq_getElem hlt⟩
      obtain ⟨-, ad, pu, cu, rfl, c0, hu⟩ := (HC.out.below HB.out).at hy
      have hxb := HCB.out y (List.mem_of_getElem? hy)
      have hs := flat_snoc hy
      have hw : IntKind.i64.wrap (((cs.take k).flatten.length : Int) + (y.length : Int)) = ((cs.take (k + 1)).flatten.length : Int) := by rw [hs]; push_cast; exact IntWalk.i64_in _ (by omega)
      clear hu hy
      generalize (cs.take k).flatten.length = n0 at *
      generalize hn1 : (cs.take (k + 1)).flatten.length = n1 at *
      by_cases h6 : 300 < n1
      · have h6' : (300 : Int) < (n1 : Int) := by omega
        clear hn1
        go_wp2_with fail
        go_ret
        exact ⟨rfl, HB.out⟩
      · have h6' : ¬ (300 : Int) < (n1 : Int) := by omega
        have HN1 := Lib.hid hn1
        clear hn1
        go_wp2_with fail
        go_roundw
        case rel => exact ⟨k + 1, by omega, by go_num, by rw [HN1.out]; congr 1; omega, by rw [HN1.out]; omega, HB⟩
        case measure => simp [intOf]; omega
    · obtain rfl : k = cs.length := by omega
      rw [List.take_length] at *
      generalize hnf : cs.flatten.length = nf at *
      have HNF := Lib.hid hnf
      clear B1 hnf
      have HPU := Lib.hid (rput8_any cs (59 :: x) [] p none c 0 wr (HC.out.below HB.out) (RS.nil wr 2) (by omega) (by rw [HNF.out]; omega) (by simp; omega) (by simp [bulk]))
      rw [← HAE.out] at HPU
      go_wp2_with fail
      refine HPU.out.mono ?_
      rintro e w3 ⟨sv, rfl, hs, hb3⟩
      have hbd := bod_len (59 :: x) cs [] (by rw [HNF.out]; omega)
      rw [HNF.out] at hbd
      simp only [List.length_cons, show (body []).length = 0 from rfl] at hbd
      have hcx : cs.length * (x.length + 1 + 7) ≤ 5 * 58 := Nat.mul_le_mul (by omega) (by omega)
      have hbz : (bod (59 :: x) cs []).length ≤ 5000 := by omega
      obtain ⟨n, y, hhd, hnn⟩ := bod_head x cs []
      rw [HNF.out] at hnn
      obtain ⟨s', hov⟩ := go_bod_over (l := ⟨x.length, 0, 0⟩) HT.out rfl (by rw [HNF.out]; omega) [] hhd (by rw [HNF.out]; exact hnn)
      have hpl := Hx.put_len n 2 (by omega)
      have hown3 : ∀ g, sv.ownBlock = some g → g < w3.heap.size := by
        intro g hg
        obtain ⟨kk, e1, e2⟩ := hs.lt (fun e => by have := congrArg List.length hhd; rw [e] at this; simp at this)
        rw [hg] at e1
        cases e1
        exact e2
      have BB3 := Lib.hid (ahead HB.out hb3)
      obtain ⟨ps, ks, rfl, -⟩ := id hs
      obtain ⟨E, hE⟩ : ∃ E, 1 + x.length + m = E := ⟨_, rfl⟩
      obtain ⟨K2, hK2⟩ : ∃ K2, (Hx.put n).length + x.length = K2 := ⟨_, rfl⟩
      rw [hK2] at hov
      have q0 : IntKind.i64.wrap (1 + (x.length : Int)) = 1 + (x.length : Int) := IntWalk.i64_in _ (by omega)
      have q1 : IntKind.i64.wrap (m : Int) = (m : Int) := IntWalk.i64_in _ (by omega)
      have q2 : IntKind.i64.wrap (1 + (x.length : Int) + (m : Int)) = (E : Int) := by rw [← hE]; push_cast; exact IntWalk.i64_in _ (by omega)
      have q3 : IntKind.i64.wrap (((Hx.put n).length : Int) + (x.length : Int)) = (K2 : Int) := by rw [← hK2]; push_cast; exact IntWalk.i64_in _ (by omega)
      have hpn := Hx.put_len_pos n
      obtain ⟨nb, hnb⟩ : ∃ nb, (bod (59 :: x) cs []).length = nb := ⟨_, rfl⟩
      have hnp : (Hx.put n).length < nb := by rw [← hnb, hhd]; simp
      have HD0 : Hid (∀ k b, k < (Hx.put n).length → (bod (59 :: x) cs [])[k]? = some b → Hx.isd b = true) := Lib.hid fun k b hk hb => by
        rw [hhd, List.getElem?_append_left hk] at hb
        exact Hx.put_isd n b (List.mem_of_getElem? hb)
      have HD1 : Hid ((bod (59 :: x) cs [])[(Hx.put n).length]? = some 59) := Lib.hid (by rw [hhd, List.getElem?_append_right (Nat.le_refl _)]; simp)
      have HS1 := Lib.hid (scan_bod0 (E := E) (e := 59 :: x) HNF.out hnb w3 hs (by omega) (by omega) (.inr ⟨x, rfl, HT.out, by simp only; omega⟩) (by omega) hown3 (HSP.out.below BB3.out) (HBD.out.below BB3.out))
      have HRD := Lib.hid hs
      have HV := Lib.hid hown3
      have HOV := Lib.hid hov
      have HNB := Lib.hid hnb
      rw [hnb] at HRD HV HS1 hbz ⊢
      have hl100 : (bod (59 :: x) cs []).length ≤ 100000 := by omega
      have HLL := Lib.hid hl100
      clear hs hown3 hov hl100 hb3 HPU hhd hbd hnb HAE HAL hE hK2
      generalize (Hx.put n).length = np at *
      go_wp2_with fail
      refine HS1.out.mono ?_
      rintro e w4 ⟨p1, c1, p2, c2, rfl, hd, hb4⟩
      obtain ⟨w5, hw5⟩ : ∃ w5, w4.alloc (.cells #[.slice p1 nf c1, .slice p2 0 c2, .int .i64 (nb : Int)] 28) = w5 := ⟨_, rfl⟩
      have b5 : Below w4.heap.size w4 w5 := by rw [← hw5]; exact below_box _ _
      have z5 : w5.heap.size = w4.heap.size + 1 := by rw [← hw5]; simp
      have g5 : w5.heap[w4.heap.size]? = some (.cells #[.slice p1 nf c1, .slice p2 0 c2, .int .i64 (nb : Int)] 28 (0, 0)) := by rw [← hw5]; exact World.alloc_heap_new w4 _
      have b35 := ahead hb4 b5
      have BB5 := Lib.hid (ahead BB3.out b35)
      have HRD5 := Lib.hid (HRD.out.below b35)
      have HD5 := Lib.hid (hd.below b5)
      have HS2 := Lib.hid (scan_over (l := ⟨x.length, 0, 0⟩) HOV.out (by decide) w5 HRD5.out HLL.out ⟨by simp only; omega, Nat.zero_le _, Nat.zero_le _⟩ (own_lt w5 HV.out b35.size) (HSP.out.below BB5.out) (HBD.out.below BB5.out))
      unfold limv at HS2
      have W5 := Lib.hid hw5
      clear hb4 b5 hw5 b35 hd HS1 HRD BB3
      go_wp2_with fail
      rw [W5.out]
      refine HS2.out.mono ?_
      rintro e w6 ⟨p3, c3, p4, c4, rfl, hb6⟩
      obtain ⟨w7, hw7⟩ : ∃ w7, w6.alloc (.cells #[.slice p3 0 c3, .slice p4 0 c4, .int .i64 0] 28) = w7 := ⟨_, rfl⟩
      have b7 : Below w6.heap.size w6 w7 := by rw [← hw7]; exact below_box _ _
      have b57 := ahead hb6 b7
      have hlt5 : w4.heap.size < w5.heap.size := by omega
      have K7 : Hid (∀ W, Below w7.heap.size w7 W → W.cell? ⟨w4.heap.size, 0, none⟩ = some (.slice p1 nf c1)) := Lib.hid fun W hW => (three_cells8 (((ahead b57 hW).block _ hlt5).trans g5)).1.1
      have HRD7 := Lib.hid (HRD5.out.below b57)
      have HD7 := Lib.hid (HD5.out.below b57)
      have BB7 := Lib.hid (ahead BB5.out b57)
      have HJ : Hid (∀ W, Below w7.heap.size w7 W → _) := Lib.hid fun W hW => rjoin8_is cs nf HNF.out p c W (HC.out.below (ahead BB7.out hW)) (by omega) (by omega)
      have W7 := Lib.hid hw7
      clear hb6 b7 hw7 b57 g5 HS2 HRD5 HD5 W5 BB5
      go_wp2_with fail
      rw [W7.out]
      clear W7
      go_loopw [17] (fun i wr => ∃ (k : Nat), k ≤ np ∧ i = .int .i64 k ∧ Hid (Below w7.heap.size w7 wr)) (fun i _ => np - (intOf i).toNat)
      case atStart => exact ⟨0, Nat.zero_le _, rfl, Lib.hid (Below.refl _ _)⟩
      case round =>
        clear HB
        obtain ⟨k, hk, rfl, HB⟩ := hrel
        have hkl : k < (bod (59 :: x) cs []).length := by rw [HNB.out]; omega
        have hrw := HRD7.out.below HB.out
        rw [← HNB.out] at hrw
        obtain ⟨ad, rfl, c0⟩ := hrw.cellAt hkl
        have hkb : (k : Int) < (nb : Int) := by omega
        by_cases hlt : k < np
        · have hdig := HD0.out k _ hlt (List.getElem?_eq_getElem hkl)
          generalize (bod (59 :: x) cs [])[k] = b at *
          have hne := digit_not hdig
          have hbn : ((b.toNat : Int) != 59) = true := by unfold bne; rw [hne]; rfl
          clear hrw hdig hkl
          go_wp2_with fail
          go_roundw
          case rel => exact ⟨k + 1, by omega, by go_num, HB⟩
          case measure => simp [intOf]; omega
        · obtain rfl : k = np := by omega
          have h59 : (bod (59 :: x) cs [])[k] = 59 := by have := HD1.out; rw [List.getElem?_eq_getElem hkl] at this; exact Option.some.inj this
          rw [h59] at c0
          have c0' : wr.cell? (ad.add k) = some (.int .u8 59) := c0
          have BA : Hid (Below w7.heap.size w7 wr.drew) := Lib.hid (drew_of8 HB.out)
          clear c0 hrw h59 hkl
          go_wp2_with fail
          go_region_held3 (fun W => W.cell? ⟨w4.heap.size, 0, none⟩ = some (.slice p1 nf c1))
            ((refine K7.out _ ?_; with_reducible exact BA.out))
            (first
            | (go_at_call 22; refine (HJ.out _ BA.out).mono ?_; rintro e w8 ⟨pj, kj, rfl, hj, hb'⟩; have HDJ := Lib.hid hj; replace BA := Lib.hid (ahead BA.out hb'); clear hb' hj)
            | (go_at_call 18; refine (rsame8_any _ _ _ cs.flatten cs.flatten (HD7.out.below BA.out) HDJ.out).mono ?_; rintro e w' ⟨rfl, m', rfl⟩; rw [decide_eq_true rfl]; replace BA := Lib.hid (drewN_in BA.out m')))
          all_goals
            go_wp2_with fail
            go_ret
            exact ⟨rfl, ahead BB7.out BA.out⟩

end Go.Proofs.YtdbignianpkofaaDoor
