/- The laws' example. -/
import Derived.Test.YtilebfpaibajcaaGreatDoorMH
import Derived.Test.YtilebfpaibajcaaGreatDoorEncAt
import Derived.Test.YtilebfpaibajcaaGreatDoorMJ
import Derived.Lib.SlBytesConst
namespace Go.Proofs.YtilebfpaibajcaaGreatDoor
open Go.ChangeShapes Go.WideShapes Go.ChangeAt Go.RowKit
open Go.Shelf
open Oc Fl Bk Bd Ft Ot
set_option linter.unusedVariables false
set_option maxRecDepth 100000

theorem RD.sol3 {O R K : Nat} {A B : World} {v : Value} {xs : List UInt8} (h : RD A v xs) (hs : Sol3 O R K A B) (hg : ∀ g, v.ownBlock = some g → g < A.heap.size ∧ g ≠ O ∧ g ≠ R ∧ g ≠ K) : RD B v xs := h.kept fun g e => hs.block g (hg g e).1 (hg g e).2.1 (hg g e).2.2.1 (hg g e).2.2.2

/-- Put of an outlet of a body of a size. -/
theorem outPut_fix (O R K : Nat) (o : Rs) (s : Nat) (T : List UInt8) (p : Option Addr) (c : Nat) (w : World) (hf : o.E.k = .fix s) (h : OuAt O R K o w) (hk : Ok o) (hx : RD w (.slice p T.length c) T) (hp : T ≠ [] → ∀ g, (Value.slice p T.length c).ownBlock = some g → g ≠ K) (hl : T.length ≤ 100000) :
    Calls Tryz.prog 14 #[.pointer (some ⟨O, 0, none⟩), .slice p T.length c] w fun e w' => ∃ v, e = .returned (.tuple #[v, .int .i64 (putOe o T : Int)]) ∧ OuQ O R K (putO o T) w w' v (putOb o T) := by
  have hlow := hk.low
  have hda := hk.data
  have hok := hk.ok
  have hbl : (putBx o.E T).length ≤ T.length := by
    unfold putBx
    rw [hf]
    split
    · exact Nat.zero_le _
    · show (fixB s o.E.d T).length ≤ _
      unfold fixB
      split
      · exact Nat.zero_le _
      · exact Nat.le_refl _
  have hAd : o.A.length = o.E.d := by unfold dataOk at hda; rw [hf] at hda; exact hda
  have hds : o.E.d ≤ s ∧ s ≤ 4611686018427387903 := by unfold Es.ok at hok; rw [hf] at hok; exact hok
  have hbl2 : o.E.d + (putBx o.E T).length ≤ s := by
    unfold putBx
    rw [hf]
    split
    · simp; omega
    · show o.E.d + (fixB s o.E.d T).length ≤ _
      unfold fixB
      split
      · simp; omega
      · omega
  refine outPut_any O R K o T p c w h hk (fun hs => ?_) (by omega) (by omega)
  have hd := done_not hk hs
  have hE := h.enc
  obtain ⟨⟨k, d, done⟩, A, W, sh⟩ := o
  simp only at hf hd hE
  subst hf hd
  refine (fixPut_any R K s d T p c w ⟨hE.enc, hE.knd, hE.ne, hE.ok.1, hE.ok.2⟩ hx hp hl).mono ?_
  rintro e w' ⟨v, rfl, hq⟩
  exact ⟨v, rfl, ⟨⟨hq.at_.enc, hq.at_.knd, hq.at_.ne, hq.at_.le, hq.at_.big⟩, hq.rd, Sol2.of_right hq.sol, hq.own⟩⟩

set_option maxHeartbeats 4000000 in
theorem wakes14 (w : World) (hT : Tbl w) (hsp : Spans w) : Calls Tryz.prog 6 #[] w fun e w' => e = .returned (.bool true) ∧ Below w.heap.size w w' := by
  have hcv := fun (w : World) (C : Array Value) (n c : Nat) => Lib.run_convert_bytes_const (P := Tryz.prog) w 35 5 C n c Tryz.underlying35 Tryz.underlying5
  have HCV := Lib.hid hcv
  have HN := Lib.hid (outNew_any 1 3 w (by decide) fun W _ => encNew_any 1 3 W (by decide))
  have HT := Lib.hid hT
  have HSP := Lib.hid hsp
  obtain ⟨o0, ho0⟩ : ∃ o, newO 1 3 = o := ⟨_, rfl⟩
  obtain ⟨o1, ho1⟩ : ∃ o, putO o0 [97, 98] = o := ⟨_, rfl⟩
  obtain ⟨o2, ho2⟩ : ∃ o, putO o1 [99] = o := ⟨_, rfl⟩
  have k0 : Ok o0 := by rw [← ho0]; exact new_ok (by decide)
  have k1 : Ok o1 := by rw [← ho1]; exact put_ok _ k0
  have k2 : Ok o2 := by rw [← ho2]; exact put_ok _ k1
  have HK : Hid (Ok o0 ∧ Ok o1 ∧ Ok o2) := Lib.hid ⟨k0, k1, k2⟩
  have hv : o0.E.k = .fix 3 ∧ o1.E.k = .fix 3 ∧ o2.E.k = .fix 3 ∧ putOe o0 [97, 98] = 0 ∧ putOb o0 [97, 98] = [97, 98] ∧ putOe o1 [99] = 0 ∧ putOb o1 [99] = [] ∧ endOe o2 [] = 0 ∧ endOb o2 [] = [99] ∧ o2.A.length + (endBx o2.E (sel false [])).length ≤ 1000000 := by
    subst ho2 ho1 ho0
    refine ⟨rfl, rfl, rfl, rfl, rfl, rfl, rfl, rfl, rfl, ?_⟩
    decide
  have HV := Lib.hid hv
  have H1 := Lib.hid ho1
  have H2 := Lib.hid ho2
  rw [ho0] at HN
  clear hcv hT hsp k0 k1 k2 hv ho0 ho1 ho2
  go_enter Tryz.func6, Tryz.ntmps6
  go_wp2_with fail
  refine HN.out.mono ?_
  rintro e w1 ⟨O, R, K, rfl, hA1, hb1, hO, hR, hK⟩
  have hcv1 := HCV.out w1 #[.int .u8 97, .int .u8 98] 2 2
  obtain ⟨w2, hw2⟩ : ∃ w2, w1.alloc (.cells #[.int .u8 97, .int .u8 98] 5 (2, 3)) = w2 := ⟨_, rfl⟩
  have b2 : Below w1.heap.size w1 w2 := by rw [← hw2]; exact below_box _ _
  have z2 : w2.heap.size = w1.heap.size + 1 := by rw [← hw2]; simp
  have r2 : RD w2 (.slice (some ⟨w1.heap.size, 0, none⟩) 2 2) [97, 98] := by rw [← hw2]; exact rd_lit w1 [97, 98] (2, 3) (by decide)
  have l1 := hA1.lt
  have l2 := hA1.enc.ltR
  have l3 := hA1.enc.ltK
  have HP := Lib.hid (outPut_fix O R K o0 3 [97, 98] (some ⟨w1.heap.size, 0, none⟩) 2 w2 HV.out.1 (hA1.below b2) HK.out.1 r2 (fun _ g hg => by cases hg; show w1.heap.size ≠ K; omega) (by decide))
  rw [HV.out.2.2.2.1, HV.out.2.2.2.2.1, H1.out] at HP
  have W2 := Lib.hid hw2
  have B2 := Lib.hid (ahead hb1 b2)
  have HOR : Hid (w.heap.size ≤ O ∧ w.heap.size ≤ R ∧ w.heap.size ≤ K ∧ O < w2.heap.size ∧ R < w2.heap.size ∧ K < w2.heap.size ∧ w.heap.size ≤ w2.heap.size) := Lib.hid ⟨hO, hR, hK, by omega, by omega, by omega, by have := hb1.size; omega⟩
  clear hw2 r2 b2 z2 l1 l2 l3 hA1 hb1 hO hR hK HN
  go_wp2_with fail
  rw [W2.out]
  refine HP.out.mono ?_
  rintro e w3 ⟨v1, rfl, hQ1⟩
  have hcv3 := HCV.out w3 #[.int .u8 99] 1 1
  obtain ⟨w4, hw4⟩ : ∃ w4, w3.alloc (.cells #[.int .u8 99] 5 (1, 2)) = w4 := ⟨_, rfl⟩
  have b4 : Below w3.heap.size w3 w4 := by rw [← hw4]; exact below_box _ _
  have z4 : w4.heap.size = w3.heap.size + 1 := by rw [← hw4]; simp
  have r4 : RD w4 (.slice (some ⟨w3.heap.size, 0, none⟩) 1 1) [99] := by rw [← hw4]; exact rd_lit w3 [99] (1, 2) (by decide)
  have hz3 := hQ1.sol.size
  have hor := HOR.out
  have HP2 := Lib.hid (outPut_fix O R K o1 3 [99] (some ⟨w3.heap.size, 0, none⟩) 1 w4 HV.out.2.1 (hQ1.at_.below b4) HK.out.2.1 r4 (fun _ g hg => by cases hg; show w3.heap.size ≠ K; omega) (by decide))
  rw [HV.out.2.2.2.2.2.1, HV.out.2.2.2.2.2.2.1, H2.out] at HP2
  have W4 := Lib.hid hw4
  have HR1 : Hid (RD w4 v1 [97, 98] ∧ ∀ g, v1.ownBlock = some g → g < w4.heap.size ∧ g ≠ O ∧ g ≠ R ∧ g ≠ K) := Lib.hid ⟨hQ1.rd.below b4, fun g hg => by have := hQ1.own g hg; omega⟩
  have HS4 := Lib.hid (hQ1.sol.trans (Sol3.of_below b4))
  clear hw4 r4 b4 z4 hz3 hor hQ1 HP hcv1
  obtain ⟨p1, c1, rfl, -⟩ := id HR1.out.1
  go_wp2_with fail
  rw [W4.out]
  refine HP2.out.mono ?_
  rintro e w5 ⟨v2, rfl, hQ2⟩
  obtain ⟨p2, c2, rfl, -⟩ := id hQ2.rd
  have hs5 := HS4.out.trans hQ2.sol
  have hor := HOR.out
  have hB5 := hs5.below B2.out hor.1 hor.2.1 hor.2.2.1 hor.2.2.2.2.2.2
  have HR5 : Hid (RD w5 (.slice p1 [97, 98].length c1) [97, 98] ∧ ∀ g, (Value.slice p1 [97, 98].length c1).ownBlock = some g → g < w5.heap.size ∧ g ≠ O ∧ g ≠ R ∧ g ≠ K) := Lib.hid ⟨RD.sol3 HR1.out.1 hQ2.sol HR1.out.2, fun g hg => by have h1 := HR1.out.2 g hg; have h2 := hQ2.sol.size; omega⟩
  have HEN := Lib.hid (outEnd_any O R K o2 [] none 0 w5 hQ2.at_ HK.out.2.2
    (fun W hbW _ => by
      refine (keep_any [] none 0 W (HT.out.below (ahead hB5 hbW)) ⟨rfl, none, 0, rfl, Nat.le_refl _, by decide, fun _ => rfl, fun ad hp => by cases hp⟩ (by decide) (by simp)).mono ?_
      rintro e w' ⟨v, rfl, h1, h2⟩
      obtain ⟨q, d, rfl, -⟩ := id h1.slice
      exact ⟨q, d, rfl, h1, h2⟩)
    (fun W q d hbW hF _ => encEnd_any R K o2.E (sel false []) q d W (hQ2.at_.enc.below hbW) hF (by decide) (HSP.out.below (ahead hB5 hbW)))
    HV.out.2.2.2.2.2.2.2.2.2)
  rw [HV.out.2.2.2.2.2.2.2.1, HV.out.2.2.2.2.2.2.2.2.1] at HEN
  have HS5 := Lib.hid hs5
  clear hQ2 hB5 hs5 hor HP2 HR1 HS4 hcv3
  go_wp2_with fail
  refine HEN.out.mono ?_
  rintro e w6 ⟨v3, rfl, hQ3⟩
  obtain ⟨p3, c3, rfl, -⟩ := id hQ3.rd
  have hor := HOR.out
  have HB6 := Lib.hid ((HS5.out.trans hQ3.sol).below B2.out hor.1 hor.2.1 hor.2.2.1 hor.2.2.2.2.2.2)
  have hc1 : (convert 35 9 (.slice p1 2 c1)).run Tryz.prog w6 = .ok (.string ⟨#[97, 98]⟩) w6 := conv_rd (RD.sol3 HR5.out.1 hQ3.sol HR5.out.2)
  have hc3 : (convert 35 9 (.slice p3 1 c3)).run Tryz.prog w6 = .ok (.string ⟨#[99]⟩) w6 := conv_rd hQ3.rd
  clear hQ3 hor HEN HR5
  go_wp2_with fail
  go_ret
  exact ⟨rfl, HB6.out⟩

end Go.Proofs.YtilebfpaibajcaaGreatDoor
