/- What Put answers. -/
import Derived.Test.YtjkccacpffikbaaGreatDoorDecPut
import Derived.Deep.RegionWith
namespace Go.Proofs.YtjkccacpffikbaaGreatDoor
open Go.ChangeShapes Go.WideShapes Go.ChangeAt Go.RowKit
open Oc Fl Bk Bd Dk
set_option linter.unusedVariables false
set_option maxRecDepth 100000

/-- Whether a byte is taken: 0, where none is. -/
def whOf (W : World) (R : Nat) : Nat := match W.cell? ⟨R, 3, none⟩ with | some (.int _ z) => if z = 0 then 0 else 1 | _ => 1
theorem whOf_le (W : World) (R : Nat) : whOf W R ≤ 1 := by unfold whOf; split <;> (try split) <;> omega
theorem whOf_at {W : World} {R n : Nat} (h : W.cell? ⟨R, 3, none⟩ = some (.int .i64 (n : Int))) : whOf W R = if n = 0 then 0 else 1 := by
  unfold whOf
  rw [h]
  simp only
  by_cases h0 : n = 0
  · subst h0; rfl
  · rw [if_neg (by omega), if_neg h0]
theorem RD.cellAt9 {W : World} {p : Option Addr} {l c : Nat} {xs : List UInt8} (h : RD W (.slice p l c) xs) {i : Nat} {b : UInt8} (hi : xs[i]? = some b) : ∃ ad, p = some ad ∧ W.cell? (ad.add i) = some (.int .u8 (b.toNat : Int)) := by
  obtain ⟨_, _, e, h1, h2, h3, h4⟩ := h
  cases e
  have hlt := (List.getElem?_eq_some_iff.1 hi).1
  cases p with
  | none => have := h3 rfl; omega
  | some ad => exact ⟨ad, rfl, h4 ad rfl i b hi⟩

set_option maxHeartbeats 8000000 in
theorem put9_any {R : Nat} {l : Lim} {x : St × Nat × Nat} {d0 : Ds} {lv0 gv0 : Value} {T : List UInt8} {tv : Value} (w : World) (h0 : DA R l d0 (tkAt d0.wh) lv0 gv0 w) (hx : Hold l x d0) (hT : RD w tv T) (hv : T ≠ [] → ∀ g, tv.ownBlock = some g → ¬ mine R lv0 gv0 g)
    (hTl : T.length ≤ 1000000) (hxl : x.2.1 ≤ 1000000) (hl : l.ext ≤ 65536 ∧ l.fields ≤ 65536 ∧ l.bytes ≤ 65536) :
    Calls Tryz.prog 110 #[.pointer (some ⟨R, 0, none⟩), tv] w fun e w' => PutQ R l x lv0 gv0 T w e w' := by
  have HX := Lib.hid hx
  have HT := Lib.hid hT
  have HV := Lib.hid hv
  have hP : PutAt R l x d0 lv0 gv0 T w 0 x d0 lv0 gv0 (.slice none 0 0) [] w := by
    refine ⟨h0, Moves.refl _ _, hx.core, rfl, by simp, by simp, World.ownsRow_nil _ _ _ _, fun g hg => by simp [Value.ownBlock] at hg, rfl, rfl, Nat.zero_le _, Nat.le_refl _, ?_⟩
    have := h0.base
    have := h0.lt
    omega
  have H0 := Lib.hid hP
  obtain ⟨pt, ct, rfl, hTc, -⟩ := id hT
  have HTL := Lib.hid hTc
  clear h0 hx hT hv hP hTc
  go_enter Tryz.func110, Tryz.ntmps110
  go_wp2; go_step3; go_wp2; go_step3; go_wp2
  go_loopw [4, 5, 7] (fun dv nv _ wr => ∃ (k : Nat) (y : St × Nat × Nat) (d : Ds) (lv gv : Value) (p : Option Addr) (q c : Nat) (D : List UInt8), dv = .slice p q c ∧ nv = .int .i64 (k : Int) ∧ PutAt R l x d0 lv0 gv0 T w k y d lv gv (.slice p q c) D wr) (fun _ nv _ W => 2 * (T.length - (intOf nv).toNat) + whOf W R)
  case atStart => exact ⟨0, x, d0, lv0, gv0, none, 0, 0, [], rfl, rfl, H0.out⟩
  case round =>
    clear H0
    obtain ⟨k, y, d, lv, gv, p, q, c, D, rfl, rfl, hA⟩ := hrel
    have HA := Lib.hid hA
    have hk := hA.le
    have hq : q = D.length := by
      obtain ⟨p', c', e, _⟩ := own_len9 hA.own
      cases e
      rfl
    have htk : d.taken ≤ 1000000 := by rw [hA.tk, HX.out.taken]; exact hxl
    have hgi : d.given ≤ 1000000 := by rw [hA.gi, HX.out.given]; have := HX.out.data; omega
    have hq2 : q ≤ 1000000 := by have := hA.dl; omega
    have hw1 : IntKind.i64.wrap ((d.taken : Int) + (k : Int)) = ((d.taken + k : Nat) : Int) := by rw [IntWalk.i64_in _ (by omega)]; omega
    have hw2 : IntKind.i64.wrap ((d.given : Int) + (q : Int)) = ((d.given + q : Nat) : Int) := by rw [IntWalk.i64_in _ (by omega)]; omega
    have f := hA.da.f
    obtain ⟨c0, c1, c2, c3, c4, c5, c6, c7, c8, c9, c10, c11, c12, c13⟩ := hA.da.reads
    by_cases hlt : k < T.length
    case neg =>
      obtain rfl : k = T.length := by omega
      have HQ := Lib.hid fun nq => hA.finish HX.out (.inr rfl) rfl nq
      clear hA hk htk hgi hq hlt c0 c1 c2 c3 c4 c6 c7 c8 c9 c10 c11
      go_wp2_with fail
      go_quiet (fail)
      go_wp2_with fail
      go_ret3
      exact HQ.out _
    case pos =>
    replace HV := Lib.hid (HV.out (by intro h0; rw [h0] at hlt; simp at hlt))
    have k1 : (0 : Int) ≤ (k : Int) := by omega
    have k2 : (k : Int) < (T.length : Int) := by omega
    by_cases h4 : y.2.2 = 4
    case neg =>
      have HQ := Lib.hid fun nq => hA.finish HX.out (.inl h4) rfl nq
      have hst := hA.core.stop.2 h4
      clear hA hk htk hgi hq hlt c0 c1 c2 c4 c6 c7 c8 c9 c10 c11
      rcases hst with hst | hst
      · rw [hst] at c3
        clear hst h4
        go_wp2_with fail
        go_quiet (fail)
        go_wp2_with fail
        rw [Exit.noGoto_ret]
        go_ret3
        exact HQ.out _
      · rw [hst] at c3
        clear hst h4
        go_wp2_with fail
        go_quiet (fail)
        go_wp2_with fail
        rw [Exit.noGoto_ret]
        go_ret3
        exact HQ.out _
    case pos =>
    obtain ⟨s, i, e4⟩ := y
    simp only at h4
    subst h4
    clear c0 c1 c2 c5 c6 c7 c8 c9 c10 c11 c12 c13 hw1 hw2 htk hgi
    obtain ⟨-, hp11, hs⟩ : (4 : Nat) = 4 ∧ s.place ≠ 11 ∧ Sim l s d := by
      rcases hA.core with h | h | h
      · exact h
      · exact absurd h.1 (by simp)
      · exact absurd rfl h.2.1
    by_cases h3 : s.place = 3
    case pos =>
      have hwh : d.wh = 5 := by
        have := hs.wh
        rw [if_neg (by omega)] at this
        omega
      have hT1 := hA.da.lt
      have hTr : RD wr (.slice pt T.length ct) T := HT.out.same fun g hg hlt' => hA.mv.block g hlt' (HV.out g hg)
      obtain ⟨p', c', hsl, hl1, hl2, hl3, hl4⟩ := hTr.part (i := k) (j := T.length) (m := ct) (by omega) (by omega) HTL.out (Nat.le_refl _)
      have hrest : (T.take T.length).drop k = T.drop k := by rw [List.take_length]
      obtain ⟨L, hL⟩ : ∃ L, (T.drop k).length = L := ⟨_, rfl⟩
      have hL' : L = T.length - k := by rw [← hL]; simp
      rw [hrest, hL] at hsl
      rw [hrest] at hl1 hl4
      rw [hL] at hl1
      have hcut : ∀ W, (Instr.slice 29 (.slice pt T.length ct) (some (.int .i64 (k : Int))) none none).run Tryz.prog W = .ok (.slice p' L c') W := fun W => hsl ▸ cut_l pt T.length ct k (by omega) W
      obtain ⟨m, hm⟩ : ∃ m, min d.left L = m := ⟨_, rfl⟩
      obtain ⟨uv, huv⟩ : ∃ uv, sliced p' 0 m c' 1 = uv := ⟨_, rfl⟩
      have hml : m ≤ L := by omega
      have hrd0 : RD wr (.slice p' L c') (T.drop k) := ⟨p', c', by rw [hL], by rw [hL]; exact hl1, hl2, hl3, hl4⟩
      have hru := hrd0.part (i := 0) (j := m) (m := c') (by omega) (by omega) (by omega) (Nat.le_refl _)
      rw [huv, List.drop_zero] at hru
      have hyl : ((T.drop k).take m).length = m := by simp; omega
      have hmine : ∀ g, uv.ownBlock = some g → ¬ mine R lv gv g := fun g hg hn => by
        rw [← huv] at hg
        obtain ⟨ad, rfl, hg2⟩ := sliced_ownBlock hg
        have hg3 : (sliced pt k T.length ct 1).ownBlock = some g := by rw [hsl]; simp [Value.ownBlock, hg2]
        obtain ⟨ad', rfl, hg4⟩ := sliced_ownBlock hg3
        have hgT : (Value.slice (some ad') T.length ct).ownBlock = some g := by simp [Value.ownBlock, hg4]
        obtain ⟨kk, e1, e2⟩ := HT.out.lt (by intro h0; rw [h0] at hlt; simp at hlt)
        rw [hgT] at e1
        cases e1
        rcases hA.mv.own g hn with h' | h'
        · exact HV.out g hgT h'
        · omega
      have HR := Lib.hid (run9_any (p := p') (n := L) (k := c') (xs := T.drop k) wr hA.da hL.symm hl1 (by omega) (by have := hs.left; have := hs.nmax; omega))
      rw [hm, huv] at HR
      have HU := Lib.hid hru
      obtain ⟨pu, cu, huu, -⟩ := hru
      rw [hyl] at huu
      subst huu
      have HK := Lib.hid (And.intro h3 (And.intro hlt (And.intro (show m = min d.left (T.drop k).length by rw [hL]; exact hm.symm) hyl)))
      have HMN := Lib.hid hmine
      have HN := Lib.hid (And.intro hL' (And.intro hml hq2))
      rw [hwh] at c3
      clear hA hk hs hp11 h3 hwh hT1 hTr hsl hl1 hl2 hl3 hl4 hrest hL hm hrd0 hyl hmine huv hL' hml hq hq2 c4 f hlt
      go_upto_region 7 with (go_at_call 112; refine HR.out.mono ?_; rintro e w1 ⟨rfl, h1, m1⟩)
      obtain ⟨h3, hlt, hm, hyl⟩ := HK.out
      obtain ⟨hL', hml, hq2⟩ := HN.out
      have hru1 : RD w1 (.slice pu m cu) ((T.drop k).take m) := HU.out.same fun g hg hlt' => m1.block g hlt' (HMN.out g hg)
      have hown1 : w1.ownsRow w.heap.size 5 1 (.slice p q c) D.length (bv D) := own_same HA.out.own fun g hg => m1.block g (HA.out.own.lt g hg).2 (HA.out.apart g hg)
      have hsz := HA.out.mv.size
      have hsz1 := m1.size
      have hDl := HA.out.dl
      obtain ⟨v', w2, r0, r1, r2, r3⟩ := append_rd9 w1 29 w.heap.size (.slice p q c) (.slice pu m cu) D ((T.drop k).take m) hown1 hru1 (by rw [hyl]; omega) (by omega)
      obtain ⟨y2, hP2, hm0, hkm⟩ := HA.out.ran h3 hlt hm h1 m1 r1 r2 r3
      have HP2 := Lib.hid hP2
      obtain ⟨p2, q2', c2, rfl⟩ := own_slice r1
      have HRUN := Lib.hid r0
      have hwk : IntKind.i64.wrap ((k : Int) + (m : Int)) = ((k + m : Nat) : Int) := by rw [IntWalk.i64_in _ (by omega)]; omega
      have HLT := Lib.hid (And.intro hm0 (And.intro hkm hlt))
      clear h3 hlt hm hyl hL' hml hru1 hown1 hsz hsz1 hDl r0 r1 r2 r3 hP2 h1 m1 HR HU HK HMN HN hcut hm0 hkm c3
      go_wp2_with (at_builtin; refine wpList_append_run rfl (.tmp 26) (.tmp 27) 29 rfl _ _ _ _ rfl rfl HRUN.out ?_)
      go_roundw
      case rel => exact ⟨k + m, y2, _, lv, gv, p2, q2', c2, _, rfl, by go_num, HP2.out⟩
      case measure => have := HLT.out; have q1 := whOf_le wr R; have q2 := whOf_le w2 R; simp only [intOf]; (try generalize whOf _ R = z2 at *); omega
    case neg =>
      obtain ⟨b, hb⟩ : ∃ b, T[k]? = some b := ⟨_, List.getElem?_eq_getElem hlt⟩
      have hwh := hs.wh
      have hpl := hs.place
      have hw0 : ((d.wh : Int) == 0) = false := beq_eq_false_iff_ne.2 (by split at hwh <;> (try split at hwh) <;> omega)
      have hw13 : ((d.wh : Int) == 13) = false := beq_eq_false_iff_ne.2 (by split at hwh <;> (try split at hwh) <;> omega)
      have hw5 : ((d.wh : Int) == 5) = false := beq_eq_false_iff_ne.2 (by split at hwh <;> (try split at hwh) <;> omega)
      obtain ⟨fn, hfn, hen, htk⟩ := taker_any (R := R) hA.core h3 hl
      have HTK : Hid (∀ W, Below wr.heap.size wr W → Calls Tryz.prog fn #[.pointer (some ⟨R, 0, none⟩), .int .u8 (b.toNat : Int)] W fun e w' => TakeQ R l (.func (.func fn) #[] #[]) lv gv (takeD l b d) W e w') := Lib.hid fun W hW => htk b W _ lv gv (hfn ▸ hA.da.below hW)
      have hTr : RD wr (.slice pt T.length ct) T := HT.out.same fun g hg hlt' => hA.mv.block g hlt' (HV.out g hg)
      obtain ⟨ad, rfl, hbyte⟩ := hTr.cellAt9 hb
      rw [hfn] at c4
      have HB := Lib.hid hb
      have HK := Lib.hid (And.intro h3 hlt)
      have hr13 := take_le13 l b d
      have HTA := Lib.hid (fun lv1 gv1 w1 w2 m1 h2 m2 => hA.take h3 hb (lv1 := lv1) (gv1 := gv1) (w1 := w1) (w2 := w2) m1 h2 m2)
      obtain ⟨r1, hr1⟩ : ∃ r1, (takeD l b d).1 = r1 := ⟨_, rfl⟩
      obtain ⟨r2, hr2⟩ : ∃ r2, (takeD l b d).2 = r2 := ⟨_, rfl⟩
      rw [hr1, hr2] at HTA
      rw [hr1] at hr13
      have hst2 : stood (takeD l b d) = { r2 with wh := r1 } := by unfold stood; rw [hr1, hr2]
      rw [hst2] at HTA
      have htq : takeD l b d = (r1, r2) := Prod.ext hr1 hr2
      rw [htq] at HTK
      have HST : Hid (∀ (W : World) (lv gv : Value), DA R l r2 (.func (.func fn) #[] #[]) lv gv W → _) := Lib.hid fun W lv gv hD => stand_any r1 hr13 W hD
      have hwk : IntKind.i64.wrap ((k : Int) + 1) = ((k + 1 : Nat) : Int) := by rw [IntWalk.i64_in _ (by omega)]; omega
      have hba := World.block_lt_of_cell? _ _ hbyte
      have HWH := Lib.hid (show whOf wr R = 1 by rw [whOf_at c3, if_neg (fun e => by rw [e] at hw0; simp at hw0)])
      clear hA hk hs hp11 h3 hwh hpl hq hq2 hlt f hb htk hTr hr1 hr2 hst2 htq hr13
      by_cases hz : r1 = 0
      · subst hz
        go_wp2_with fail
        go_region_with (first
          | (go_at_fn fn; refine (HTK.out _ (below_drewN (Below.refl _ wr) 1)).mono ?_; rintro e w1 ⟨lv1, gv1, rfl, h1, m1⟩; have H1 := Lib.hid h1; have M1 := Lib.hid m1; clear h1 m1)
          | (go_at_call 28; refine (HST.out _ _ _ H1.out).mono ?_; rintro e w2 ⟨rfl, h2, m2⟩))
        all_goals
          obtain ⟨y2, hP2, hne⟩ := HTA.out lv1 gv1 w1 w2 (Moves.trans (Moves.of_below (below_drewN (Below.refl _ wr) 1)) M1.out) h2 m2
          have HP2 := Lib.hid hP2
          have d3 := h2.reads.c3
          simp only at d3
          have HW2 := Lib.hid (show whOf w2 R = 0 from whOf_at (n := 0) d3)
          clear hP2 h2 m2 M1 H1 HTK HST HTA hne c3 c4 hw0 hw13 hw5 hbyte
          go_wp2_with fail
          go_roundw
          case rel => exact ⟨k, y2, _, lv1, gv1, p, q, c, D, rfl, rfl, HP2.out⟩
          case measure => have := HWH.out; have := HW2.out; simp only [intOf]; (try generalize whOf w2 R = z2 at *); omega
      · have hz1 : ((r1 : Int) != 0) = true := by unfold bne; rw [beq_eq_false_iff_ne.2 (by omega)]; rfl
        have HZ := Lib.hid hz
        clear hz
        go_wp2_with fail
        go_region_with (first
          | (go_at_fn fn; refine (HTK.out _ (below_drewN (Below.refl _ wr) 1)).mono ?_; rintro e w1 ⟨lv1, gv1, rfl, h1, m1⟩; have H1 := Lib.hid h1; have M1 := Lib.hid m1; clear h1 m1)
          | (go_at_call 28; refine (HST.out _ _ _ H1.out).mono ?_; rintro e w2 ⟨rfl, h2, m2⟩))
        all_goals
          obtain ⟨y2, hP2, hne⟩ := HTA.out lv1 gv1 w1 w2 (Moves.trans (Moves.of_below (below_drewN (Below.refl _ wr) 1)) M1.out) h2 m2
          rw [if_pos HZ.out] at hP2
          have HP2 := Lib.hid hP2
          have d3 := h2.reads.c3
          simp only at d3
          have HLT := HK
          clear hP2 h2 m2 M1 H1 HTK HST HTA hne c3 c4 hw0 hw13 hw5 hbyte
          go_wp2_with fail
          go_roundw
          case rel => exact ⟨k + 1, y2, _, lv1, gv1, p, q, c, D, rfl, by go_num, HP2.out⟩
          case measure => have := HLT.out; have q1 := whOf_le wr R; have q2 := whOf_le w2 R; simp only [intOf]; (try generalize whOf _ R = z2 at *); omega

end Go.Proofs.YtjkccacpffikbaaGreatDoor
