/- What a source's Read answers. -/
import Derived.Test.YtnmjdpmfmbgoeaaRRRWireSrc
import Derived.Test.YtnmjdpmfmbgoeaaRRRByteSame
namespace Go.Proofs.YtnmjdpmfmbgoeaaRRR
open Go.ChangeShapes Go.WideShapes Go.ChangeAt Go.RowKit
open Wr
set_option linter.unusedVariables false
set_option maxRecDepth 100000

/-- A source at R stands as x; M: its blocks. -/
def SrcAt (R : Nat) (x : Sr) (M : Nat → Prop) (W : World) : Prop := ∃ L b p c, SrcLB R L b x.e x.r x.sh M p c W ∧ x.A = vw L b ∧ x.bg = decide (0 < b)
theorem SrcAt.keep {R : Nat} {x : Sr} {M : Nat → Prop} {W W' : World} (h : SrcAt R x M W) (hk : ∀ g, M g → W'.heap[g]? = W.heap[g]?) : SrcAt R x M W' := by
  obtain ⟨L, b, p, c, h1, h2, h3⟩ := h
  exact ⟨L, b, p, c, h1.keep hk, h2, h3⟩
theorem SrcAt.below {R : Nat} {x : Sr} {M : Nat → Prop} {W W' : World} (h : SrcAt R x M W) (hb : Below W.heap.size W W') : SrcAt R x M W' := by
  obtain ⟨L, b, p, c, h1, h2, h3⟩ := h
  exact ⟨L, b, p, c, h1.below hb, h2, h3⟩
theorem SrcAt.lt {R : Nat} {x : Sr} {M : Nat → Prop} {W : World} (h : SrcAt R x M W) : M R ∧ ∀ g, M g → g < W.heap.size := by
  obtain ⟨L, b, p, c, h1, h2, h3⟩ := h
  exact ⟨h1.mr, h1.lt⟩
theorem vw_zero (t : List (List UInt8)) : vw t 0 = t := by cases t <;> rfl
/-- How many pieces lie there. -/
def lenOf (W : World) (R : Nat) : Nat :=
  match W.cell? ⟨R, 0, none⟩ with
  | some (.slice _ n _) => n
  | _ => 0
theorem SrcLB.len {R : Nat} {L : List (List UInt8)} {b : Nat} {e : Int} {r : Nat} {sh : Bool} {M : Nat → Prop} {p : Option Addr} {c : Nat} {W : World} (h : SrcLB R L b e r sh M p c W) : lenOf W R = L.length := by
  unfold lenOf
  rw [(five16 h.blk).1.1]
/-- What Read leaves. -/
def ReadQ (R : Nat) (M : Nat → Prop) (y : Sr × List UInt8 × Int) (w : World) (e : Ending) (w' : World) : Prop :=
  ∃ v, e = .returned (.tuple #[v, .int .i64 y.2.2]) ∧ SrcAt R y.1 M w' ∧ RD w' v y.2.1 ∧ (∀ g, v.ownBlock = some g → w.heap.size ≤ g ∧ g < w'.heap.size) ∧ Sol10 R w w'
theorem ReadQ.none {R : Nat} {M : Nat → Prop} {x : Sr} {n : Int} {w w' : World} (hs : Sol10 R w w') (h : SrcAt R x M w') : ReadQ R M (x, [], n) w (.returned (.tuple #[.slice none 0 0, .int .i64 n])) w' :=
  ⟨_, rfl, h, RD.nil _, fun g hg => by simp [Value.ownBlock] at hg, hs⟩

set_option maxHeartbeats 8000000 in
theorem read16_any {R : Nat} {x : Sr} {M : Nat → Prop} (n : Int) (w : World) (h : SrcAt R x M w) (he : 0 ≤ x.e ∧ x.e ≤ 2) (hb : x.r + x.A.flatten.length ≤ 100000) :
    Calls Try.prog 8 #[.pointer (some ⟨R, 0, none⟩), .int .i64 n] w fun e w' => ReadQ R M (rd x n) w e w' := by
  obtain ⟨L, b, p, c, h1, h2, h3⟩ := id h
  by_cases hn : n < 1
  · rw [rd_low hn]
    have HQ := Lib.hid (ReadQ.none (n := 1) (Sol10.refl R w) h)
    clear h h1 h2 h3 he hb
    go_enter Try.func8, Try.ntmps8
    go_wp2_with fail
    go_step3
    go_wp2_with fail
    go_ret2
    exact HQ.out
  · cases hs : x.sh with
    | true =>
      rw [rd_shut hn hs]
      have HQ := Lib.hid (ReadQ.none (n := 8) (Sol10.refl R w) h)
      obtain ⟨⟨c0, c1, c2, c3, c4⟩, cf⟩ := five16 h1.blk
      rw [hs] at c4
      clear h h1 h2 h3 he hb cf c0 c1 c2 c3 hs
      go_enter Try.func8, Try.ntmps8
      go_wp2_with fail
      go_step3
      go_wp2_with fail
      go_ret2
      exact HQ.out
    | false =>
      rw [rd_next hn hs]
      obtain ⟨A, bg, e, r, sh⟩ := x
      cases hs
      simp only at h1 h2 h3 he hb
      subst h2 h3
      have H0 := Lib.hid h1
      obtain ⟨⟨c0, c1, c2, c3, c4⟩, cf⟩ := five16 h1.blk
      have HB := Lib.hid hb
      have HE := Lib.hid he
      clear h h1 he hb cf
      obtain ⟨P, hP⟩ : ∃ P, pop ⟨vw L b, decide (0 < b), e, r, false⟩ = P := ⟨_, rfl⟩
      rw [hP]
      have HP := Lib.hid hP
      clear hP
      go_enter Try.func8, Try.ntmps8
      go_wp2_with fail
      go_step3
      go_wp2_with fail
      go_step3
      go_wp2_with fail
      go_loopw [4] (fun v wr => v = .slice none 0 0 ∧ ∃ L' b' p' c', Hid (SrcLB R L' b' e r false M p' c' wr) ∧ Hid (Sol10 R w wr) ∧ Hid (pop ⟨vw L' b', decide (0 < b'), e, r, false⟩ = P) ∧ Hid (r + (vw L' b').flatten.length ≤ 100000)) (fun _ W => lenOf W R)
      case atStart => exact ⟨rfl, L, b, p, c, H0, Lib.hid (Sol10.refl R w), HP, HB⟩
      case round =>
        clear H0 HP HB c0 c1 c2 c3 c4
        obtain ⟨rfl, L', b', p', c', HS, HW, HP, HB⟩ := hrel
        obtain ⟨⟨c0, c1, c2, c3, c4⟩, cf⟩ := five16 HS.out.blk
        have f0 := cf 0
        have f1 := cf 1
        clear cf
        rcases L' with _ | ⟨x0, t⟩
        · have HA := Lib.hid (atEnd16_any wr HS.out HE.out)
          have HQ := Lib.hid (show ReadQ R M (nxt P n.toNat) w (.returned (.tuple #[.slice none 0 0, .int .i64 (endE e)])) wr from by
            have hP := HP.out
            rw [show vw [] b' = [] from rfl, pop_nil] at hP
            subst hP
            exact ReadQ.none HW.out ⟨[], b', p', c', HS.out, rfl, rfl⟩)
          clear HS HW HP HB HE f0 f1
          go_wp2_with fail
          refine HA.out.mono ?_
          rintro e' w' ⟨rfl, rfl⟩
          go_wp2_with fail
          go_ret2
          exact HQ.out
        · obtain ⟨ad, pu, cu, rfl, cx, hx, hxk⟩ := HS.out.cs.at (i := 0) rfl
          rw [Addr.add_zero'] at cx
          have hfit : b' ≤ x0.length := HS.out.fits
          obtain ⟨p2, c2, e2, hx2, hx2k⟩ := cut_from hx b' hfit
          have hcut : ∀ W, (Instr.slice 34 (.slice pu x0.length cu) (some (.int .i64 (b' : Int))) none none).run Try.prog W = .ok (.slice p2 (x0.length - b') c2) W := fun W => by rw [cut_l pu _ cu b' hfit W, e2]
          have hlen : (0 : Int) < ((x0 :: t).length : Int) := by simp only [List.length_cons]; omega
          have hne : ∀ g, (Value.slice p2 (x0.length - b') c2).ownBlock = some g → x0 ≠ [] → g ≠ R := fun g hg hn0 => (hxk hn0 g (hx2k g hg)).2
          have HX := Lib.hid (And.intro hx (And.intro hx2 hne))
          have HF := Lib.hid hfit
          have hxm : x0.length ≤ 9223372036854775807 := by obtain ⟨_, _, e', h1, h2, _⟩ := hx; cases e'; simp only [maxLen] at h2; omega
          have HXM := Lib.hid hxm
          clear hx hxk hx2 hx2k hfit e2 hne hxm
          obtain ⟨ml, hml⟩ : ∃ ml, (x0 :: t).length = ml := ⟨_, rfl⟩
          rw [hml] at c0 hlen
          clear hml
          obtain ⟨m, hm⟩ : ∃ m, x0.length - b' = m := ⟨_, rfl⟩
          have HM := Lib.hid hm
          rw [hm] at hcut HX
          clear hm
          obtain ⟨xl, hxl⟩ : ∃ xl, x0.length = xl := ⟨_, rfl⟩
          rw [hxl] at cx hcut
          clear hxl
          by_cases hlt : 0 < m
          · have hlt' : (0 : Int) < (m : Int) := by omega
            obtain ⟨k, hk⟩ : ∃ k, (min n (m : Int)).toNat = k := ⟨_, rfl⟩
            have hmin : min n (m : Int) = (k : Int) := by omega
            have hkm : k ≤ m := by omega
            have hk1 : 1 ≤ k := by omega
            obtain ⟨p3, c3', e3, hx3, hx3k⟩ := cut_to HX.out.2.1 k hkm
            have hcut2 : ∀ W, (Instr.slice 34 (.slice p2 m c2) none (some (.int .i64 (k : Int))) none).run Try.prog W = .ok (.slice p3 k c3') W := fun W => by
              have hmc : m ≤ c2 := by obtain ⟨_, _, e', h1, _⟩ := HX.out.2.1; cases e'; have := HX.out.2.1.len; omega
              rw [cut_h p2 m c2 k (by omega) W, e3]
            have hne0 : x0 ≠ [] := fun e0 => by have := HM.out; rw [e0] at this; simp at this; omega
            have hxl3 : ((x0.drop b').take k).length = k := by rw [List.length_take, List.length_drop, HM.out]; omega
            have HH : Hid (∀ nq, Calls Try.prog 15 #[.pointer (some ⟨R, 0, none⟩), .slice p3 k c3'] (wr.drewN nq) fun e' w' => ReadQ R M (nxt P n.toNat) w (.returned (.tuple #[match e' with | .returned v => v | _ => undef, .int .i64 0])) w' ∧ ∃ v, e' = .returned v) := Lib.hid fun nq => by
              have h1 := HS.out.below (drewN_below8 wr nq)
              have hx4 : RD (wr.drewN nq) (.slice p3 ((x0.drop b').take k).length c3') ((x0.drop b').take k) := by rw [hxl3]; exact rd_drewN hx3 nq
              have hm1 := HM.out
              have hb1 : r + ((x0.drop b').length + t.flatten.length) ≤ 100000 := by have := HB.out; simpa [vw] using this
              have hb2 := HF.out
              rw [List.length_drop] at hb1
              have hy0 : x0.drop b' ≠ [] := fun e0 => by have := congrArg List.length e0; rw [List.length_drop] at this; simp at this; omega
              have := hand16_any (wr.drewN nq) h1 hx4 (by rw [hxl3]; omega) (by rw [hxl3]; omega) HXM.out (by omega) (fun g hg => HX.out.2.2 g (hx3k g (by rw [hxl3] at hg; exact hg)) hne0)
              rw [hxl3] at this
              refine this.mono ?_
              rintro e' w' ⟨v, rfl, g1, g2, g3, g4⟩
              refine ⟨?_, v, rfl⟩
              have hP := HP.out
              rw [show vw (x0 :: t) b' = x0.drop b' :: t from rfl, pop_some hy0] at hP
              subst hP
              obtain ⟨t1, t2⟩ := take_k (x0.drop b') (n := n.toNat) (k := k) (by rw [List.length_drop]; omega)
              rw [nxt_some hy0, t1, t2, hxl3]
              refine ⟨v, rfl, ⟨x0 :: t, b' + k, some ad, c', g1, ?_, ?_⟩, g2, fun g hg => ?_, (HW.out.trans (Sol10.of_below (drewN_below8 wr nq))).trans g4⟩
              · simp [vw, List.drop_drop]
              · simp; omega
              · have := g3 g hg
                have hz := HW.out.size
                simp at this
                omega
            clear hx3k hxl3 e3 hx3 hne0 hk
            go_wp2_with fail
            go_quiet (fail)
            go_wp2_with fail
            refine (HH.out _).mono ?_
            rintro e' w' ⟨hq, v, rfl⟩
            have HQ := Lib.hid hq
            clear hq HH
            go_wp2_with fail
            go_ret2
            exact HQ.out
          · obtain rfl : m = 0 := by omega
            have hx0 : x0.drop b' = [] := by have := HM.out; have := HF.out; exact List.drop_eq_nil_of_le (by omega)
            have hP0 := HP.out
            rw [show vw (x0 :: t) b' = x0.drop b' :: t from rfl, hx0] at hP0
            have HPS : Hid (∀ nq, Calls Try.prog 16 #[.pointer (some ⟨R, 0, none⟩)] (wr.drewN nq) _) := Lib.hid fun nq => pass16_any (wr.drewN nq) (HS.out.below (drewN_below8 wr nq))
            by_cases hb0 : 0 < b'
            · have hb0' : (0 : Int) < (b' : Int) := by omega
              rw [decide_eq_true hb0] at hP0
              have HP2 := Lib.hid hP0
              have HB2 := Lib.hid (show r + t.flatten.length ≤ 100000 by have := HB.out; rw [show vw (x0 :: t) b' = x0.drop b' :: t from rfl, hx0] at this; simpa using this)
              have HL := Lib.hid HS.out.len
              clear hx0 hP0 hlt
              go_wp2_with fail
              go_quiet (fail)
              go_wp2_with fail
              refine (HPS.out _).mono ?_
              rintro e' w' ⟨rfl, p6, c6, h6, s6⟩
              have H6 := Lib.hid h6
              have S6 := Lib.hid s6
              clear h6 s6 HPS
              go_wp2_with fail
              refine ⟨⟨rfl, t, 0, p6, c6, H6, Lib.hid ((HW.out.trans (Sol10.of_below (drewN_below8 wr nq))).trans S6.out), Lib.hid ?_, Lib.hid (by rw [vw_zero]; exact HB2.out)⟩, ?_⟩
              · rw [vw_zero, pop_new _ rfl]
                exact HP2.out
              · rw [HL.out, H6.out.len, List.length_cons]
                omega
            · have hb1 : ¬ (0 : Int) < (b' : Int) := by omega
              rw [decide_eq_false hb0] at hP0
              have HQ : Hid (∀ nq w' p6 c6, SrcLB R t 0 e r false M p6 c6 w' → Sol10 R (wr.drewN nq) w' → ReadQ R M (nxt P n.toNat) w (.returned (.tuple #[.slice none 0 0, .int .i64 0])) w') := Lib.hid fun nq w' p6 c6 h6 s6 => by
                rw [pop_new _ rfl] at hP0
                subst hP0
                exact ReadQ.none (x := ⟨t, false, e, r, false⟩) ((HW.out.trans (Sol10.of_below (drewN_below8 wr nq))).trans s6) ⟨t, 0, p6, c6, h6, (vw_zero t).symm, rfl⟩
              clear hx0 hP0 hlt hb0
              go_wp2_with fail
              go_quiet (fail)
              go_wp2_with fail
              refine (HPS.out _).mono ?_
              rintro e' w' ⟨rfl, p6, c6, h6, s6⟩
              have HQ2 := Lib.hid (HQ.out _ _ _ _ h6 s6)
              clear h6 s6 HPS HQ
              go_wp2_with fail
              go_ret2
              exact HQ2.out

end Go.Proofs.YtnmjdpmfmbgoeaaRRR
