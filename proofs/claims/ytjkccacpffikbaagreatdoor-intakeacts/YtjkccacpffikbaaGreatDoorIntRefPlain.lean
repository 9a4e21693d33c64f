/- What the document's Put answers of an intake that isn't chunked and goes on. -/
import Derived.Test.YtjkccacpffikbaaGreatDoorIntRefPut
namespace Go.Proofs.YtjkccacpffikbaaGreatDoor
open Go.ChangeShapes Go.WideShapes Go.ChangeAt Go.RowKit
open Oc Fl Bk Bd Dk Ik
set_option linter.unusedVariables false
set_option maxRecDepth 100000

section
variable {r : Rf} {p : Option Addr} {c : Nat} {w : World} {b : List UInt8}
/-- The intake's block behind both writes. -/
theorem two_sets {W : World} {R : Nat} {x0 x1 x2 x3 x4 x5 x6 x7 x8 u v : Value} {t : TypeId} (h : W.heap[R]? = some (.cells #[x0, x1, x2, x3, x4, x5, x6, x7, x8] t (0, 0))) :
    ((W.setCell ⟨R, 5, none⟩ u).setCell ⟨R, 8, none⟩ v).heap[R]? = some (.cells #[x0, x1, x2, x3, x4, u, x6, x7, v] t (0, 0)) := heap_set (i := 8) v (heap_set (i := 5) u h)

set_option maxHeartbeats 8000000 in
theorem rput_plain (hA : RD w (.slice p r.A.length c) r.A) (hr : ROk r) (hs : rstop r = false) (hk2 : r.kind ≠ 2) {q : Option Addr} {k : Nat} (hb : RD w (.slice q b.length k) b) (hbl : b.length ≤ 1000) :
    Calls Tryz.prog 12 #[.agg (rcs r p r.A.length c), .slice q b.length k] w fun x w' => PutR r p c b w x w' := by
  obtain ⟨w0, hw0, b0, z0, l0, l1⟩ := boxes_told w r p r.A.length c
  obtain ⟨⟨y0, y1, y2, y3, y4, y5, y6, y7, y8⟩, fy⟩ := nine_cells l0
  have KC : Hid (∀ W, Below w0.heap.size w0 W → _) := Lib.hid fun W h => (h.block w.heap.size (by omega)).trans l0
  have KT : Hid (∀ W, Below w0.heap.size w0 W → _) := Lib.hid fun W h => (h.block (w.heap.size + 1) (by omega)).trans l1
  have W0 := Lib.hid hw0
  have B0 := Lib.hid b0
  have HD := Lib.hid (rdone12_any (hA.below b0) hr)
  have he : r.e = 0 := by
    by_cases h : r.e = 0
    · exact h
    · rw [rstop_e h] at hs; cases hs
  rw [← rstop_z he, hs] at HD
  have hz : (r.e : Int) = 0 := by omega
  have hbn : ((r.kind : Int) != 2) = true := by unfold bne; rw [beq_eq_false_iff_ne.2 (by omega)]; rfl
  obtain ⟨m, hm⟩ : ∃ m, rnum r b = m := ⟨_, rfl⟩
  have hmb : m ≤ b.length := by
    rw [← hm]
    unfold rnum
    rw [hs, if_neg (by decide), if_neg hk2]
    split
    · exact Nat.min_le_right _ _
    · exact Nat.le_refl _
  have HB := Lib.hid hb
  have HA := Lib.hid hA
  have HR := Lib.hid hr
  have HS := Lib.hid hs
  have hbk : b.length ≤ k := by obtain ⟨_, _, e, h1, _⟩ := hb; cases e; exact h1
  obtain ⟨uv, huv⟩ : ∃ uv, sliced q 0 m k 1 = uv := ⟨_, rfl⟩
  have hcut : ∀ W, (Instr.slice 29 (.slice q b.length k) none (some (.int .i64 (m : Int))) none).run Tryz.prog W = .ok uv W := fun W => huv ▸ cut_h q b.length k m (by omega) W
  have hu := hb.part (i := 0) (j := m) (m := k) (by omega) hmb (by omega) (Nat.le_refl _)
  rw [huv, List.drop_zero] at hu
  have hml : (b.take m).length = m := by simp; omega
  obtain ⟨pu, cu, huu, -⟩ := id hu
  rw [hml] at huu
  subst huu
  have HU := Lib.hid hu
  have HM := Lib.hid hm
  obtain ⟨h1, h2, h3, h4, h5, h6⟩ := hr
  obtain ⟨G, hG⟩ : ∃ G, r.g + m = G := ⟨_, rfl⟩
  have hgw : IntKind.i64.wrap ((r.g : Int) + (m : Int)) = (G : Int) := by rw [IntWalk.i64_in _ (by omega)]; omega
  -- what is left behind the call of Done
  have HEND : Hid (∀ w1, Below w0.heap.size w0 w1 → ∃ v1 w2 p2 n2 c2 w3, (Builtin.append_ #[29, 29] 29 #[.slice none 0 0, .slice p r.A.length c]).run Tryz.prog w1 = .ok v1 w2 ∧
      (Builtin.append_ #[29, 29] 29 #[v1, .slice pu m cu]).run Tryz.prog w2 = .ok (.slice p2 n2 c2) w3 ∧ Below w0.heap.size w0 w2 ∧ Below w0.heap.size w0 w3 ∧
      ∀ F, Below w.heap.size w F → (∀ g, w.heap.size + 2 ≤ g → F.heap[g]? = w3.heap[g]?) → PutR r p c b w (.returned (.agg #[.int .i64 (r.kind : Int), .int .u64 (r.size : Int), .int .i64 (r.l.ext : Int), .int .i64 (r.l.fields : Int), .int .i64 (r.l.bytes : Int), .slice p2 n2 c2, .bool r.closed, .int .i64 0, .int .i64 (G : Int), .slice pu m cu, .int .i64 (m : Int), .int .i64 0])) F) := Lib.hid fun w1 hb1 => by
    have bw := ahead B0.out hb1
    obtain ⟨v1, w2, r0, o1, b2⟩ := own_nil12 w1 w0.heap.size hb1.size (HA.out.below bw) (by have := h4; omega)
    obtain ⟨v2, w3, s0, o2, g2⟩ := run_append_rd w2 29 w0.heap.size v1 (.slice pu m cu) _ r.A (b.take m) o1 (HU.out.below (ahead bw b2)) (by rw [hml]; omega) (Nat.le_trans hb1.size b2.size)
    have B2 := ahead hb1 b2
    have B3 : Below w0.heap.size w0 w3 := B2.grown g2 B2.size (fun g hg => (o1.lt g hg).1)
    have hrd := RD.of_own o2
    obtain ⟨p2, c2, rfl, -⟩ := id hrd
    refine ⟨v1, w2, p2, _, c2, w3, r0, s0, B2, B3, fun F hF hk => ?_⟩
    have hstop : ¬ rstop r = true := by rw [HS.out]; decide
    have e1 : rnext r b = { r with A := r.A ++ b.take m, g := r.g + m, e := 0 } := by unfold rnext; rw [if_neg hstop, if_neg hk2, if_neg hk2, HM.out, he]
    have e3 : rdata r b = b.take m := by unfold rdata; rw [if_neg hstop, if_neg hk2, HM.out]
    have e4 : rerr r b = 0 := by unfold rerr; rw [if_neg hstop, if_neg hk2]
    unfold PutR
    rw [e1, e3, e4, HM.out, hml, hG]
    refine ⟨p2, c2, pu, cu, ?_, ?_, HU.out.below hF, hF, fun g hg => .inr ?_⟩
    · rfl
    · exact hrd.keep fun _ g hg => hk g (by have := (o2.lt g hg).1; omega)
    · have := (o2.lt g hg).1; omega
  unfold rcs at W0 HD KC ⊢
  unfold tz12 at W0
  rw [hz] at W0 HD KC y7 ⊢
  have hne : ((0 : Int) != 0) = false := rfl
  have HLL := Lib.hid hml
  clear hw0 b0 l0 l1 hA hb he hs hm hbk huv hu hml hG
  by_cases hk1 : r.kind = 1
  case neg =>
    have hk3 : r.kind = 3 := by
      have hs := HS.out
      by_cases h3 : r.kind = 3
      · exact h3
      · rw [rstop_z (by omega)] at hs
        unfold rdone at hs
        rw [if_neg hk1, if_neg hk2, if_neg h3, decide_eq_true (show r.e = 0 by omega)] at hs
        cases hs
    obtain rfl : b.length = m := by
      rw [← HM.out]
      unfold rnum
      rw [HS.out, if_neg (by decide), if_neg hk1, if_neg hk2]
    have e1 : ((r.kind : Int) == 1) = false := beq_eq_false_iff_ne.2 (by omega)
    clear hk1 hk3 h5 hk2
    go_enter Tryz.func12, Tryz.ntmps12
    go_wp2_with fail
    rw [W0.out]
    refine HD.out.mono ?_
    rintro x w1 ⟨rfl, hb1⟩
    obtain ⟨⟨v0, v1, v2, v3, v4, v5, v6, v7, v8⟩, fv⟩ := nine_cells (KC.out w1 hb1)
    obtain ⟨va, w2, p2, n2, c2, w3, r0, s0, b2, b3, hE⟩ := HEND.out w1 hb1
    have R0 := Lib.hid r0
    have S0 := Lib.hid s0
    have HE := Lib.hid hE
    have B1 := Lib.hid hb1
    have B2 := Lib.hid b2
    have B3 := Lib.hid b3
    clear hb1 r0 s0 b2 b3 hE HD y0 y1 y2 y3 y4 y5 y6 y7 y8 fy
    go_upto_region 8 with (at_builtin; refine wpList_append_run rfl (.tmp 49) (.tmp 51) 29 rfl _ _ _ _ rfl rfl R0.out ?_)
    clear v0 v1 v2 v3 v4 v5 v6 v7 v8 fv
    obtain ⟨⟨v0, v1, v2, v3, v4, v5, v6, v7, v8⟩, fv⟩ := nine_cells (KC.out w2 B2.out)
    have hC3 := KC.out w3 B3.out
    obtain ⟨⟨q0, q1, q2, q3, q4, q5, q6, q7, q8⟩, fq⟩ := nine_cells hC3
    obtain ⟨⟨t0, t1, t2, t3, t4, t5, t6, t7, t8, t9, ta, tb⟩, ft⟩ := twelve_cells (KT.out w3 B3.out)
    have hC4 := heap_set (i := 5) (.slice p2 n2 c2) hC3
    have hC5 := two_sets (u := .slice p2 n2 c2) (v := .int .i64 (G : Int)) hC3
    have hT5 : ((w3.setCell ⟨w.heap.size, 5, none⟩ (.slice p2 n2 c2)).setCell ⟨w.heap.size, 8, none⟩ (.int .i64 (G : Int))).heap[w.heap.size + 1]? = some (.cells tz12 41 (0, 0)) :=
      (Below.heap_setCell _ _ _ _ (by simp)).trans ((Below.heap_setCell _ _ _ _ (by simp)).trans (KT.out w3 B3.out))
    have HK3 : Hid (∀ F : World, (∀ g, w.heap.size + 2 ≤ g → F.heap[g]? = ((w3.setCell ⟨w.heap.size, 5, none⟩ (.slice p2 n2 c2)).setCell ⟨w.heap.size, 8, none⟩ (.int .i64 (G : Int))).heap[g]?) → ∀ g, w.heap.size + 2 ≤ g → F.heap[g]? = w3.heap[g]?) := Lib.hid fun F h g hg =>
      (h g hg).trans ((Below.heap_setCell _ _ _ _ (by simp; omega)).trans (Below.heap_setCell _ _ _ _ (by simp; omega)))
    have HB5 := Lib.hid (((ahead B0.out B3.out).setCell (Nat.le_refl w.heap.size) (p := ⟨w.heap.size, 5, none⟩) (.slice p2 n2 c2)).setCell (Nat.le_refl w.heap.size) (p := ⟨w.heap.size, 8, none⟩) (.int .i64 (G : Int)))
    have HT5 := Lib.hid hT5
    have HC5 := Lib.hid hC5
    clear hC3 hC4 hC5 hT5
    go_upto_region 10 with (at_builtin; refine wpList_append_run rfl (.tmp 57) (.tmp 60) 29 rfl _ _ _ _ rfl rfl S0.out ?_)
    clear v0 v1 v2 v3 v4 v5 v6 v7 v8 fv
    go_upto_region 11 with fail
    generalize ((w3.setCell ⟨w.heap.size, 5, none⟩ (.slice p2 n2 c2)).setCell ⟨w.heap.size, 8, none⟩ (.int .i64 (G : Int))) = W5 at HT5 HC5 HB5 HK3 ⊢
    clear q0 q1 q2 q3 q4 q5 q6 q7 q8 fq t0 t1 t2 t3 t4 t5 t6 t7 t8 t9 ta tb ft
    obtain ⟨⟨q0, q1, q2, q3, q4, q5, q6, q7, q8⟩, fq⟩ := nine_cells HC5.out
    obtain ⟨⟨t0, t1, t2, t3, t4, t5, t6, t7, t8, t9, ta, tb⟩, ft⟩ := twelve_cells HT5.out
    have hEND := told_end HB5.out HT5.out (.int .i64 (r.kind : Int)) (.int .u64 (r.size : Int)) (.int .i64 (r.l.ext : Int)) (.int .i64 (r.l.fields : Int)) (.int .i64 (r.l.bytes : Int)) (.slice p2 n2 c2) (.bool r.closed) (.int .i64 0) (.int .i64 (G : Int)) (.slice pu b.length cu) (.int .i64 (b.length : Int)) (.int .i64 0)
    have hOT := fun (g : Nat) (hg : w.heap.size + 2 ≤ g) => over12_other W5 (w.heap.size + 1) (.int .i64 (r.kind : Int)) (.int .u64 (r.size : Int)) (.int .i64 (r.l.ext : Int)) (.int .i64 (r.l.fields : Int)) (.int .i64 (r.l.bytes : Int)) (.slice p2 n2 c2) (.bool r.closed) (.int .i64 0) (.int .i64 (G : Int)) (.slice pu b.length cu) (.int .i64 (b.length : Int)) (.int .i64 0) (g := g) (by omega)
    obtain ⟨F, hF⟩ : ∃ F, over12 W5 (w.heap.size + 1) (.int .i64 (r.kind : Int)) (.int .u64 (r.size : Int)) (.int .i64 (r.l.ext : Int)) (.int .i64 (r.l.fields : Int)) (.int .i64 (r.l.bytes : Int)) (.slice p2 n2 c2) (.bool r.closed) (.int .i64 0) (.int .i64 (G : Int)) (.slice pu b.length cu) (.int .i64 (b.length : Int)) (.int .i64 0) = F := ⟨_, rfl⟩
    rw [hF] at hEND
    simp only [hF] at hOT
    unfold over12 over10 over8 at hF
    have HF := Lib.hid hF
    have HQ := Lib.hid (HE.out F.drew hEND.2.drew (HK3.out F.drew hOT))
    have HROW := Lib.hid hEND.1
    clear hEND HE HK3 HB5 HT5 HC5 hF hOT
    go_region
    rw [HF.out]
    go_wp2_with fail
    refine bodyPost_ret (results_row1 rfl _ _ (w.heap.size + 1) 41 _ (0, 0) _ rfl HROW.out Tryz.underlying41 rfl (by kernel_rfl)) rfl ?_
    exact HQ.out
  case pos =>
    have e1 : ((r.kind : Int) == 1) = true := by rw [hk1]; rfl
    have h5' := h5 hk1
    have hmin : min (r.size - r.A.length) b.length = m := by
      rw [← HM.out]
      unfold rnum
      rw [HS.out, if_neg (by decide), if_pos hk1]
    obtain ⟨L, hL⟩ : ∃ L, b.length = L := ⟨_, rfl⟩
    have hLm := hmb
    rw [hL] at hmin hLm hbl hcut ⊢
    obtain ⟨D, hD⟩ : ∃ D, r.size - r.A.length = D := ⟨_, rfl⟩
    rw [hD] at hmin
    have hw1 : IntKind.u64.wrap (L : Int) = (L : Int) := IntWalk.u64_in _ (by omega)
    have hw2 : IntKind.u64.wrap (r.A.length : Int) = (r.A.length : Int) := IntWalk.u64_in _ (by omega)
    have hw3 : IntKind.u64.wrap ((r.size : Int) - (r.A.length : Int)) = (D : Int) := by rw [IntWalk.u64_in _ (by omega)]; omega
    have hw4 : IntKind.i64.wrap (D : Int) = (D : Int) := IntWalk.i64_in _ (by omega)
    have HLB := Lib.hid hL
    clear hk1 h5 hk2 h5' hmb hL hD
    by_cases hgt : D < L
    · obtain rfl : D = m := by omega
      have hgt' : (D : Int) < (L : Int) := by omega
      clear hmin hgt
      go_enter Tryz.func12, Tryz.ntmps12
      go_wp2_with fail
      rw [W0.out]
      refine HD.out.mono ?_
      rintro x w1 ⟨rfl, hb1⟩
      obtain ⟨⟨v0, v1, v2, v3, v4, v5, v6, v7, v8⟩, fv⟩ := nine_cells (KC.out w1 hb1)
      obtain ⟨va, w2, p2, n2, c2, w3, r0, s0, b2, b3, hE⟩ := HEND.out w1 hb1
      have R0 := Lib.hid r0
      have S0 := Lib.hid s0
      have HE := Lib.hid hE
      have B1 := Lib.hid hb1
      have B2 := Lib.hid b2
      have B3 := Lib.hid b3
      clear hb1 r0 s0 b2 b3 hE HD y0 y1 y2 y3 y4 y5 y6 y7 y8 fy
      go_upto_region 8 with (at_builtin; refine wpList_append_run rfl (.tmp 49) (.tmp 51) 29 rfl _ _ _ _ rfl rfl R0.out ?_)
      clear v0 v1 v2 v3 v4 v5 v6 v7 v8 fv
      obtain ⟨⟨v0, v1, v2, v3, v4, v5, v6, v7, v8⟩, fv⟩ := nine_cells (KC.out w2 B2.out)
      have hC3 := KC.out w3 B3.out
      obtain ⟨⟨q0, q1, q2, q3, q4, q5, q6, q7, q8⟩, fq⟩ := nine_cells hC3
      obtain ⟨⟨t0, t1, t2, t3, t4, t5, t6, t7, t8, t9, ta, tb⟩, ft⟩ := twelve_cells (KT.out w3 B3.out)
      have hC4 := heap_set (i := 5) (.slice p2 n2 c2) hC3
      have hC5 := two_sets (u := .slice p2 n2 c2) (v := .int .i64 (G : Int)) hC3
      have hT5 : ((w3.setCell ⟨w.heap.size, 5, none⟩ (.slice p2 n2 c2)).setCell ⟨w.heap.size, 8, none⟩ (.int .i64 (G : Int))).heap[w.heap.size + 1]? = some (.cells tz12 41 (0, 0)) :=
        (Below.heap_setCell _ _ _ _ (by simp)).trans ((Below.heap_setCell _ _ _ _ (by simp)).trans (KT.out w3 B3.out))
      have HK3 : Hid (∀ F : World, (∀ g, w.heap.size + 2 ≤ g → F.heap[g]? = ((w3.setCell ⟨w.heap.size, 5, none⟩ (.slice p2 n2 c2)).setCell ⟨w.heap.size, 8, none⟩ (.int .i64 (G : Int))).heap[g]?) → ∀ g, w.heap.size + 2 ≤ g → F.heap[g]? = w3.heap[g]?) := Lib.hid fun F h g hg =>
        (h g hg).trans ((Below.heap_setCell _ _ _ _ (by simp; omega)).trans (Below.heap_setCell _ _ _ _ (by simp; omega)))
      have HB5 := Lib.hid (((ahead B0.out B3.out).setCell (Nat.le_refl w.heap.size) (p := ⟨w.heap.size, 5, none⟩) (.slice p2 n2 c2)).setCell (Nat.le_refl w.heap.size) (p := ⟨w.heap.size, 8, none⟩) (.int .i64 (G : Int)))
      have HT5 := Lib.hid hT5
      have HC5 := Lib.hid hC5
      clear hC3 hC4 hC5 hT5
      go_upto_region 10 with (at_builtin; refine wpList_append_run rfl (.tmp 57) (.tmp 60) 29 rfl _ _ _ _ rfl rfl S0.out ?_)
      clear v0 v1 v2 v3 v4 v5 v6 v7 v8 fv
      go_upto_region 11 with fail
      generalize ((w3.setCell ⟨w.heap.size, 5, none⟩ (.slice p2 n2 c2)).setCell ⟨w.heap.size, 8, none⟩ (.int .i64 (G : Int))) = W5 at HT5 HC5 HB5 HK3 ⊢
      clear q0 q1 q2 q3 q4 q5 q6 q7 q8 fq t0 t1 t2 t3 t4 t5 t6 t7 t8 t9 ta tb ft
      obtain ⟨⟨q0, q1, q2, q3, q4, q5, q6, q7, q8⟩, fq⟩ := nine_cells HC5.out
      obtain ⟨⟨t0, t1, t2, t3, t4, t5, t6, t7, t8, t9, ta, tb⟩, ft⟩ := twelve_cells HT5.out
      have hEND := told_end HB5.out HT5.out (.int .i64 (r.kind : Int)) (.int .u64 (r.size : Int)) (.int .i64 (r.l.ext : Int)) (.int .i64 (r.l.fields : Int)) (.int .i64 (r.l.bytes : Int)) (.slice p2 n2 c2) (.bool r.closed) (.int .i64 0) (.int .i64 (G : Int)) (.slice pu D cu) (.int .i64 (D : Int)) (.int .i64 0)
      have hOT := fun (g : Nat) (hg : w.heap.size + 2 ≤ g) => over12_other W5 (w.heap.size + 1) (.int .i64 (r.kind : Int)) (.int .u64 (r.size : Int)) (.int .i64 (r.l.ext : Int)) (.int .i64 (r.l.fields : Int)) (.int .i64 (r.l.bytes : Int)) (.slice p2 n2 c2) (.bool r.closed) (.int .i64 0) (.int .i64 (G : Int)) (.slice pu D cu) (.int .i64 (D : Int)) (.int .i64 0) (g := g) (by omega)
      obtain ⟨F, hF⟩ : ∃ F, over12 W5 (w.heap.size + 1) (.int .i64 (r.kind : Int)) (.int .u64 (r.size : Int)) (.int .i64 (r.l.ext : Int)) (.int .i64 (r.l.fields : Int)) (.int .i64 (r.l.bytes : Int)) (.slice p2 n2 c2) (.bool r.closed) (.int .i64 0) (.int .i64 (G : Int)) (.slice pu D cu) (.int .i64 (D : Int)) (.int .i64 0) = F := ⟨_, rfl⟩
      rw [hF] at hEND
      simp only [hF] at hOT
      unfold over12 over10 over8 at hF
      have HF := Lib.hid hF
      have HQ := Lib.hid (HE.out F.drew hEND.2.drew (HK3.out F.drew hOT))
      have HROW := Lib.hid hEND.1
      clear hEND HE HK3 HB5 HT5 HC5 hF hOT
      go_region
      rw [HF.out]
      go_wp2_with fail
      refine bodyPost_ret (results_row1 rfl _ _ (w.heap.size + 1) 41 _ (0, 0) _ rfl HROW.out Tryz.underlying41 rfl (by kernel_rfl)) rfl ?_
      exact HQ.out
    · obtain rfl : L = m := by omega
      have hgt' : ¬ (D : Int) < (L : Int) := by omega
      clear hmin hgt
      go_enter Tryz.func12, Tryz.ntmps12
      go_wp2_with fail
      rw [W0.out]
      refine HD.out.mono ?_
      rintro x w1 ⟨rfl, hb1⟩
      obtain ⟨⟨v0, v1, v2, v3, v4, v5, v6, v7, v8⟩, fv⟩ := nine_cells (KC.out w1 hb1)
      obtain ⟨va, w2, p2, n2, c2, w3, r0, s0, b2, b3, hE⟩ := HEND.out w1 hb1
      have R0 := Lib.hid r0
      have S0 := Lib.hid s0
      have HE := Lib.hid hE
      have B1 := Lib.hid hb1
      have B2 := Lib.hid b2
      have B3 := Lib.hid b3
      clear hb1 r0 s0 b2 b3 hE HD y0 y1 y2 y3 y4 y5 y6 y7 y8 fy
      go_upto_region 8 with (at_builtin; refine wpList_append_run rfl (.tmp 49) (.tmp 51) 29 rfl _ _ _ _ rfl rfl R0.out ?_)
      clear v0 v1 v2 v3 v4 v5 v6 v7 v8 fv
      obtain ⟨⟨v0, v1, v2, v3, v4, v5, v6, v7, v8⟩, fv⟩ := nine_cells (KC.out w2 B2.out)
      have hC3 := KC.out w3 B3.out
      obtain ⟨⟨q0, q1, q2, q3, q4, q5, q6, q7, q8⟩, fq⟩ := nine_cells hC3
      obtain ⟨⟨t0, t1, t2, t3, t4, t5, t6, t7, t8, t9, ta, tb⟩, ft⟩ := twelve_cells (KT.out w3 B3.out)
      have hC4 := heap_set (i := 5) (.slice p2 n2 c2) hC3
      have hC5 := two_sets (u := .slice p2 n2 c2) (v := .int .i64 (G : Int)) hC3
      have hT5 : ((w3.setCell ⟨w.heap.size, 5, none⟩ (.slice p2 n2 c2)).setCell ⟨w.heap.size, 8, none⟩ (.int .i64 (G : Int))).heap[w.heap.size + 1]? = some (.cells tz12 41 (0, 0)) :=
        (Below.heap_setCell _ _ _ _ (by simp)).trans ((Below.heap_setCell _ _ _ _ (by simp)).trans (KT.out w3 B3.out))
      have HK3 : Hid (∀ F : World, (∀ g, w.heap.size + 2 ≤ g → F.heap[g]? = ((w3.setCell ⟨w.heap.size, 5, none⟩ (.slice p2 n2 c2)).setCell ⟨w.heap.size, 8, none⟩ (.int .i64 (G : Int))).heap[g]?) → ∀ g, w.heap.size + 2 ≤ g → F.heap[g]? = w3.heap[g]?) := Lib.hid fun F h g hg =>
        (h g hg).trans ((Below.heap_setCell _ _ _ _ (by simp; omega)).trans (Below.heap_setCell _ _ _ _ (by simp; omega)))
      have HB5 := Lib.hid (((ahead B0.out B3.out).setCell (Nat.le_refl w.heap.size) (p := ⟨w.heap.size, 5, none⟩) (.slice p2 n2 c2)).setCell (Nat.le_refl w.heap.size) (p := ⟨w.heap.size, 8, none⟩) (.int .i64 (G : Int)))
      have HT5 := Lib.hid hT5
      have HC5 := Lib.hid hC5
      clear hC3 hC4 hC5 hT5
      go_upto_region 10 with (at_builtin; refine wpList_append_run rfl (.tmp 57) (.tmp 60) 29 rfl _ _ _ _ rfl rfl S0.out ?_)
      clear v0 v1 v2 v3 v4 v5 v6 v7 v8 fv
      go_upto_region 11 with fail
      generalize ((w3.setCell ⟨w.heap.size, 5, none⟩ (.slice p2 n2 c2)).setCell ⟨w.heap.size, 8, none⟩ (.int .i64 (G : Int))) = W5 at HT5 HC5 HB5 HK3 ⊢
      clear q0 q1 q2 q3 q4 q5 q6 q7 q8 fq t0 t1 t2 t3 t4 t5 t6 t7 t8 t9 ta tb ft
      obtain ⟨⟨q0, q1, q2, q3, q4, q5, q6, q7, q8⟩, fq⟩ := nine_cells HC5.out
      obtain ⟨⟨t0, t1, t2, t3, t4, t5, t6, t7, t8, t9, ta, tb⟩, ft⟩ := twelve_cells HT5.out
      have hEND := told_end HB5.out HT5.out (.int .i64 (r.kind : Int)) (.int .u64 (r.size : Int)) (.int .i64 (r.l.ext : Int)) (.int .i64 (r.l.fields : Int)) (.int .i64 (r.l.bytes : Int)) (.slice p2 n2 c2) (.bool r.closed) (.int .i64 0) (.int .i64 (G : Int)) (.slice pu L cu) (.int .i64 (L : Int)) (.int .i64 0)
      have hOT := fun (g : Nat) (hg : w.heap.size + 2 ≤ g) => over12_other W5 (w.heap.size + 1) (.int .i64 (r.kind : Int)) (.int .u64 (r.size : Int)) (.int .i64 (r.l.ext : Int)) (.int .i64 (r.l.fields : Int)) (.int .i64 (r.l.bytes : Int)) (.slice p2 n2 c2) (.bool r.closed) (.int .i64 0) (.int .i64 (G : Int)) (.slice pu L cu) (.int .i64 (L : Int)) (.int .i64 0) (g := g) (by omega)
      obtain ⟨F, hF⟩ : ∃ F, over12 W5 (w.heap.size + 1) (.int .i64 (r.kind : Int)) (.int .u64 (r.size : Int)) (.int .i64 (r.l.ext : Int)) (.int .i64 (r.l.fields : Int)) (.int .i64 (r.l.bytes : Int)) (.slice p2 n2 c2) (.bool r.closed) (.int .i64 0) (.int .i64 (G : Int)) (.slice pu L cu) (.int .i64 (L : Int)) (.int .i64 0) = F := ⟨_, rfl⟩
      rw [hF] at hEND
      simp only [hF] at hOT
      unfold over12 over10 over8 at hF
      have HF := Lib.hid hF
      have HQ := Lib.hid (HE.out F.drew hEND.2.drew (HK3.out F.drew hOT))
      have HROW := Lib.hid hEND.1
      clear hEND HE HK3 HB5 HT5 HC5 hF hOT
      go_region
      rw [HF.out]
      go_wp2_with fail
      refine bodyPost_ret (results_row1 rfl _ _ (w.heap.size + 1) 41 _ (0, 0) _ rfl HROW.out Tryz.underlying41 rfl (by kernel_rfl)) rfl ?_
      exact HQ.out
end

end Go.Proofs.YtjkccacpffikbaaGreatDoor
