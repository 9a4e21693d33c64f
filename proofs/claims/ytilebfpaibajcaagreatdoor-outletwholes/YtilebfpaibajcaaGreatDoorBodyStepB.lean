/- What the document's Step answers, at the places of a section, and at data. -/
import Derived.Test.YtilebfpaibajcaaGreatDoorBodyLineEnd
namespace Go.Proofs.YtilebfpaibajcaaGreatDoor
open Go.ChangeShapes Go.WideShapes Go.ChangeAt Go.RowKit
open Oc Fl Bk Bd
set_option linter.unusedVariables false
set_option maxRecDepth 100000

theorem rd_one (W : World) (b : UInt8) : RD (W.alloc (obB b)) (.slice (some ⟨W.heap.size, 0, none⟩) 1 1) [b] := by
  refine ⟨some ⟨W.heap.size, 0, none⟩, 1, rfl, Nat.le_refl _, by decide, (fun h => by cases h), fun ad hp i c hc => ?_⟩
  cases hp
  match i, hc with
  | 0, hc =>
    cases hc
    exact (one_cell (new_one W _ _)).1
/-- A step that ended with a line's byte. -/
theorem StepQ.line {l : Lim} {s s1 : St} {b : UInt8} {dv gv : Value} {w W w1 : World} {s2 : St} {gv' : Value} (hD : RD w dv s.data) (hF : FS w gv s.fields) (hb : Below w.heap.size w W) (hb1 : Below W.heap.size W w1) (hR : w.heap.size + 2 < W.heap.size)
    (he : er l s b = lineE l s1) (hn : nxt s b = lnx s1 b) (hd : (lnx s1 b).data = s.data) (hf : s1.fields = s.fields)
    (hg' : ∃ p n c, gv' = .slice p n c) (h : lineE l s1 = 0 → s2 = lnx s1 b ∧ (gv' = gv ∧ s2.fields = s1.fields ∨ FS w1 gv' s2.fields ∧ ∀ g, gv'.ownBlock = some g → W.heap.size ≤ g)) (u0 u1 u2 u3 u4 u5 u6 u7 : Value) :
    StepQ l s b gv w (.returned (.tuple #[stv s2 dv gv', .int .i64 ((lineE l s1 : Nat) : Int)])) (over8 w1 (w.heap.size + 2) u0 u1 u2 u3 u4 u5 u6 u7) := by
  have hB : Below w.heap.size w (over8 w1 (w.heap.size + 2) u0 u1 u2 u3 u4 u5 u6 u7) := over8_below (ahead hb hb1) (by omega) _ _ _ _ _ _ _ _
  by_cases h0 : lineE l s1 = 0
  · obtain ⟨rfl, hor⟩ := h h0
    rw [h0]
    refine StepQ.ok (he.trans h0) hn hB ?_ ?_ (hor.imp And.left fun h g hg => Nat.le_trans hb.size (h.2 g hg))
    · rw [hd]; exact hD.below hB
    · rcases hor with ⟨rfl, e⟩ | ⟨h1, h2⟩
      · rw [e, hf]; exact hF.below hB
      · exact RS.keep h1 fun g hg _ => over8_other _ _ _ _ _ _ _ _ _ _ (by have := h2 g hg; omega)
  · obtain ⟨pd, cd, rfl, -⟩ := hD
    obtain ⟨pg, ng, cg, rfl⟩ := hg'
    exact StepQ.bad he h0 hB

set_option maxHeartbeats 8000000 in
theorem step_9 {n c li si : Nat} {tx D : List UInt8} {fs : List Fld} {dv gv : Value} {b : UInt8} {l : Lim} (w : World) (hD : RD w dv D) (hF : FS w gv fs) (hl : l.bytes ≤ 65536) (htx : tx.length ≤ 1000000) (hfl : fs.length ≤ 1000000) (h0 : tx ≠ []) :
    Calls Tryz.prog 46 #[stv ⟨9, n, c, li, si, tx, D, fs⟩ dv gv, .int .u8 (b.toNat : Int), limv l] w fun e w' => StepQ l ⟨9, n, c, li, si, tx, D, fs⟩ b gv w e w' := by
  have HD := Lib.hid hD
  have HF := Lib.hid hF
  obtain ⟨pd, cd, rfl, -⟩ := hD
  obtain ⟨pf, cf, rfl, -⟩ := RS.slice hF
  clear hF
  by_cases h10 : b = 10
  · subst h10
    obtain ⟨W0, hw0⟩ : ∃ W0, ((w.alloc (.cells #[.int .i64 9, .int .u64 (n : Int), .int .i64 (c : Int), .int .i64 (li : Int), .int .i64 (si : Int), .string (arr tx), .slice pd D.length cd, .slice pf fs.length cf] 75)).alloc (obL l)).alloc obZ = W0 := ⟨_, rfl⟩
    have z0 : W0.heap.size = w.heap.size + 3 := by rw [← hw0]; simp
    have b0 : Below w.heap.size w W0 := by rw [← hw0]; exact below3 _ _ _ _
    have t0 : W0.heap[w.heap.size + 2]? = some (.cells #[.int .i64 0, .int .u64 0, .int .i64 0, .int .i64 0, .int .i64 0, .string ⟨#[]⟩, .slice none 0 0, .slice none 0 0] 75 (0, 0)) := by rw [← hw0]; exact box3 w _ _ _
    have HL := Lib.hid (line_any (p := 9) (n := n) (c := c) (li := li) (si := si) (tx := tx) (b := 10) (l := l) W0 (HD.out.below b0) (HF.out.below b0) hl (fun _ _ => h0) htx hfl)
    rw [show ((UInt8.toNat 10 : Nat) : Int) = 10 from rfl] at HL
    unfold stv limv stc at HL ⊢
    simp only at HL ⊢
    have HE := Lib.hid (show er l ⟨9, n, c, li, si, tx, D, fs⟩ 10 = lineE l ⟨9, n, c, li, si, tx, D, fs⟩ by simp [er])
    have HN := Lib.hid (show nxt ⟨9, n, c, li, si, tx, D, fs⟩ 10 = lnx ⟨9, n, c, li, si, tx, D, fs⟩ 10 by simp [nxt, lnx])
    have HDD := Lib.hid (show (lnx ⟨9, n, c, li, si, tx, D, fs⟩ 10).data = D by unfold lnx; split <;> rfl)
    have B0 := Lib.hid b0
    have hW := Lib.hid hw0
    generalize arr tx = ta at *
    clear hw0 b0
    go_enter Tryz.func46, Tryz.ntmps46
    go_wp2_with fail
    rw [hW.out]
    refine HL.out.mono ?_
    rintro e w1 ⟨hb1, ⟨p2, n2, c2, l2, z2, t2, d2, f2⟩, gv', rfl, ⟨pg, ng, cg, rfl⟩, hok⟩
    have t1 := (hb1.block _ (by omega)).trans t0
    obtain ⟨⟨u0, u1, u2, u3, u4, u5, u6, u7⟩, fz⟩ := eight_cells t1
    have HQ := Lib.hid (StepQ.line HD.out HF.out B0.out hb1 (by omega) HE.out HN.out HDD.out rfl ⟨_, _, _, rfl⟩ hok (.int .i64 (p2 : Int)) (.int .u64 (n2 : Int)) (.int .i64 (c2 : Int)) (.int .i64 (l2 : Int)) (.int .i64 (z2 : Int)) (.string (arr t2)) (.slice pd D.length cd) (.slice pg ng cg))
    have hrow := Lib.hid (over8_row t1 (.int .i64 (p2 : Int)) (.int .u64 (n2 : Int)) (.int .i64 (c2 : Int)) (.int .i64 (l2 : Int)) (.int .i64 (z2 : Int)) (.string (arr t2)) (.slice pd D.length cd) (.slice pg ng cg))
    unfold stv at HQ ⊢
    simp only at HQ ⊢
    generalize lineE l ⟨9, n, c, li, si, tx, D, fs⟩ = E2 at *
    clear t0 t1 hb1 hok HL HE HN HDD hW B0 z0
    go_wp2_with fail
    refine bodyPost_ret (results_two rfl _ _ (w.heap.size + 2) 75 _ (0, 0) _ rfl hrow.out Tryz.underlying75 rfl (by kernel_rfl)) rfl ?_
    exact HQ.out
  · have hne : ((b.toNat : Int) != 10) = true := ub_nne h10
    have HE := Lib.hid (show er l ⟨9, n, c, li, si, tx, D, fs⟩ b = 2 by simp [er, h10])
    unfold stv limv stc
    simp only
    go_enter Tryz.func46, Tryz.ntmps46
    go_wp2_with fail
    refine bodyPost_ret (results_two rfl _ _ (w.heap.size + 1 + 1) 75 _ (0, 0) _ rfl (box3 w _ _ _) Tryz.underlying75 rfl (by kernel_rfl)) rfl ?_
    exact StepQ.bad (k := 2) HE.out (by decide) (below3 _ _ _ _)

set_option maxHeartbeats 8000000 in
theorem step_8 {n c li si : Nat} {tx D : List UInt8} {fs : List Fld} {dv gv : Value} {b : UInt8} {l : Lim} (w : World) (hD : RD w dv D) (hF : FS w gv fs) (hl : l.bytes ≤ 65536) (htx : tx.length ≤ 1000000) (hfl : fs.length ≤ 1000000) :
    Calls Tryz.prog 46 #[stv ⟨8, n, c, li, si, tx, D, fs⟩ dv gv, .int .u8 (b.toNat : Int), limv l] w fun e w' => StepQ l ⟨8, n, c, li, si, tx, D, fs⟩ b gv w e w' := by
  have HD := Lib.hid hD
  have HF := Lib.hid hF
  obtain ⟨pd, cd, rfl, -⟩ := hD
  obtain ⟨pf, cf, rfl, -⟩ := RS.slice hF
  clear hF
  by_cases h13 : b = 13
  · subst h13
    obtain ⟨W0, hw0⟩ : ∃ W0, ((w.alloc (.cells #[.int .i64 9, .int .u64 (n : Int), .int .i64 (c : Int), .int .i64 (li : Int), .int .i64 (si : Int), .string (arr tx), .slice pd D.length cd, .slice pf fs.length cf] 75)).alloc (obL l)).alloc obZ = W0 := ⟨_, rfl⟩
    have z0 : W0.heap.size = w.heap.size + 3 := by rw [← hw0]; simp
    have b0 : Below w.heap.size w W0 := by rw [← hw0]; exact below3 _ _ _ _
    have t0 : W0.heap[w.heap.size + 2]? = some (.cells #[.int .i64 0, .int .u64 0, .int .i64 0, .int .i64 0, .int .i64 0, .string ⟨#[]⟩, .slice none 0 0, .slice none 0 0] 75 (0, 0)) := by rw [← hw0]; exact box3 w _ _ _
    have HL := Lib.hid (line_any (p := 9) (n := n) (c := c) (li := li) (si := si) (tx := tx) (b := 13) (l := l) W0 (HD.out.below b0) (HF.out.below b0) hl (fun h _ => absurd h (by decide)) htx hfl)
    rw [show ((UInt8.toNat 13 : Nat) : Int) = 13 from rfl] at HL
    unfold stv limv stc at HL ⊢
    simp only at HL ⊢
    have HE := Lib.hid (show er l ⟨8, n, c, li, si, tx, D, fs⟩ 13 = lineE l ⟨9, n, c, li, si, tx, D, fs⟩ by simp [er, lineE])
    have HN := Lib.hid (show nxt ⟨8, n, c, li, si, tx, D, fs⟩ 13 = lnx ⟨9, n, c, li, si, tx, D, fs⟩ 13 by simp [nxt, lnx])
    have HDD := Lib.hid (show (lnx ⟨9, n, c, li, si, tx, D, fs⟩ 13).data = D by unfold lnx; split <;> rfl)
    have B0 := Lib.hid b0
    have hW := Lib.hid hw0
    generalize arr tx = ta at *
    clear hw0 b0
    go_enter Tryz.func46, Tryz.ntmps46
    go_wp2_with fail
    rw [hW.out]
    refine HL.out.mono ?_
    rintro e w1 ⟨hb1, ⟨p2, n2, c2, l2, z2, t2, d2, f2⟩, gv', rfl, ⟨pg, ng, cg, rfl⟩, hok⟩
    have t1 := (hb1.block _ (by omega)).trans t0
    obtain ⟨⟨u0, u1, u2, u3, u4, u5, u6, u7⟩, fz⟩ := eight_cells t1
    have HQ := Lib.hid (StepQ.line HD.out HF.out B0.out hb1 (by omega) HE.out HN.out HDD.out rfl ⟨_, _, _, rfl⟩ hok (.int .i64 (p2 : Int)) (.int .u64 (n2 : Int)) (.int .i64 (c2 : Int)) (.int .i64 (l2 : Int)) (.int .i64 (z2 : Int)) (.string (arr t2)) (.slice pd D.length cd) (.slice pg ng cg))
    have hrow := Lib.hid (over8_row t1 (.int .i64 (p2 : Int)) (.int .u64 (n2 : Int)) (.int .i64 (c2 : Int)) (.int .i64 (l2 : Int)) (.int .i64 (z2 : Int)) (.string (arr t2)) (.slice pd D.length cd) (.slice pg ng cg))
    unfold stv at HQ ⊢
    simp only at HQ ⊢
    generalize lineE l ⟨9, n, c, li, si, tx, D, fs⟩ = E2 at *
    clear t0 t1 hb1 hok HL HE HN HDD hW B0 z0
    go_wp2_with fail
    refine bodyPost_ret (results_two rfl _ _ (w.heap.size + 2) 75 _ (0, 0) _ rfl hrow.out Tryz.underlying75 rfl (by kernel_rfl)) rfl ?_
    exact HQ.out
  · have hne : ((b.toNat : Int) == 13) = false := ub_ne h13
    have hBy : Hid (∀ W, _) := Lib.hid fun W => rbyte_any (b.toNat : Int) (byte_lo _) (byte_hi _) W
    cases hx : txb b with
    | false =>
      have HE := Lib.hid (show er l ⟨8, n, c, li, si, tx, D, fs⟩ b = 2 by simp [er, h13, hx])
      rw [show txtB (b.toNat : Int) = false from hx] at hBy
      unfold stv limv stc
      simp only
      clear hx
      go_enter Tryz.func46, Tryz.ntmps46
      go_wp2_with (go_at_call 58; refine (hBy.out _).mono ?_; rintro e w' ⟨rfl, rfl⟩)
      refine bodyPost_ret (results_two rfl _ _ (w.heap.size + 1 + 1) 75 _ (0, 0) _ rfl (box3 w _ _ _) Tryz.underlying75 rfl (by kernel_rfl)) rfl ?_
      exact StepQ.bad (k := 2) HE.out (by decide) (below3 _ _ _ _)
    | true =>
      rw [show txtB (b.toNat : Int) = true from hx] at hBy
      obtain ⟨W0, hw0⟩ : ∃ W0, ((w.alloc (.cells #[.int .i64 8, .int .u64 (n : Int), .int .i64 (c : Int), .int .i64 (li : Int), .int .i64 (si : Int), .string (arr tx), .slice pd D.length cd, .slice pf fs.length cf] 75)).alloc (obL l)).alloc obZ = W0 := ⟨_, rfl⟩
      have z0 : W0.heap.size = w.heap.size + 3 := by rw [← hw0]; simp
      have b0 : Below w.heap.size w W0 := by rw [← hw0]; exact below3 _ _ _ _
      have t0 : W0.heap[w.heap.size + 2]? = some (.cells #[.int .i64 0, .int .u64 0, .int .i64 0, .int .i64 0, .int .i64 0, .string ⟨#[]⟩, .slice none 0 0, .slice none 0 0] 75 (0, 0)) := by rw [← hw0]; exact box3 w _ _ _
      have HL := Lib.hid (line_any (p := 8) (n := n) (c := c) (li := li) (si := si) (tx := tx) (b := b) (l := l) W0 (HD.out.below b0) (HF.out.below b0) hl (fun _ h => absurd h (by decide)) htx hfl)
      unfold stv limv stc at HL ⊢
      simp only at HL ⊢
      have HE := Lib.hid (show er l ⟨8, n, c, li, si, tx, D, fs⟩ b = lineE l ⟨8, n, c, li, si, tx, D, fs⟩ by simp [er, lineE, h13, hx])
      have HN := Lib.hid (show nxt ⟨8, n, c, li, si, tx, D, fs⟩ b = lnx ⟨8, n, c, li, si, tx, D, fs⟩ b by simp [nxt, lnx, h13])
      have HDD := Lib.hid (show (lnx ⟨8, n, c, li, si, tx, D, fs⟩ b).data = D by unfold lnx; split <;> rfl)
      have B0 := Lib.hid b0
      have hW := Lib.hid hw0
      generalize arr tx = ta at *
      clear hw0 b0
      go_enter Tryz.func46, Tryz.ntmps46
      go_wp2_with (go_at_call 58; refine (hBy.out _).mono ?_; rintro e w' ⟨rfl, rfl⟩)
      rw [hW.out]
      refine HL.out.mono ?_
      rintro e w1 ⟨hb1, ⟨p2, n2, c2, l2, z2, t2, d2, f2⟩, gv', rfl, ⟨pg, ng, cg, rfl⟩, hok⟩
      have t1 := (hb1.block _ (by omega)).trans t0
      obtain ⟨⟨u0, u1, u2, u3, u4, u5, u6, u7⟩, fz⟩ := eight_cells t1
      have HQ := Lib.hid (StepQ.line HD.out HF.out B0.out hb1 (by omega) HE.out HN.out HDD.out rfl ⟨_, _, _, rfl⟩ hok (.int .i64 (p2 : Int)) (.int .u64 (n2 : Int)) (.int .i64 (c2 : Int)) (.int .i64 (l2 : Int)) (.int .i64 (z2 : Int)) (.string (arr t2)) (.slice pd D.length cd) (.slice pg ng cg))
      have hrow := Lib.hid (over8_row t1 (.int .i64 (p2 : Int)) (.int .u64 (n2 : Int)) (.int .i64 (c2 : Int)) (.int .i64 (l2 : Int)) (.int .i64 (z2 : Int)) (.string (arr t2)) (.slice pd D.length cd) (.slice pg ng cg))
      unfold stv at HQ ⊢
      simp only at HQ ⊢
      generalize lineE l ⟨8, n, c, li, si, tx, D, fs⟩ = E2 at *
      clear t0 t1 hb1 hok HL HE HN HDD hW B0 z0
      go_wp2_with fail
      refine bodyPost_ret (results_two rfl _ _ (w.heap.size + 2) 75 _ (0, 0) _ rfl hrow.out Tryz.underlying75 rfl (by kernel_rfl)) rfl ?_
      exact HQ.out

set_option maxHeartbeats 8000000 in
theorem step_7 {n c li si : Nat} {tx D : List UInt8} {fs : List Fld} {dv gv : Value} {b : UInt8} {l : Lim} (w : World) (hD : RD w dv D) (hF : FS w gv fs) (hl : l.bytes ≤ 65536) (htx : tx.length ≤ 1000000) (hfl : fs.length ≤ 1000000) :
    Calls Tryz.prog 46 #[stv ⟨7, n, c, li, si, tx, D, fs⟩ dv gv, .int .u8 (b.toNat : Int), limv l] w fun e w' => StepQ l ⟨7, n, c, li, si, tx, D, fs⟩ b gv w e w' := by
  have HD := Lib.hid hD
  have HF := Lib.hid hF
  obtain ⟨pd, cd, rfl, -⟩ := hD
  obtain ⟨pf, cf, rfl, -⟩ := RS.slice hF
  clear hF
  by_cases h58 : b = 58
  · subst h58
    obtain ⟨W0, hw0⟩ : ∃ W0, ((w.alloc (.cells #[.int .i64 8, .int .u64 (n : Int), .int .i64 (c : Int), .int .i64 (li : Int), .int .i64 (si : Int), .string (arr tx), .slice pd D.length cd, .slice pf fs.length cf] 75)).alloc (obL l)).alloc obZ = W0 := ⟨_, rfl⟩
    have z0 : W0.heap.size = w.heap.size + 3 := by rw [← hw0]; simp
    have b0 : Below w.heap.size w W0 := by rw [← hw0]; exact below3 _ _ _ _
    have t0 : W0.heap[w.heap.size + 2]? = some (.cells #[.int .i64 0, .int .u64 0, .int .i64 0, .int .i64 0, .int .i64 0, .string ⟨#[]⟩, .slice none 0 0, .slice none 0 0] 75 (0, 0)) := by rw [← hw0]; exact box3 w _ _ _
    have HL := Lib.hid (line_any (p := 8) (n := n) (c := c) (li := li) (si := si) (tx := tx) (b := 58) (l := l) W0 (HD.out.below b0) (HF.out.below b0) hl (fun _ h => absurd h (by decide)) htx hfl)
    rw [show ((UInt8.toNat 58 : Nat) : Int) = 58 from rfl] at HL
    unfold stv limv stc at HL ⊢
    simp only at HL ⊢
    have HE := Lib.hid (show er l ⟨7, n, c, li, si, tx, D, fs⟩ 58 = lineE l ⟨8, n, c, li, si, tx, D, fs⟩ by simp [er, lineE])
    have HN := Lib.hid (show nxt ⟨7, n, c, li, si, tx, D, fs⟩ 58 = lnx ⟨8, n, c, li, si, tx, D, fs⟩ 58 by simp [nxt, lnx])
    have HDD := Lib.hid (show (lnx ⟨8, n, c, li, si, tx, D, fs⟩ 58).data = D by unfold lnx; split <;> rfl)
    have B0 := Lib.hid b0
    have hW := Lib.hid hw0
    generalize arr tx = ta at *
    clear hw0 b0
    go_enter Tryz.func46, Tryz.ntmps46
    go_wp2_with fail
    rw [hW.out]
    refine HL.out.mono ?_
    rintro e w1 ⟨hb1, ⟨p2, n2, c2, l2, z2, t2, d2, f2⟩, gv', rfl, ⟨pg, ng, cg, rfl⟩, hok⟩
    have t1 := (hb1.block _ (by omega)).trans t0
    obtain ⟨⟨u0, u1, u2, u3, u4, u5, u6, u7⟩, fz⟩ := eight_cells t1
    have HQ := Lib.hid (StepQ.line HD.out HF.out B0.out hb1 (by omega) HE.out HN.out HDD.out rfl ⟨_, _, _, rfl⟩ hok (.int .i64 (p2 : Int)) (.int .u64 (n2 : Int)) (.int .i64 (c2 : Int)) (.int .i64 (l2 : Int)) (.int .i64 (z2 : Int)) (.string (arr t2)) (.slice pd D.length cd) (.slice pg ng cg))
    have hrow := Lib.hid (over8_row t1 (.int .i64 (p2 : Int)) (.int .u64 (n2 : Int)) (.int .i64 (c2 : Int)) (.int .i64 (l2 : Int)) (.int .i64 (z2 : Int)) (.string (arr t2)) (.slice pd D.length cd) (.slice pg ng cg))
    unfold stv at HQ ⊢
    simp only at HQ ⊢
    generalize lineE l ⟨8, n, c, li, si, tx, D, fs⟩ = E2 at *
    clear t0 t1 hb1 hok HL HE HN HDD hW B0 z0
    go_wp2_with fail
    refine bodyPost_ret (results_two rfl _ _ (w.heap.size + 2) 75 _ (0, 0) _ rfl hrow.out Tryz.underlying75 rfl (by kernel_rfl)) rfl ?_
    exact HQ.out
  · have hne : ((b.toNat : Int) == 58) = false := ub_ne h58
    have hcv : (convert 35 9 (.slice (some ⟨w.heap.size + 1 + 1 + 1, 0, none⟩) 1 1)).run Tryz.prog ((((w.alloc (.cells #[.int .i64 7, .int .u64 (n : Int), .int .i64 (c : Int), .int .i64 (li : Int), .int .i64 (si : Int), .string (arr tx), .slice pd D.length cd, .slice pf fs.length cf] 75)).alloc (obL l)).alloc obZ).alloc (obB b)) = .ok (.string ⟨#[b]⟩) ((((w.alloc (.cells #[.int .i64 7, .int .u64 (n : Int), .int .i64 (c : Int), .int .i64 (li : Int), .int .i64 (si : Int), .string (arr tx), .slice pd D.length cd, .slice pf fs.length cf] 75)).alloc (obL l)).alloc obZ).alloc (obB b)) := conv_one8 b _ _ (cell_new w _ _ _ b)
    simp only [obL, obZ, obB] at hcv
    have hTk : Hid (∀ W, _) := Lib.hid fun W => rtoken_any ⟨#[b]⟩ W (by show 1 ≤ _; omega)
    rw [show (⟨#[b]⟩ : ByteArray).data.toList = [b] from rfl, token_one] at hTk
    cases hx : tkb b with
    | false =>
      have HE := Lib.hid (show er l ⟨7, n, c, li, si, tx, D, fs⟩ b = 2 by simp [er, h58, hx])
      rw [hx] at hTk
      unfold stv limv stc
      simp only
      clear hx
      generalize arr tx = ta at *
      go_enter Tryz.func46, Tryz.ntmps46
      go_wp2_with (go_at_call 51; refine (hTk.out _).mono ?_; rintro e w' ⟨rfl, rfl⟩)
      refine bodyPost_ret (results_two rfl _ _ (w.heap.size + 1 + 1) 75 _ (0, 0) _ rfl (box4 w _ _ _ _) Tryz.underlying75 rfl (by kernel_rfl)) rfl ?_
      exact StepQ.bad (k := 2) HE.out (by decide) (below4 _ _ _ _ _)
    | true =>
      rw [hx] at hTk
      obtain ⟨W0, hw0⟩ : ∃ W0, (((w.alloc (.cells #[.int .i64 7, .int .u64 (n : Int), .int .i64 (c : Int), .int .i64 (li : Int), .int .i64 (si : Int), .string (arr tx), .slice pd D.length cd, .slice pf fs.length cf] 75)).alloc (obL l)).alloc obZ).alloc (obB b) = W0 := ⟨_, rfl⟩
      have z0 : W0.heap.size = w.heap.size + 4 := by rw [← hw0]; simp
      have b0 : Below w.heap.size w W0 := by rw [← hw0]; exact below4 _ _ _ _ _
      have t0 : W0.heap[w.heap.size + 2]? = some (.cells #[.int .i64 0, .int .u64 0, .int .i64 0, .int .i64 0, .int .i64 0, .string ⟨#[]⟩, .slice none 0 0, .slice none 0 0] 75 (0, 0)) := by rw [← hw0]; exact box4 w _ _ _ _
      have HL := Lib.hid (line_any (p := 7) (n := n) (c := c) (li := li) (si := si) (tx := tx) (b := b) (l := l) W0 (HD.out.below b0) (HF.out.below b0) hl (fun _ h => absurd h (by decide)) htx hfl)
      unfold stv limv stc at HL ⊢
      simp only at HL ⊢
      have HE := Lib.hid (show er l ⟨7, n, c, li, si, tx, D, fs⟩ b = lineE l ⟨7, n, c, li, si, tx, D, fs⟩ by simp [er, lineE, h58, hx])
      have HN := Lib.hid (show nxt ⟨7, n, c, li, si, tx, D, fs⟩ b = lnx ⟨7, n, c, li, si, tx, D, fs⟩ b by simp [nxt, lnx, h58])
      have HDD := Lib.hid (show (lnx ⟨7, n, c, li, si, tx, D, fs⟩ b).data = D by unfold lnx; split <;> rfl)
      have B0 := Lib.hid b0
      have hW := Lib.hid hw0
      generalize arr tx = ta at *
      clear hw0 b0
      go_enter Tryz.func46, Tryz.ntmps46
      go_wp2_with (go_at_call 51; refine (hTk.out _).mono ?_; rintro e w' ⟨rfl, rfl⟩)
      rw [hW.out]
      refine HL.out.mono ?_
      rintro e w1 ⟨hb1, ⟨p2, n2, c2, l2, z2, t2, d2, f2⟩, gv', rfl, ⟨pg, ng, cg, rfl⟩, hok⟩
      have t1 := (hb1.block _ (by omega)).trans t0
      obtain ⟨⟨u0, u1, u2, u3, u4, u5, u6, u7⟩, fz⟩ := eight_cells t1
      have HQ := Lib.hid (StepQ.line HD.out HF.out B0.out hb1 (by omega) HE.out HN.out HDD.out rfl ⟨_, _, _, rfl⟩ hok (.int .i64 (p2 : Int)) (.int .u64 (n2 : Int)) (.int .i64 (c2 : Int)) (.int .i64 (l2 : Int)) (.int .i64 (z2 : Int)) (.string (arr t2)) (.slice pd D.length cd) (.slice pg ng cg))
      have hrow := Lib.hid (over8_row t1 (.int .i64 (p2 : Int)) (.int .u64 (n2 : Int)) (.int .i64 (c2 : Int)) (.int .i64 (l2 : Int)) (.int .i64 (z2 : Int)) (.string (arr t2)) (.slice pd D.length cd) (.slice pg ng cg))
      unfold stv at HQ ⊢
      simp only at HQ ⊢
      generalize lineE l ⟨7, n, c, li, si, tx, D, fs⟩ = E2 at *
      clear t0 t1 hb1 hok HL HE HN HDD hW B0 z0
      go_wp2_with fail
      refine bodyPost_ret (results_two rfl _ _ (w.heap.size + 2) 75 _ (0, 0) _ rfl hrow.out Tryz.underlying75 rfl (by kernel_rfl)) rfl ?_
      exact HQ.out

set_option maxHeartbeats 8000000 in
theorem step_6 {n c li si : Nat} {tx D : List UInt8} {fs : List Fld} {dv gv : Value} {b : UInt8} {l : Lim} (w : World) (hD : RD w dv D) (hF : FS w gv fs) (hl : l.bytes ≤ 65536) (htx : tx.length ≤ 1000000) (hfl : fs.length ≤ 1000000) (hli : li ≤ 65536) (hlf : l.fields ≤ 65536) :
    Calls Tryz.prog 46 #[stv ⟨6, n, c, li, si, tx, D, fs⟩ dv gv, .int .u8 (b.toNat : Int), limv l] w fun e w' => StepQ l ⟨6, n, c, li, si, tx, D, fs⟩ b gv w e w' := by
  have HD := Lib.hid hD
  have HF := Lib.hid hF
  obtain ⟨pd, cd, rfl, -⟩ := hD
  obtain ⟨pf, cf, rfl, -⟩ := RS.slice hF
  clear hF
  by_cases h13 : b = 13
  · have hne : ((b.toNat : Int) == 13) = true := by rw [h13]; rfl
    have HE := Lib.hid (show er l ⟨6, n, c, li, si, tx, D, fs⟩ b = 0 by simp [er, h13])
    have HN := Lib.hid (show nxt ⟨6, n, c, li, si, tx, D, fs⟩ b = ⟨10, n, c, li, si, tx, D, fs⟩ by simp [nxt, h13])
    unfold stv limv stc
    simp only
    go_enter Tryz.func46, Tryz.ntmps46
    go_wp2_with fail
    refine bodyPost_ret (results_two rfl _ _ (w.heap.size + 1 + 1) 75 _ (0, 0) _ rfl (box3 w _ _ _) Tryz.underlying75 rfl (by kernel_rfl)) rfl ?_
    exact StepQ.ok HE.out HN.out (below3 _ _ _ _) (HD.out.below (below3 _ _ _ _)) (HF.out.below (below3 _ _ _ _))
  · have hne : ((b.toNat : Int) == 13) = false := ub_ne h13
    have hcv : (convert 35 9 (.slice (some ⟨w.heap.size + 1 + 1 + 1, 0, none⟩) 1 1)).run Tryz.prog ((((w.alloc (.cells #[.int .i64 6, .int .u64 (n : Int), .int .i64 (c : Int), .int .i64 (li : Int), .int .i64 (si : Int), .string (arr tx), .slice pd D.length cd, .slice pf fs.length cf] 75)).alloc (obL l)).alloc obZ).alloc (obB b)) = .ok (.string ⟨#[b]⟩) ((((w.alloc (.cells #[.int .i64 6, .int .u64 (n : Int), .int .i64 (c : Int), .int .i64 (li : Int), .int .i64 (si : Int), .string (arr tx), .slice pd D.length cd, .slice pf fs.length cf] 75)).alloc (obL l)).alloc obZ).alloc (obB b)) := conv_one8 b _ _ (cell_new w _ _ _ b)
    simp only [obL, obZ, obB] at hcv
    have hTk : Hid (∀ W, _) := Lib.hid fun W => rtoken_any ⟨#[b]⟩ W (by show 1 ≤ _; omega)
    rw [show (⟨#[b]⟩ : ByteArray).data.toList = [b] from rfl, token_one] at hTk
    cases hx : tkb b with
    | false =>
      have HE := Lib.hid (show er l ⟨6, n, c, li, si, tx, D, fs⟩ b = 2 by simp [er, h13, hx])
      rw [hx] at hTk
      unfold stv limv stc
      simp only
      clear hx
      generalize arr tx = ta at *
      go_enter Tryz.func46, Tryz.ntmps46
      go_wp2_with (go_at_call 51; refine (hTk.out _).mono ?_; rintro e w' ⟨rfl, rfl⟩)
      refine bodyPost_ret (results_two rfl _ _ (w.heap.size + 1 + 1) 75 _ (0, 0) _ rfl (box4 w _ _ _ _) Tryz.underlying75 rfl (by kernel_rfl)) rfl ?_
      exact StepQ.bad (k := 2) HE.out (by decide) (below4 _ _ _ _ _)
    | true =>
      rw [hx] at hTk
      by_cases hge : l.fields ≤ li
      · have HE := Lib.hid (show er l ⟨6, n, c, li, si, tx, D, fs⟩ b = 5 by simp [er, h13, hx, hge])
        have hge' : (l.fields : Int) ≤ (li : Int) := by omega
        unfold stv limv stc
        simp only
        clear hx
        generalize arr tx = ta at *
        go_enter Tryz.func46, Tryz.ntmps46
        go_wp2_with (go_at_call 51; refine (hTk.out _).mono ?_; rintro e w' ⟨rfl, rfl⟩)
        refine bodyPost_ret (results_two rfl _ _ (w.heap.size + 1 + 1) 75 _ (0, 0) _ rfl (box4 w _ _ _ _) Tryz.underlying75 rfl (by kernel_rfl)) rfl ?_
        exact StepQ.bad (k := 5) HE.out (by decide) (below4 _ _ _ _ _)
      · have hge' : ¬ (l.fields : Int) ≤ (li : Int) := by omega
        obtain ⟨lq, hlq⟩ : ∃ lq, li + 1 = lq := ⟨_, rfl⟩
        have hwl : IntKind.i64.wrap ((li : Int) + 1) = (lq : Int) := by rw [IntWalk.i64_in _ (by omega)]; omega
        obtain ⟨W0, hw0⟩ : ∃ W0, (((w.alloc (.cells #[.int .i64 7, .int .u64 (n : Int), .int .i64 (c : Int), .int .i64 (lq : Int), .int .i64 (si : Int), .string (arr tx), .slice pd D.length cd, .slice pf fs.length cf] 75)).alloc (obL l)).alloc obZ).alloc (obB b) = W0 := ⟨_, rfl⟩
        have z0 : W0.heap.size = w.heap.size + 4 := by rw [← hw0]; simp
        have b0 : Below w.heap.size w W0 := by rw [← hw0]; exact below4 _ _ _ _ _
        have t0 : W0.heap[w.heap.size + 2]? = some (.cells #[.int .i64 0, .int .u64 0, .int .i64 0, .int .i64 0, .int .i64 0, .string ⟨#[]⟩, .slice none 0 0, .slice none 0 0] 75 (0, 0)) := by rw [← hw0]; exact box4 w _ _ _ _
        have HL := Lib.hid (line_any (p := 7) (n := n) (c := c) (li := lq) (si := si) (tx := tx) (b := b) (l := l) W0 (HD.out.below b0) (HF.out.below b0) hl (fun _ h => absurd h (by decide)) htx hfl)
        unfold stv limv stc at HL ⊢
        simp only at HL ⊢
        have HE := Lib.hid (show er l ⟨6, n, c, li, si, tx, D, fs⟩ b = lineE l ⟨7, n, c, lq, si, tx, D, fs⟩ by simp [er, lineE, h13, hx, hge])
        have HN := Lib.hid (show nxt ⟨6, n, c, li, si, tx, D, fs⟩ b = lnx ⟨7, n, c, lq, si, tx, D, fs⟩ b by simp [nxt, lnx, h13, ← hlq])
        have HDD := Lib.hid (show (lnx ⟨7, n, c, lq, si, tx, D, fs⟩ b).data = D by unfold lnx; split <;> rfl)
        have B0 := Lib.hid b0
        have hW := Lib.hid hw0
        generalize arr tx = ta at *
        clear hw0 b0
        go_enter Tryz.func46, Tryz.ntmps46
        go_wp2_with (go_at_call 51; refine (hTk.out _).mono ?_; rintro e w' ⟨rfl, rfl⟩)
        rw [hW.out]
        refine HL.out.mono ?_
        rintro e w1 ⟨hb1, ⟨p2, n2, c2, l2, z2, t2, d2, f2⟩, gv', rfl, ⟨pg, ng, cg, rfl⟩, hok⟩
        have t1 := (hb1.block _ (by omega)).trans t0
        obtain ⟨⟨u0, u1, u2, u3, u4, u5, u6, u7⟩, fz⟩ := eight_cells t1
        have HQ := Lib.hid (StepQ.line HD.out HF.out B0.out hb1 (by omega) HE.out HN.out HDD.out rfl ⟨_, _, _, rfl⟩ hok (.int .i64 (p2 : Int)) (.int .u64 (n2 : Int)) (.int .i64 (c2 : Int)) (.int .i64 (l2 : Int)) (.int .i64 (z2 : Int)) (.string (arr t2)) (.slice pd D.length cd) (.slice pg ng cg))
        have hrow := Lib.hid (over8_row t1 (.int .i64 (p2 : Int)) (.int .u64 (n2 : Int)) (.int .i64 (c2 : Int)) (.int .i64 (l2 : Int)) (.int .i64 (z2 : Int)) (.string (arr t2)) (.slice pd D.length cd) (.slice pg ng cg))
        unfold stv at HQ ⊢
        simp only at HQ ⊢
        generalize lineE l ⟨7, n, c, lq, si, tx, D, fs⟩ = E2 at *
        clear t0 t1 hb1 hok HL HE HN HDD hW B0 z0
        go_wp2_with fail
        refine bodyPost_ret (results_two rfl _ _ (w.heap.size + 2) 75 _ (0, 0) _ rfl hrow.out Tryz.underlying75 rfl (by kernel_rfl)) rfl ?_
        exact HQ.out

set_option maxHeartbeats 8000000 in
theorem step_3 {n c li si : Nat} {tx D : List UInt8} {fs : List Fld} {dv gv : Value} {b : UInt8} {l : Lim} (w : World) (hD : RD w dv D) (hF : FS w gv fs) (hn0 : 0 < n) (hn : n ≤ 4611686018427387903) (hdl : D.length ≤ 1000000) :
    Calls Tryz.prog 46 #[stv ⟨3, n, c, li, si, tx, D, fs⟩ dv gv, .int .u8 (b.toNat : Int), limv l] w fun e w' => StepQ l ⟨3, n, c, li, si, tx, D, fs⟩ b gv w e w' := by
  have HD := Lib.hid hD
  have HF := Lib.hid hF
  obtain ⟨pd, cd, rfl, -⟩ := hD
  obtain ⟨pf, cf, rfl, -⟩ := RS.slice hF
  clear hF
  obtain ⟨m, hm⟩ : ∃ m, n - 1 = m := ⟨_, rfl⟩
  have hwm : IntKind.u64.wrap ((n : Int) - 1) = (m : Int) := by rw [IntWalk.u64_in _ (by omega)]; omega
  have HN := Lib.hid (show nxt ⟨3, n, c, li, si, tx, D, fs⟩ b = ⟨if m = 0 then 4 else 3, m, c, li, si, tx, D ++ [b], fs⟩ by simp [nxt, hm])
  obtain ⟨w0, hw0⟩ : ∃ w0, ((w.alloc (.cells #[.int .i64 3, .int .u64 (n : Int), .int .i64 (c : Int), .int .i64 (li : Int), .int .i64 (si : Int), .string (arr tx), .slice pd D.length cd, .slice pf fs.length cf] 75)).alloc (obL l)).alloc obZ = w0 := ⟨_, rfl⟩
  have z0 : w0.heap.size = w.heap.size + 3 := by rw [← hw0]; simp
  have b0 : Below w.heap.size w w0 := by rw [← hw0]; exact below3 _ _ _ _
  have s0 : w0.heap[w.heap.size]? = some (.cells #[.int .i64 3, .int .u64 (n : Int), .int .i64 (c : Int), .int .i64 (li : Int), .int .i64 (si : Int), .string (arr tx), .slice pd D.length cd, .slice pf fs.length cf] 75 (0, 0)) := by
    rw [← hw0, Below.heap_alloc _ _ _ (by simp; omega), Below.heap_alloc _ _ _ (by simp)]; exact World.alloc_heap_new w _
  have t0 : w0.heap[w.heap.size + 2]? = some (.cells #[.int .i64 0, .int .u64 0, .int .i64 0, .int .i64 0, .int .i64 0, .string ⟨#[]⟩, .slice none 0 0, .slice none 0 0] 75 (0, 0)) := by rw [← hw0]; exact box3 w _ _ _
  obtain ⟨v1, w2, p0, p1, p2⟩ := run_append_rd w0 35 w0.heap.size (.slice none 0 0) (.slice pd D.length cd) 0 [] D (World.ownsRow_nil _ _ _ _) (HD.out.below b0) (by simp; omega) (Nat.le_refl _)
  obtain ⟨q1, n1, c1, rfl⟩ := own_slice p1
  have z2 := p2.size
  have h2 : ∀ g, g < w0.heap.size → w2.heap[g]? = w0.heap[g]? := fun g hg => p2.block g hg (by simp [Value.ownBlock])
  have bo2 := below_box w2 (obB b)
  have so2 : (w2.alloc (obB b)).heap.size = w2.heap.size + 1 := by simp
  rw [List.nil_append] at p1
  obtain ⟨v2, w3, r0, r1, r2⟩ := run_append_rd (w2.alloc (obB b)) 35 w0.heap.size (.slice q1 n1 c1) (.slice (some ⟨w2.heap.size, 0, none⟩) 1 1) D.length D [b] (own_same p1 fun g hg => bo2.block g (p1.lt g hg).2) (rd_one w2 b) (by simp; omega) (by omega)
  obtain ⟨q2, n2, c2, rfl⟩ := own_slice r1
  have h3 : ∀ g, g < w0.heap.size → w3.heap[g]? = w0.heap[g]? := fun g hg => (r2.block g (by omega) (fun e => by have := (p1.lt g e.symm).1; omega)).trans ((bo2.block g (by omega)).trans (h2 g hg))
  have s3 := (h3 _ (by omega)).trans s0
  have t3 := (h3 _ (by omega)).trans t0
  have z3 := r2.size
  have b3 : Below w.heap.size w w3 := b0.trans ⟨(r2.os.trans (bo2.os.trans p2.os)), r2.tape.trans (bo2.tape.trans p2.tape), r2.output.trans (bo2.output.trans p2.output), by omega, fun g hg => h3 g (by omega)⟩
  obtain ⟨⟨y0, y1, y2, y3, y4, y5, y6, y7⟩, fy3⟩ := eight_cells s3
  obtain ⟨⟨u0, u1, u2, u3, u4, u5, u6, u7⟩, fz3⟩ := eight_cells t3
  have hrd : ∀ A : World, (∀ g, w0.heap.size ≤ g → A.heap[g]? = w3.heap[g]?) → RD A (.slice q2 n2 c2) (D ++ [b]) := fun A hA => RD.of_own (own_same r1 fun g hg => hA g (r1.lt g hg).1)
  have HRD := Lib.hid hrd
  rw [← hw0] at p0
  have P0 := Lib.hid p0
  have R0 := Lib.hid r0
  have B3 := Lib.hid b3
  have T3 := Lib.hid t3
  unfold stv limv stc
  simp only
  clear hw0 p0 r0 p1 r1 p2 r2 s3 t3 s0 t0 h2 h3 bo2 b0 b3 z2 z3 so2 hn hn0 hm hrd
  by_cases hz : m = 0
  · subst hz
    have hwm' : IntKind.u64.wrap ((n : Int) - 1) = 0 := hwm
    clear hwm
    have hB : Below w.heap.size w (over8 (((w3.setCell ⟨w.heap.size, 6, none⟩ (.slice q2 n2 c2)).setCell ⟨w.heap.size, 1, none⟩ (.int .u64 0)).setCell ⟨w.heap.size, 0, none⟩ (.int .i64 4)) (w.heap.size + 2) (.int .i64 4) (.int .u64 0) (.int .i64 (c : Int)) (.int .i64 (li : Int)) (.int .i64 (si : Int)) (.string (arr tx)) (.slice q2 n2 c2) (.slice pf fs.length cf)) := over8_below (((B3.out.setCell (Nat.le_refl _) _).setCell (Nat.le_refl _) _).setCell (Nat.le_refl _) _) (by omega) _ _ _ _ _ _ _ _
    have HQ := Lib.hid (StepQ.ok (l := l) (s := ⟨3, n, c, li, si, tx, D, fs⟩) (s' := ⟨4, 0, c, li, si, tx, D ++ [b], fs⟩) (b := b) (dv := .slice q2 n2 c2) (gv := .slice pf fs.length cf) rfl (HN.out.trans (by rw [if_pos rfl])) hB (HRD.out _ fun g hg => (over8_other _ _ _ _ _ _ _ _ _ _ (by omega)).trans ((Below.heap_setCell _ _ _ _ (by simp; omega)).trans ((Below.heap_setCell _ _ _ _ (by simp; omega)).trans (Below.heap_setCell _ _ _ _ (by simp; omega))))) (HF.out.below hB))
    have hrow := Lib.hid (over8_row (A := (((w3.setCell ⟨w.heap.size, 6, none⟩ (.slice q2 n2 c2)).setCell ⟨w.heap.size, 1, none⟩ (.int .u64 0)).setCell ⟨w.heap.size, 0, none⟩ (.int .i64 4))) (R := w.heap.size + 2) ((Below.heap_setCell _ _ _ _ (by simp)).trans ((Below.heap_setCell _ _ _ _ (by simp)).trans ((Below.heap_setCell _ _ _ _ (by simp)).trans T3.out))) (.int .i64 4) (.int .u64 0) (.int .i64 (c : Int)) (.int .i64 (li : Int)) (.int .i64 (si : Int)) (.string (arr tx)) (.slice q2 n2 c2) (.slice pf fs.length cf))
    unfold stv stc at HQ
    simp only at HQ
    clear HD HF HN HRD B3 T3 hB
    go_enter Tryz.func46, Tryz.ntmps46
    go_wp2_with (first
      | (at_builtin; refine wpList_append_is rfl (.tmp 129) (.tmp 131) 35 rfl _ _ _ _ rfl rfl P0.out ?_)
      | (at_builtin; refine wpList_append_is rfl (.tmp 133) (.tmp 135) 35 rfl _ _ _ _ rfl rfl R0.out ?_))
    refine bodyPost_ret (results_two rfl _ _ (w.heap.size + 2) 75 _ (0, 0) _ rfl hrow.out Tryz.underlying75 rfl (by kernel_rfl)) rfl ?_
    exact HQ.out
  · have hz' : ((m : Int) == 0) = false := by rw [beq_eq_false_iff_ne]; omega
    have hB : Below w.heap.size w (over8 ((w3.setCell ⟨w.heap.size, 6, none⟩ (.slice q2 n2 c2)).setCell ⟨w.heap.size, 1, none⟩ (.int .u64 (m : Int))) (w.heap.size + 2) (.int .i64 3) (.int .u64 (m : Int)) (.int .i64 (c : Int)) (.int .i64 (li : Int)) (.int .i64 (si : Int)) (.string (arr tx)) (.slice q2 n2 c2) (.slice pf fs.length cf)) := over8_below ((B3.out.setCell (Nat.le_refl _) _).setCell (Nat.le_refl _) _) (by omega) _ _ _ _ _ _ _ _
    have HQ := Lib.hid (StepQ.ok (l := l) (s := ⟨3, n, c, li, si, tx, D, fs⟩) (s' := ⟨3, m, c, li, si, tx, D ++ [b], fs⟩) (b := b) (dv := .slice q2 n2 c2) (gv := .slice pf fs.length cf) rfl (HN.out.trans (by rw [if_neg hz])) hB (HRD.out _ fun g hg => (over8_other _ _ _ _ _ _ _ _ _ _ (by omega)).trans ((Below.heap_setCell _ _ _ _ (by simp; omega)).trans (Below.heap_setCell _ _ _ _ (by simp; omega)))) (HF.out.below hB))
    have hrow := Lib.hid (over8_row (A := ((w3.setCell ⟨w.heap.size, 6, none⟩ (.slice q2 n2 c2)).setCell ⟨w.heap.size, 1, none⟩ (.int .u64 (m : Int)))) (R := w.heap.size + 2) ((Below.heap_setCell _ _ _ _ (by simp)).trans ((Below.heap_setCell _ _ _ _ (by simp)).trans T3.out)) (.int .i64 3) (.int .u64 (m : Int)) (.int .i64 (c : Int)) (.int .i64 (li : Int)) (.int .i64 (si : Int)) (.string (arr tx)) (.slice q2 n2 c2) (.slice pf fs.length cf))
    unfold stv stc at HQ
    simp only at HQ
    clear HD HF HN HRD B3 T3 hB
    go_enter Tryz.func46, Tryz.ntmps46
    go_wp2_with (first
      | (at_builtin; refine wpList_append_is rfl (.tmp 129) (.tmp 131) 35 rfl _ _ _ _ rfl rfl P0.out ?_)
      | (at_builtin; refine wpList_append_is rfl (.tmp 133) (.tmp 135) 35 rfl _ _ _ _ rfl rfl R0.out ?_))
    refine bodyPost_ret (results_two rfl _ _ (w.heap.size + 2) 75 _ (0, 0) _ rfl hrow.out Tryz.underlying75 rfl (by kernel_rfl)) rfl ?_
    exact HQ.out

end Go.Proofs.YtilebfpaibajcaaGreatDoor
