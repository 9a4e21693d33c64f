/- The document's Scan: the loop. -/
import Derived.Test.YtilebfpaibajcaaGreatDoorBodyRefScan
import Derived.Test.YtilebfpaibajcaaGreatDoorByteSame
import Derived.Deep.Cut
namespace Go.Proofs.YtilebfpaibajcaaGreatDoor
open Go.ChangeShapes Go.WideShapes Go.ChangeAt Go.RowKit
open Oc Fl Bk Bd
set_option linter.unusedVariables false
set_option maxRecDepth 100000

theorem below_refl8 (w : World) : Below w.heap.size w w := ⟨rfl, rfl, rfl, Nat.le_refl _, fun _ _ => rfl⟩
theorem three_cells9 {A : World} {R : Nat} {x y z : Value} {t : TypeId} (h : A.heap[R]? = some (.cells #[x, y, z] t (0, 0))) :
    (A.cell? ⟨R, 0, none⟩ = some x ∧ A.cell? ⟨R, 1, none⟩ = some y ∧ A.cell? ⟨R, 2, none⟩ = some z) ∧ A.frozen? ⟨R, 0, none⟩ = false ∧ A.frozen? ⟨R, 1, none⟩ = false ∧ A.frozen? ⟨R, 2, none⟩ = false := by
  simp [World.cell?, World.frozen?, h]
theorem alloc_below8 {A W : World} (h : Below A.heap.size A W) (o : Obj) : Below A.heap.size A (W.alloc o) := ahead h (below_box W o)
theorem set_below8 {A W : World} (h : Below A.heap.size A W) (i : Nat) (v : Value) : Below A.heap.size A (W.setCell ⟨A.heap.size, i, none⟩ v) := h.setCell (Nat.le_refl _) v
/-- The cells that a round loads. -/
def Lds (w : World) (l : Lim) (a : Addr) (b : UInt8) (x0 x1 x2 x3 x4 x5 x6 x7 : Value) (W : World) : Prop :=
  W.cell? ⟨w.heap.size + 1 + 1, 0, none⟩ = some x0 ∧ W.cell? ⟨w.heap.size + 1 + 1, 1, none⟩ = some x1 ∧ W.cell? ⟨w.heap.size + 1 + 1, 2, none⟩ = some x2 ∧ W.cell? ⟨w.heap.size + 1 + 1, 3, none⟩ = some x3 ∧ W.cell? ⟨w.heap.size + 1 + 1, 4, none⟩ = some x4 ∧ W.cell? ⟨w.heap.size + 1 + 1, 5, none⟩ = some x5 ∧ W.cell? ⟨w.heap.size + 1 + 1, 6, none⟩ = some x6 ∧ W.cell? ⟨w.heap.size + 1 + 1, 7, none⟩ = some x7 ∧
    W.cell? ⟨w.heap.size, 0, none⟩ = some (.int .i64 (l.ext : Int)) ∧ W.cell? ⟨w.heap.size, 1, none⟩ = some (.int .i64 (l.fields : Int)) ∧ W.cell? ⟨w.heap.size, 2, none⟩ = some (.int .i64 (l.bytes : Int)) ∧ W.cell? a = some (.int .u8 (b.toNat : Int))

theorem last11 {T : List UInt8} {l : Lim} {w M : World} {s2 : St} {k : Nat} {x y : Value} {z : Nat} (hp : ((s2.place : Nat) : Int) = 11) {u1 u2 u3 u4 u5 u6 u7 u8 u9 : Value} (h : RScanF T l w (.returned (gotv s2 k z x y)) (over10 M (w.heap.size + 1) (.int .i64 (s2.place : Int)) u1 u2 u3 u4 u5 u6 u7 u8 u9)) :
    RScanF T l w (.returned (.agg #[.int .i64 11, .int .u64 (s2.n : Int), .int .i64 (s2.count : Int), .int .i64 (s2.lines : Int), .int .i64 (s2.size : Int), .string (arr s2.text), x, y, .int .i64 (k : Int), .int .i64 (z : Int)])) (over10 M (w.heap.size + 1) (.int .i64 11) u1 u2 u3 u4 u5 u6 u7 u8 u9) := by
  unfold gotv at h
  rw [hp] at h
  exact h
set_option maxHeartbeats 8000000 in
theorem rscanF_any {tv : Value} {T : List UInt8} {l : Lim} (w : World) (hT : RD w tv T) (hl : T.length ≤ 60000) (hlm : l.ext ≤ 65536 ∧ l.fields ≤ 65536 ∧ l.bytes ≤ 65536) :
    Calls Tryz.prog 36 #[tv, limv l] w fun x w' => RScanF T l w x w' := by
  have HT := Lib.hid hT
  obtain ⟨pt, ct, rfl, -⟩ := hT
  rw [limv]
  obtain ⟨w0, hw0⟩ : ∃ w0, ((w.alloc (.cells #[.int .i64 (l.ext : Int), .int .i64 (l.fields : Int), .int .i64 (l.bytes : Int)] 80)).alloc (.cells #[.int .i64 0, .int .u64 0, .int .i64 0, .int .i64 0, .int .i64 0, .string ⟨#[]⟩, .slice none 0 0, .slice none 0 0, .int .i64 0, .int .i64 0] 77)).alloc obZ = w0 := ⟨_, rfl⟩
  have h0 : LoopAt w T l 0 (sz [] 0 0) (.slice none 0 0) (.slice none 0 0) w0 := by
    rw [← hw0]
    refine ⟨below3 _ _ _ _, by simp, ?_, ?_, box3 w _ _ _, RD.nil _, RS.nil _ _, ⟨by decide, by decide, fun _ => by decide, (fun h => by cases h), (fun h => by cases h), (fun h => by simp [sz] at h), Nat.le_refl _, Nat.le_refl _, Nat.le_refl _, Nat.le_refl _⟩, rfl, fun g hg => by simp [Value.ownBlock] at hg⟩
    · rw [Below.heap_alloc _ _ _ (by simp; omega), Below.heap_alloc _ _ _ (by simp)]; exact World.alloc_heap_new w _
    · rw [Below.heap_alloc _ _ _ (by simp)]; exact heap_alloc2_new w _ _
  have H0 := Lib.hid h0
  have W0 := Lib.hid hw0
  clear h0 hw0
  go_enter Tryz.func36, Tryz.ntmps36
  go_wp2_with fail
  rw [W0.out]
  clear W0
  go_loopw [6, 7, 8] (fun iv _ _ wr => ∃ (k : Nat) (s : St) (pd : Option Addr) (nd cd : Nat) (pg : Option Addr) (ng cg : Nat), iv = .int .i64 (k : Int) ∧ LoopAt w T l k s (.slice pd nd cd) (.slice pg ng cg) wr ∧ k ≤ T.length) (fun iv _ _ _ => T.length - (intOf iv).toNat)
  case atStart => exact ⟨0, sz [] 0 0, none, 0, 0, none, 0, 0, rfl, H0.out, Nat.zero_le _⟩
  case round =>
    clear H0
    obtain ⟨k, s, pd, nd, cd, pg, ng, cg, rfl, hL, hk⟩ := hrel
    have hbig := hL.big
    have HL := Lib.hid hL
    by_cases hlt : k < T.length
    case neg =>
      obtain rfl : k = T.length := by omega
      obtain ⟨⟨y0, y1, y2, y3, y4, y5, y6, y7⟩, fy⟩ := eight_cells hL.st
      obtain ⟨⟨g0, g1, g2, g3, g4, g5, g6, g7, g8, g9⟩, fg⟩ := ten_cells hL.got
      have HQ := Lib.hid (RScanF.tell (e := 4) hL (below_refl8 wr) (by rw [drop_none (Nat.le_refl _)]; rfl))
      have hrow := Lib.hid (over10_row hL.got (.int .i64 (s.place : Int)) (.int .u64 (s.n : Int)) (.int .i64 (s.count : Int)) (.int .i64 (s.lines : Int)) (.int .i64 (s.size : Int)) (.string (arr s.text)) (.slice pd nd cd) (.slice pg ng cg) (.int .i64 (T.length : Int)) (.int .i64 4))
      clear hL HL hk hlt
      go_wp2_with fail
      refine bodyPost_ret (results_row1 rfl _ _ (w.heap.size + 1) 77 _ (0, 0) _ rfl hrow.out Tryz.underlying77 rfl (by kernel_rfl)) rfl ?_
      exact HQ.out
    obtain ⟨b, hb⟩ : ∃ b, T[k]? = some b := ⟨_, List.getElem?_eq_getElem hlt⟩
    have k1 : (0 : Int) ≤ (k : Int) := by omega
    have k2 : (k : Int) < (T.length : Int) := by omega
    obtain ⟨p', c', e', h1, -, h3, h4⟩ := HT.out.below hL.below
    cases e'
    obtain ⟨ad, rfl⟩ : ∃ ad, pt = some ad := by
      cases pt with
      | none => have := h3 rfl; have := h1; omega
      | some ad => exact ⟨ad, rfl⟩
    have hbyte := h4 ad rfl k b hb
    have hblt : (ad.add k).block < wr.heap.size := World.block_lt_of_cell? _ _ hbyte
    obtain ⟨⟨y0, y1, y2, y3, y4, y5, y6, y7⟩, fy⟩ := eight_cells hL.st
    obtain ⟨⟨c0, c1, c2⟩, -⟩ := three_cells9 hL.lims
    have KS : Hid (∀ W, Below wr.heap.size wr W → Lds w l (ad.add k) b (.int .i64 (s.place : Int)) (.int .u64 (s.n : Int)) (.int .i64 (s.count : Int)) (.int .i64 (s.lines : Int)) (.int .i64 (s.size : Int)) (.string (arr s.text)) (.slice pd nd cd) (.slice pg ng cg) W) := Lib.hid fun W hW =>
      ⟨cell_below y0 hW, cell_below y1 hW, cell_below y2 hW, cell_below y3 hW, cell_below y4 hW, cell_below y5 hW, cell_below y6 hW, cell_below y7 hW, cell_below c0 hW, cell_below c1 hW, cell_below c2 hW, cell_below hbyte hW⟩
    have HS : Hid (∀ W, Below wr.heap.size wr W → _) := Lib.hid fun W hW => step_any (b := b) W (hL.data.below hW) (hL.fields.below hW) hL.ok (by omega) hlm
    unfold stv limv stc at HS
    have HB := Lib.hid hb
    have hge : w.heap.size + 2 < wr.heap.size := hbig
    have q0 : ¬ w.heap.size = wr.heap.size := by omega
    have q1 : ¬ w.heap.size + 1 = wr.heap.size := by omega
    have q2 : ¬ w.heap.size + 1 + 1 = wr.heap.size := by omega
    clear h3 h4 hbyte hb hL y0 y1 y2 y3 y4 y5 y6 y7 fy c0 c1 c2
    by_cases he : er l s b = 0
    case neg =>
      have hne : (((er l s b : Nat) : Int) != 0) = true := by unfold bne; rw [beq_eq_false_iff_ne.2 (by omega)]; rfl
      have HQ : Hid (∀ M, Below wr.heap.size wr M → _) := Lib.hid fun M hM => RScanF.tell (e := er l s b) HL.out hM (by rw [drop_some HB.out, go_bad rfl he])
      have HG : Hid (∀ M, Below wr.heap.size wr M → M.heap[w.heap.size + 1]? = _) := Lib.hid fun M hM => (hM.block _ (by omega)).trans HL.out.got
      have HNE := Lib.hid he
      clear he
      go_wp2_with fail
      go_region_held3 (fun W => W.cell? ⟨w.heap.size + 1 + 1, 0, none⟩ = some (.int .i64 (s.place : Int)) ∧ W.cell? ⟨w.heap.size + 1 + 1, 1, none⟩ = some (.int .u64 (s.n : Int)) ∧ W.cell? ⟨w.heap.size + 1 + 1, 2, none⟩ = some (.int .i64 (s.count : Int)) ∧ W.cell? ⟨w.heap.size + 1 + 1, 3, none⟩ = some (.int .i64 (s.lines : Int)) ∧ W.cell? ⟨w.heap.size + 1 + 1, 4, none⟩ = some (.int .i64 (s.size : Int)) ∧ W.cell? ⟨w.heap.size + 1 + 1, 5, none⟩ = some (.string (arr s.text)) ∧ W.cell? ⟨w.heap.size + 1 + 1, 6, none⟩ = some (.slice pd nd cd) ∧ W.cell? ⟨w.heap.size + 1 + 1, 7, none⟩ = some (.slice pg ng cg) ∧ W.cell? ⟨w.heap.size, 0, none⟩ = some (.int .i64 (l.ext : Int)) ∧ W.cell? ⟨w.heap.size, 1, none⟩ = some (.int .i64 (l.fields : Int)) ∧ W.cell? ⟨w.heap.size, 2, none⟩ = some (.int .i64 (l.bytes : Int)) ∧ W.cell? (ad.add k) = some (.int .u8 (b.toNat : Int)))
        ((refine KS.out _ ?_; repeat (first | with_reducible exact BA.out | with_reducible exact below_refl8 wr | with_reducible refine drew_of8 ?_ | with_reducible refine set_below8 ?_ _ _ | with_reducible refine alloc_below8 ?_ _)))
        (first
        | (go_at_call 46; refine Calls.mono (HS.out _ (drew_below8 wr)) ?_; rintro e w2 ⟨hb2, hbad, -⟩; obtain ⟨v, ⟨a0, a1, a2, a3, a4, a5, p6, n6, c6, p7, n7, c7, rfl⟩, rfl⟩ := hbad HNE.out; have BA := Lib.hid (ahead (drew_below8 wr) hb2); clear hb2 hbad)
        | (go_at_call 46; refine Calls.mono (HS.out _ (drew_of8 (alloc_below8 (below_refl8 wr) _))) ?_; rintro e w2 ⟨hb2, hbad, -⟩; obtain ⟨v, ⟨a0, a1, a2, a3, a4, a5, p6, n6, c6, p7, n7, c7, rfl⟩, rfl⟩ := hbad HNE.out; have BA := Lib.hid (ahead (drew_of8 (alloc_below8 (below_refl8 wr) _)) hb2); have hX := (hb2.block wr.heap.size (by simp)).trans (World.alloc_heap_new wr _); obtain ⟨⟨z0, z1, z2, z3, z4, z5, z6, z7⟩, fz⟩ := eight_cells hX; clear hb2 hbad hX))
      · have hM := alloc_below8 BA.out (.cells #[.int .i64 a0, .int .u64 a1, .int .i64 a2, .int .i64 a3, .int .i64 a4, .string a5, .slice p6 n6 c6, .slice p7 n7 c7] 75)
        generalize w2.alloc (.cells #[.int .i64 a0, .int .u64 a1, .int .i64 a2, .int .i64 a3, .int .i64 a4, .string a5, .slice p6 n6 c6, .slice p7 n7 c7] 75) = M at hM ⊢
        obtain ⟨x0, x1, x2, x3, x4, x5, x6, x7, -⟩ := KS.out M hM
        obtain ⟨⟨g0, g1, g2, g3, g4, g5, g6, g7, g8, g9⟩, fg⟩ := ten_cells (HG.out M hM)
        have hrow := Lib.hid (over10_row (HG.out M hM) (.int .i64 (s.place : Int)) (.int .u64 (s.n : Int)) (.int .i64 (s.count : Int)) (.int .i64 (s.lines : Int)) (.int .i64 (s.size : Int)) (.string (arr s.text)) (.slice pd nd cd) (.slice pg ng cg) (.int .i64 (k : Int)) (.int .i64 ((er l s b : Nat) : Int)))
        have HQM := Lib.hid (HQ.out M hM)
        clear hM HQ HG KS HS HL BA
        go_wp2_with fail
        refine bodyPost_ret (results_row1 rfl _ _ (w.heap.size + 1) 77 _ (0, 0) _ rfl hrow.out Tryz.underlying77 rfl (by kernel_rfl)) rfl ?_
        exact HQM.out
      · have hM : Below wr.heap.size wr (over8 w2 wr.heap.size (.int .i64 a0) (.int .u64 a1) (.int .i64 a2) (.int .i64 a3) (.int .i64 a4) (.string a5) (.slice p6 n6 c6) (.slice p7 n7 c7)) := over8_below BA.out (Nat.le_refl _) _ _ _ _ _ _ _ _
        unfold over8 at hM
        generalize ((((((((w2.setCell ⟨wr.heap.size, 0, none⟩ (.int .i64 a0)).setCell ⟨wr.heap.size, 1, none⟩ (.int .u64 a1)).setCell ⟨wr.heap.size, 2, none⟩ (.int .i64 a2)).setCell ⟨wr.heap.size, 3, none⟩ (.int .i64 a3)).setCell ⟨wr.heap.size, 4, none⟩ (.int .i64 a4)).setCell ⟨wr.heap.size, 5, none⟩ (.string a5)).setCell ⟨wr.heap.size, 6, none⟩ (.slice p6 n6 c6)).setCell ⟨wr.heap.size, 7, none⟩ (.slice p7 n7 c7)) = M at hM ⊢
        obtain ⟨x0, x1, x2, x3, x4, x5, x6, x7, -⟩ := KS.out M hM
        obtain ⟨⟨g0, g1, g2, g3, g4, g5, g6, g7, g8, g9⟩, fg⟩ := ten_cells (HG.out M hM)
        have hrow := Lib.hid (over10_row (HG.out M hM) (.int .i64 (s.place : Int)) (.int .u64 (s.n : Int)) (.int .i64 (s.count : Int)) (.int .i64 (s.lines : Int)) (.int .i64 (s.size : Int)) (.string (arr s.text)) (.slice pd nd cd) (.slice pg ng cg) (.int .i64 (k : Int)) (.int .i64 ((er l s b : Nat) : Int)))
        have HQM := Lib.hid (HQ.out M hM)
        clear hM HQ HG KS HS HL BA
        go_wp2_with fail
        refine bodyPost_ret (results_row1 rfl _ _ (w.heap.size + 1) 77 _ (0, 0) _ rfl hrow.out Tryz.underlying77 rfl (by kernel_rfl)) rfl ?_
        exact HQM.out
    case pos =>
      obtain ⟨s2, hs2⟩ : ∃ s2, nxt s b = s2 := ⟨_, rfl⟩
      have HE0 := Lib.hid he
      have HS0 : Hid (∀ W, Below wr.heap.size wr W → Calls Tryz.prog 46 #[.agg #[.int .i64 (s.place : Int), .int .u64 (s.n : Int), .int .i64 (s.count : Int), .int .i64 (s.lines : Int), .int .i64 (s.size : Int), .string (arr s.text), .slice pd nd cd, .slice pg ng cg], .int .u8 (b.toNat : Int), .agg #[.int .i64 (l.ext : Int), .int .i64 (l.fields : Int), .int .i64 (l.bytes : Int)]] W fun e w' => Below W.heap.size W w' ∧ ∃ (p2 : Option Addr) (n2 c2 : Nat) (p3 : Option Addr) (n3 c3 : Nat), e = .returned (.tuple #[.agg #[.int .i64 (s2.place : Int), .int .u64 (s2.n : Int), .int .i64 (s2.count : Int), .int .i64 (s2.lines : Int), .int .i64 (s2.size : Int), .string (arr s2.text), .slice p2 n2 c2, .slice p3 n3 c3], .int .i64 0]) ∧ RD w' (.slice p2 n2 c2) s2.data ∧ FS w' (.slice p3 n3 c3) s2.fields ∧ (Value.slice p3 n3 c3 = .slice pg ng cg ∨ ∀ g, (Value.slice p3 n3 c3).ownBlock = some g → wr.heap.size ≤ g)) := Lib.hid fun W hW => (HS.out W hW).mono fun e w' ⟨q1, _, q2⟩ => by
        obtain ⟨dv2, gv2, rfl, q3, q4, q6⟩ := q2 he
        rw [hs2] at q3 q4
        have q5 := q3
        obtain ⟨p2, c2, e2, -⟩ := q3
        subst e2
        obtain ⟨p3, c3, e3, -⟩ := RS.slice q4
        subst e3
        refine ⟨q1, p2, _, c2, p3, _, c3, by rw [hs2]; rfl, q5, q4, q6.imp id fun h g hg => Nat.le_trans hW.size (h g hg)⟩
      clear he HS
      have HS := HS0
      clear HS0
      by_cases h11 : s2.place = 11
      · have hp11 : ((s2.place : Nat) : Int) = 11 := by omega
        rw [hp11] at HS
        have hwk : IntKind.i64.wrap ((k : Int) + 1) = ((k + 1 : Nat) : Int) := by rw [IntWalk.i64_in _ (by omega)]; omega
        go_wp2_with fail
        go_region_held3 (fun W => W.cell? ⟨w.heap.size + 1 + 1, 0, none⟩ = some (.int .i64 (s.place : Int)) ∧ W.cell? ⟨w.heap.size + 1 + 1, 1, none⟩ = some (.int .u64 (s.n : Int)) ∧ W.cell? ⟨w.heap.size + 1 + 1, 2, none⟩ = some (.int .i64 (s.count : Int)) ∧ W.cell? ⟨w.heap.size + 1 + 1, 3, none⟩ = some (.int .i64 (s.lines : Int)) ∧ W.cell? ⟨w.heap.size + 1 + 1, 4, none⟩ = some (.int .i64 (s.size : Int)) ∧ W.cell? ⟨w.heap.size + 1 + 1, 5, none⟩ = some (.string (arr s.text)) ∧ W.cell? ⟨w.heap.size + 1 + 1, 6, none⟩ = some (.slice pd nd cd) ∧ W.cell? ⟨w.heap.size + 1 + 1, 7, none⟩ = some (.slice pg ng cg) ∧ W.cell? ⟨w.heap.size, 0, none⟩ = some (.int .i64 (l.ext : Int)) ∧ W.cell? ⟨w.heap.size, 1, none⟩ = some (.int .i64 (l.fields : Int)) ∧ W.cell? ⟨w.heap.size, 2, none⟩ = some (.int .i64 (l.bytes : Int)) ∧ W.cell? (ad.add k) = some (.int .u8 (b.toNat : Int)))
        ((refine KS.out _ ?_; repeat (first | with_reducible exact BA.out | with_reducible exact below_refl8 wr | with_reducible refine drew_of8 ?_ | with_reducible refine set_below8 ?_ _ _ | with_reducible refine alloc_below8 ?_ _)))
          (first
          | (go_at_call 46; refine Calls.mono (HS.out _ (drew_below8 wr)) ?_; rintro e w2 ⟨hb2, p2, n2, c2, p3, n3, c3, rfl, hD2, hF2, hG2⟩; have G2 := Lib.hid hG2; clear hG2; have D2 := Lib.hid hD2; have F2 := Lib.hid hF2; have BA := Lib.hid (ahead (drew_below8 wr) hb2); clear hb2 hD2 hF2)
          | (go_at_call 46; refine Calls.mono (HS.out _ (drew_of8 (alloc_below8 (below_refl8 wr) _))) ?_; rintro e w2 ⟨hb2, p2, n2, c2, p3, n3, c3, rfl, hD2, hF2, hG2⟩; have G2 := Lib.hid hG2; clear hG2; have D2 := Lib.hid hD2; have F2 := Lib.hid hF2; have BA := Lib.hid (ahead (drew_of8 (alloc_below8 (below_refl8 wr) _)) hb2); have hX := (hb2.block wr.heap.size (by simp)).trans (World.alloc_heap_new wr _); have HX := Lib.hid hX; obtain ⟨⟨z0, z1, z2, z3, z4, z5, z6, z7⟩, fz⟩ := eight_cells hX; clear hb2 hX hD2 hF2))
        · have hM := alloc_below8 BA.out (.cells #[.int .i64 11, .int .u64 (s2.n : Int), .int .i64 (s2.count : Int), .int .i64 (s2.lines : Int), .int .i64 (s2.size : Int), .string (arr s2.text), .slice p2 n2 c2, .slice p3 n3 c3] 75)
          have hXM : (w2.alloc (.cells #[.int .i64 11, .int .u64 (s2.n : Int), .int .i64 (s2.count : Int), .int .i64 (s2.lines : Int), .int .i64 (s2.size : Int), .string (arr s2.text), .slice p2 n2 c2, .slice p3 n3 c3] 75)).heap[w2.heap.size]? = some (.cells #[.int .i64 11, .int .u64 (s2.n : Int), .int .i64 (s2.count : Int), .int .i64 (s2.lines : Int), .int .i64 (s2.size : Int), .string (arr s2.text), .slice p2 n2 c2, .slice p3 n3 c3] 75 (0, 0)) := World.alloc_heap_new w2 _
          have hD : RD (w2.alloc (.cells #[.int .i64 11, .int .u64 (s2.n : Int), .int .i64 (s2.count : Int), .int .i64 (s2.lines : Int), .int .i64 (s2.size : Int), .string (arr s2.text), .slice p2 n2 c2, .slice p3 n3 c3] 75)) (.slice p2 n2 c2) s2.data := D2.out.below (below_box w2 _)
          have hF : FS (w2.alloc (.cells #[.int .i64 11, .int .u64 (s2.n : Int), .int .i64 (s2.count : Int), .int .i64 (s2.lines : Int), .int .i64 (s2.size : Int), .string (arr s2.text), .slice p2 n2 c2, .slice p3 n3 c3] 75)) (.slice p3 n3 c3) s2.fields := F2.out.below (below_box w2 _)
          generalize w2.alloc (.cells #[.int .i64 11, .int .u64 (s2.n : Int), .int .i64 (s2.count : Int), .int .i64 (s2.lines : Int), .int .i64 (s2.size : Int), .string (arr s2.text), .slice p2 n2 c2, .slice p3 n3 c3] 75) = M at hM hXM hD hF ⊢
          obtain ⟨⟨x0, x1, x2, x3, x4, x5, x6, x7⟩, fx⟩ := eight_cells hXM
          obtain ⟨⟨y0, y1, y2, y3, y4, y5, y6, y7⟩, fy⟩ := eight_cells ((hM.block _ hge).trans HL.out.st)
          have HQM := Lib.hid (last11 hp11 (RScanF.last HL.out hM HB.out HE0.out hs2 h11 hD hF G2.out (.int .i64 11) (.int .u64 (s2.n : Int)) (.int .i64 (s2.count : Int)) (.int .i64 (s2.lines : Int)) (.int .i64 (s2.size : Int)) (.string (arr s2.text)) (.slice p2 n2 c2) (.slice p3 n3 c3)))
          have hgt := (over8_other M (w.heap.size + 2) (.int .i64 11) (.int .u64 (s2.n : Int)) (.int .i64 (s2.count : Int)) (.int .i64 (s2.lines : Int)) (.int .i64 (s2.size : Int)) (.string (arr s2.text)) (.slice p2 n2 c2) (.slice p3 n3 c3) (g := w.heap.size + 1) (by omega)).trans ((hM.block (w.heap.size + 1) (by omega)).trans HL.out.got)
          have hst := over8_row ((hM.block _ hge).trans HL.out.st) (.int .i64 11) (.int .u64 (s2.n : Int)) (.int .i64 (s2.count : Int)) (.int .i64 (s2.lines : Int)) (.int .i64 (s2.size : Int)) (.string (arr s2.text)) (.slice p2 n2 c2) (.slice p3 n3 c3)
          clear hM hD hF hXM KS HS HL BA D2 F2 hs2 h11 hp11
          go_upto_region 9 with fail
          unfold over8 at HQM hgt hst
          generalize ((((((((M.setCell ⟨w.heap.size + 1 + 1, 0, none⟩ (.int .i64 11)).setCell ⟨w.heap.size + 1 + 1, 1, none⟩ (.int .u64 (s2.n : Int))).setCell ⟨w.heap.size + 1 + 1, 2, none⟩ (.int .i64 (s2.count : Int))).setCell ⟨w.heap.size + 1 + 1, 3, none⟩ (.int .i64 (s2.lines : Int))).setCell ⟨w.heap.size + 1 + 1, 4, none⟩ (.int .i64 (s2.size : Int))).setCell ⟨w.heap.size + 1 + 1, 5, none⟩ (.string (arr s2.text))).setCell ⟨w.heap.size + 1 + 1, 6, none⟩ (.slice p2 n2 c2)).setCell ⟨w.heap.size + 1 + 1, 7, none⟩ (.slice p3 n3 c3)) = M2 at HQM hgt hst ⊢
          clear x0 x1 x2 x3 x4 x5 x6 x7 fx y0 y1 y2 y3 y4 y5 y6 y7 fy
          obtain ⟨⟨y0, y1, y2, y3, y4, y5, y6, y7⟩, fy⟩ := eight_cells hst
          obtain ⟨⟨g0, g1, g2, g3, g4, g5, g6, g7, g8, g9⟩, fg⟩ := ten_cells hgt
          have hrow := Lib.hid (over10_row hgt (.int .i64 11) (.int .u64 (s2.n : Int)) (.int .i64 (s2.count : Int)) (.int .i64 (s2.lines : Int)) (.int .i64 (s2.size : Int)) (.string (arr s2.text)) (.slice p2 n2 c2) (.slice p3 n3 c3) (.int .i64 ((k + 1 : Nat) : Int)) (.int .i64 0))
          clear hgt hst
          go_wp2_with fail
          refine bodyPost_ret (results_row1 rfl _ _ (w.heap.size + 1) 77 _ (0, 0) _ rfl hrow.out Tryz.underlying77 rfl (by kernel_rfl)) rfl ?_
          exact HQM.out
        · have hM : Below wr.heap.size wr (over8 w2 wr.heap.size (.int .i64 11) (.int .u64 (s2.n : Int)) (.int .i64 (s2.count : Int)) (.int .i64 (s2.lines : Int)) (.int .i64 (s2.size : Int)) (.string (arr s2.text)) (.slice p2 n2 c2) (.slice p3 n3 c3)) := over8_below BA.out (Nat.le_refl _) _ _ _ _ _ _ _ _
          have hXM := over8_row HX.out (.int .i64 11) (.int .u64 (s2.n : Int)) (.int .i64 (s2.count : Int)) (.int .i64 (s2.lines : Int)) (.int .i64 (s2.size : Int)) (.string (arr s2.text)) (.slice p2 n2 c2) (.slice p3 n3 c3)
          have hD := rd_apart D2.out HX.out (st8_u8 _ _ _ _ _ _ _ _ _ _ _ _) (fun g hg => over8_other w2 wr.heap.size (.int .i64 11) (.int .u64 (s2.n : Int)) (.int .i64 (s2.count : Int)) (.int .i64 (s2.lines : Int)) (.int .i64 (s2.size : Int)) (.string (arr s2.text)) (.slice p2 n2 c2) (.slice p3 n3 c3) hg)
          have hF := fs_apart F2.out HX.out (st8_two _ _ _ _ _ _ _ _ _ _ _ _) (fun g hg => over8_other w2 wr.heap.size (.int .i64 11) (.int .u64 (s2.n : Int)) (.int .i64 (s2.count : Int)) (.int .i64 (s2.lines : Int)) (.int .i64 (s2.size : Int)) (.string (arr s2.text)) (.slice p2 n2 c2) (.slice p3 n3 c3) hg)
          clear HX
          unfold over8 at hM hXM hD hF
          generalize ((((((((w2.setCell ⟨wr.heap.size, 0, none⟩ (.int .i64 11)).setCell ⟨wr.heap.size, 1, none⟩ (.int .u64 (s2.n : Int))).setCell ⟨wr.heap.size, 2, none⟩ (.int .i64 (s2.count : Int))).setCell ⟨wr.heap.size, 3, none⟩ (.int .i64 (s2.lines : Int))).setCell ⟨wr.heap.size, 4, none⟩ (.int .i64 (s2.size : Int))).setCell ⟨wr.heap.size, 5, none⟩ (.string (arr s2.text))).setCell ⟨wr.heap.size, 6, none⟩ (.slice p2 n2 c2)).setCell ⟨wr.heap.size, 7, none⟩ (.slice p3 n3 c3)) = M at hM hXM hD hF ⊢
          obtain ⟨⟨x0, x1, x2, x3, x4, x5, x6, x7⟩, fx⟩ := eight_cells hXM
          obtain ⟨⟨y0, y1, y2, y3, y4, y5, y6, y7⟩, fy⟩ := eight_cells ((hM.block _ hge).trans HL.out.st)
          have HQM := Lib.hid (last11 hp11 (RScanF.last HL.out hM HB.out HE0.out hs2 h11 hD hF G2.out (.int .i64 11) (.int .u64 (s2.n : Int)) (.int .i64 (s2.count : Int)) (.int .i64 (s2.lines : Int)) (.int .i64 (s2.size : Int)) (.string (arr s2.text)) (.slice p2 n2 c2) (.slice p3 n3 c3)))
          have hgt := (over8_other M (w.heap.size + 2) (.int .i64 11) (.int .u64 (s2.n : Int)) (.int .i64 (s2.count : Int)) (.int .i64 (s2.lines : Int)) (.int .i64 (s2.size : Int)) (.string (arr s2.text)) (.slice p2 n2 c2) (.slice p3 n3 c3) (g := w.heap.size + 1) (by omega)).trans ((hM.block (w.heap.size + 1) (by omega)).trans HL.out.got)
          have hst := over8_row ((hM.block _ hge).trans HL.out.st) (.int .i64 11) (.int .u64 (s2.n : Int)) (.int .i64 (s2.count : Int)) (.int .i64 (s2.lines : Int)) (.int .i64 (s2.size : Int)) (.string (arr s2.text)) (.slice p2 n2 c2) (.slice p3 n3 c3)
          clear hM hD hF hXM KS HS HL BA D2 F2 hs2 h11 hp11
          go_upto_region 9 with fail
          unfold over8 at HQM hgt hst
          generalize ((((((((M.setCell ⟨w.heap.size + 1 + 1, 0, none⟩ (.int .i64 11)).setCell ⟨w.heap.size + 1 + 1, 1, none⟩ (.int .u64 (s2.n : Int))).setCell ⟨w.heap.size + 1 + 1, 2, none⟩ (.int .i64 (s2.count : Int))).setCell ⟨w.heap.size + 1 + 1, 3, none⟩ (.int .i64 (s2.lines : Int))).setCell ⟨w.heap.size + 1 + 1, 4, none⟩ (.int .i64 (s2.size : Int))).setCell ⟨w.heap.size + 1 + 1, 5, none⟩ (.string (arr s2.text))).setCell ⟨w.heap.size + 1 + 1, 6, none⟩ (.slice p2 n2 c2)).setCell ⟨w.heap.size + 1 + 1, 7, none⟩ (.slice p3 n3 c3)) = M2 at HQM hgt hst ⊢
          clear x0 x1 x2 x3 x4 x5 x6 x7 fx y0 y1 y2 y3 y4 y5 y6 y7 fy
          obtain ⟨⟨y0, y1, y2, y3, y4, y5, y6, y7⟩, fy⟩ := eight_cells hst
          obtain ⟨⟨g0, g1, g2, g3, g4, g5, g6, g7, g8, g9⟩, fg⟩ := ten_cells hgt
          have hrow := Lib.hid (over10_row hgt (.int .i64 11) (.int .u64 (s2.n : Int)) (.int .i64 (s2.count : Int)) (.int .i64 (s2.lines : Int)) (.int .i64 (s2.size : Int)) (.string (arr s2.text)) (.slice p2 n2 c2) (.slice p3 n3 c3) (.int .i64 ((k + 1 : Nat) : Int)) (.int .i64 0))
          clear hgt hst
          go_wp2_with fail
          refine bodyPost_ret (results_row1 rfl _ _ (w.heap.size + 1) 77 _ (0, 0) _ rfl hrow.out Tryz.underlying77 rfl (by kernel_rfl)) rfl ?_
          exact HQM.out
      · have h11' : ((s2.place : Int) == 11) = false := by rw [beq_eq_false_iff_ne]; omega
        have hwk : IntKind.i64.wrap ((k : Int) + 1) = ((k + 1 : Nat) : Int) := by rw [IntWalk.i64_in _ (by omega)]; omega
        go_wp2_with fail
        go_region_held3 (fun W => W.cell? ⟨w.heap.size + 1 + 1, 0, none⟩ = some (.int .i64 (s.place : Int)) ∧ W.cell? ⟨w.heap.size + 1 + 1, 1, none⟩ = some (.int .u64 (s.n : Int)) ∧ W.cell? ⟨w.heap.size + 1 + 1, 2, none⟩ = some (.int .i64 (s.count : Int)) ∧ W.cell? ⟨w.heap.size + 1 + 1, 3, none⟩ = some (.int .i64 (s.lines : Int)) ∧ W.cell? ⟨w.heap.size + 1 + 1, 4, none⟩ = some (.int .i64 (s.size : Int)) ∧ W.cell? ⟨w.heap.size + 1 + 1, 5, none⟩ = some (.string (arr s.text)) ∧ W.cell? ⟨w.heap.size + 1 + 1, 6, none⟩ = some (.slice pd nd cd) ∧ W.cell? ⟨w.heap.size + 1 + 1, 7, none⟩ = some (.slice pg ng cg) ∧ W.cell? ⟨w.heap.size, 0, none⟩ = some (.int .i64 (l.ext : Int)) ∧ W.cell? ⟨w.heap.size, 1, none⟩ = some (.int .i64 (l.fields : Int)) ∧ W.cell? ⟨w.heap.size, 2, none⟩ = some (.int .i64 (l.bytes : Int)) ∧ W.cell? (ad.add k) = some (.int .u8 (b.toNat : Int)))
        ((refine KS.out _ ?_; repeat (first | with_reducible exact BA.out | with_reducible exact below_refl8 wr | with_reducible refine drew_of8 ?_ | with_reducible refine set_below8 ?_ _ _ | with_reducible refine alloc_below8 ?_ _)))
          (first
          | (go_at_call 46; refine Calls.mono (HS.out _ (drew_below8 wr)) ?_; rintro e w2 ⟨hb2, p2, n2, c2, p3, n3, c3, rfl, hD2, hF2, hG2⟩; have G2 := Lib.hid hG2; clear hG2; have D2 := Lib.hid hD2; have F2 := Lib.hid hF2; have BA := Lib.hid (ahead (drew_below8 wr) hb2); clear hb2 hD2 hF2)
          | (go_at_call 46; refine Calls.mono (HS.out _ (drew_of8 (alloc_below8 (below_refl8 wr) _))) ?_; rintro e w2 ⟨hb2, p2, n2, c2, p3, n3, c3, rfl, hD2, hF2, hG2⟩; have G2 := Lib.hid hG2; clear hG2; have D2 := Lib.hid hD2; have F2 := Lib.hid hF2; have BA := Lib.hid (ahead (drew_of8 (alloc_below8 (below_refl8 wr) _)) hb2); have hX := (hb2.block wr.heap.size (by simp)).trans (World.alloc_heap_new wr _); have HX := Lib.hid hX; obtain ⟨⟨z0, z1, z2, z3, z4, z5, z6, z7⟩, fz⟩ := eight_cells hX; clear hb2 hX hD2 hF2))
        · have hM := alloc_below8 BA.out (.cells #[.int .i64 (s2.place : Int), .int .u64 (s2.n : Int), .int .i64 (s2.count : Int), .int .i64 (s2.lines : Int), .int .i64 (s2.size : Int), .string (arr s2.text), .slice p2 n2 c2, .slice p3 n3 c3] 75)
          have hXM : (w2.alloc (.cells #[.int .i64 (s2.place : Int), .int .u64 (s2.n : Int), .int .i64 (s2.count : Int), .int .i64 (s2.lines : Int), .int .i64 (s2.size : Int), .string (arr s2.text), .slice p2 n2 c2, .slice p3 n3 c3] 75)).heap[w2.heap.size]? = some (.cells #[.int .i64 (s2.place : Int), .int .u64 (s2.n : Int), .int .i64 (s2.count : Int), .int .i64 (s2.lines : Int), .int .i64 (s2.size : Int), .string (arr s2.text), .slice p2 n2 c2, .slice p3 n3 c3] 75 (0, 0)) := World.alloc_heap_new w2 _
          have hD : RD (w2.alloc (.cells #[.int .i64 (s2.place : Int), .int .u64 (s2.n : Int), .int .i64 (s2.count : Int), .int .i64 (s2.lines : Int), .int .i64 (s2.size : Int), .string (arr s2.text), .slice p2 n2 c2, .slice p3 n3 c3] 75)) (.slice p2 n2 c2) s2.data := D2.out.below (below_box w2 _)
          have hF : FS (w2.alloc (.cells #[.int .i64 (s2.place : Int), .int .u64 (s2.n : Int), .int .i64 (s2.count : Int), .int .i64 (s2.lines : Int), .int .i64 (s2.size : Int), .string (arr s2.text), .slice p2 n2 c2, .slice p3 n3 c3] 75)) (.slice p3 n3 c3) s2.fields := F2.out.below (below_box w2 _)
          generalize w2.alloc (.cells #[.int .i64 (s2.place : Int), .int .u64 (s2.n : Int), .int .i64 (s2.count : Int), .int .i64 (s2.lines : Int), .int .i64 (s2.size : Int), .string (arr s2.text), .slice p2 n2 c2, .slice p3 n3 c3] 75) = M at hM hXM hD hF ⊢
          obtain ⟨⟨x0, x1, x2, x3, x4, x5, x6, x7⟩, fx⟩ := eight_cells hXM
          obtain ⟨⟨y0, y1, y2, y3, y4, y5, y6, y7⟩, fy⟩ := eight_cells ((hM.block _ hge).trans HL.out.st)
          have HLN := Lib.hid (HL.out.next hM HB.out HE0.out hs2 h11 hlm.1 hD hF G2.out)
          clear hM hD hF hXM KS HS HL BA D2 F2 hs2 h11
          go_wp2_with fail
          go_roundw
          case rel => exact ⟨k + 1, s2, p2, n2, c2, p3, n3, c3, rfl, HLN.out, by omega⟩
          case measure => simp only [intOf]; omega
        · have hM : Below wr.heap.size wr (over8 w2 wr.heap.size (.int .i64 (s2.place : Int)) (.int .u64 (s2.n : Int)) (.int .i64 (s2.count : Int)) (.int .i64 (s2.lines : Int)) (.int .i64 (s2.size : Int)) (.string (arr s2.text)) (.slice p2 n2 c2) (.slice p3 n3 c3)) := over8_below BA.out (Nat.le_refl _) _ _ _ _ _ _ _ _
          have hXM := over8_row HX.out (.int .i64 (s2.place : Int)) (.int .u64 (s2.n : Int)) (.int .i64 (s2.count : Int)) (.int .i64 (s2.lines : Int)) (.int .i64 (s2.size : Int)) (.string (arr s2.text)) (.slice p2 n2 c2) (.slice p3 n3 c3)
          have hD := rd_apart D2.out HX.out (st8_u8 _ _ _ _ _ _ _ _ _ _ _ _) (fun g hg => over8_other w2 wr.heap.size (.int .i64 (s2.place : Int)) (.int .u64 (s2.n : Int)) (.int .i64 (s2.count : Int)) (.int .i64 (s2.lines : Int)) (.int .i64 (s2.size : Int)) (.string (arr s2.text)) (.slice p2 n2 c2) (.slice p3 n3 c3) hg)
          have hF := fs_apart F2.out HX.out (st8_two _ _ _ _ _ _ _ _ _ _ _ _) (fun g hg => over8_other w2 wr.heap.size (.int .i64 (s2.place : Int)) (.int .u64 (s2.n : Int)) (.int .i64 (s2.count : Int)) (.int .i64 (s2.lines : Int)) (.int .i64 (s2.size : Int)) (.string (arr s2.text)) (.slice p2 n2 c2) (.slice p3 n3 c3) hg)
          clear HX
          unfold over8 at hM hXM hD hF
          generalize ((((((((w2.setCell ⟨wr.heap.size, 0, none⟩ (.int .i64 (s2.place : Int))).setCell ⟨wr.heap.size, 1, none⟩ (.int .u64 (s2.n : Int))).setCell ⟨wr.heap.size, 2, none⟩ (.int .i64 (s2.count : Int))).setCell ⟨wr.heap.size, 3, none⟩ (.int .i64 (s2.lines : Int))).setCell ⟨wr.heap.size, 4, none⟩ (.int .i64 (s2.size : Int))).setCell ⟨wr.heap.size, 5, none⟩ (.string (arr s2.text))).setCell ⟨wr.heap.size, 6, none⟩ (.slice p2 n2 c2)).setCell ⟨wr.heap.size, 7, none⟩ (.slice p3 n3 c3)) = M at hM hXM hD hF ⊢
          obtain ⟨⟨x0, x1, x2, x3, x4, x5, x6, x7⟩, fx⟩ := eight_cells hXM
          obtain ⟨⟨y0, y1, y2, y3, y4, y5, y6, y7⟩, fy⟩ := eight_cells ((hM.block _ hge).trans HL.out.st)
          have HLN := Lib.hid (HL.out.next hM HB.out HE0.out hs2 h11 hlm.1 hD hF G2.out)
          clear hM hD hF hXM KS HS HL BA D2 F2 hs2 h11
          go_wp2_with fail
          go_roundw
          case rel => exact ⟨k + 1, s2, p2, n2, c2, p3, n3, c3, rfl, HLN.out, by omega⟩
          case measure => simp only [intOf]; omega

theorem rscan8_any {tv : Value} {T : List UInt8} {l : Lim} (w : World) (hT : RD w tv T) (hl : T.length ≤ 60000) (hlm : l.ext ≤ 65536 ∧ l.fields ≤ 65536 ∧ l.bytes ≤ 65536) :
    Calls Tryz.prog 36 #[tv, limv l] w fun x w' => RScanQ T l w x w' :=
  (rscanF_any w hT hl hlm).mono fun _ _ ⟨s, k, e, dv, gv, h1, h2, h3, h4, h5, _⟩ => ⟨s, k, e, dv, gv, h1, h2, h3, h4, h5⟩

end Go.Proofs.YtilebfpaibajcaaGreatDoor
