/- What the document's Put answers of a chunked intake that goes on. -/
import Derived.Test.YtjkccacpffikbaaGreatDoorIntRefPut
import Derived.Deep.RegionHeld3
namespace Go.Proofs.YtjkccacpffikbaaGreatDoor
open Go.ChangeShapes Go.WideShapes Go.ChangeAt Go.RowKit
open Oc Fl Bk Bd Dk Ik
set_option linter.unusedVariables false
set_option maxRecDepth 100000

section
variable {r : Rf} {p : Option Addr} {c : Nat} {w : World} {b : List UInt8}
/-- What Scan tells, as it is made. -/
abbrev gz12 : Array Value := #[.int .i64 0, .int .u64 0, .int .i64 0, .int .i64 0, .int .i64 0, .string ⟨#[]⟩, .slice none 0 0, .slice none 0 0, .int .i64 0, .int .i64 0]

theorem rcs_u8 (a0 a1 a2 a3 a4 a7 a8 : Int) (a6 : Bool) (p5 : Option Addr) (n5 c5 : Nat) (i : Nat) (b : Int) : (#[.int .i64 a0, .int .u64 a1, .int .i64 a2, .int .i64 a3, .int .i64 a4, .slice p5 n5 c5, .bool a6, .int .i64 a7, .int .i64 a8] : Array Value)[i]? ≠ some (.int .u8 b) := by
  match i with
  | 0 => simp
  | 1 => simp
  | 2 => simp
  | 3 => simp
  | 4 => simp
  | 5 => simp
  | 6 => simp
  | 7 => simp
  | 8 => simp
  | i + 9 => simp
theorem tz_u8 (i : Nat) (b : Int) : tz12[i]? ≠ some (.int .u8 b) := by
  match i with
  | 0 => simp
  | 1 => simp
  | 2 => simp
  | 3 => simp
  | 4 => simp
  | 5 => simp
  | 6 => simp
  | 7 => simp
  | 8 => simp
  | 9 => simp
  | 10 => simp
  | 11 => simp
  | i + 12 => simp
theorem two_sets12 {W : World} {R : Nat} {x0 x1 x2 x3 x4 x5 x6 x7 x8 u v : Value} {t : TypeId} (h : W.heap[R]? = some (.cells #[x0, x1, x2, x3, x4, x5, x6, x7, x8] t (0, 0))) :
    ((W.setCell ⟨R, 5, none⟩ u).setCell ⟨R, 8, none⟩ v).heap[R]? = some (.cells #[x0, x1, x2, x3, x4, u, x6, x7, v] t (0, 0)) := heap_set (i := 8) v (heap_set (i := 5) u h)
theorem set_of12 {A W : World} {R : Nat} (hz : A.heap.size ≤ R) (h : Below A.heap.size A W) (i : Nat) (v : Value) : Below A.heap.size A (W.setCell ⟨R, i, none⟩ v) := h.setCell hz v
theorem three_lims {W : World} {R : Nat} {x0 x1 x2 x3 x4 x5 x6 x7 x8 : Value} {t : TypeId} (h : W.heap[R]? = some (.cells #[x0, x1, x2, x3, x4, x5, x6, x7, x8] t (0, 0))) : W.cell? ⟨R, 2, none⟩ = some x2 ∧ W.cell? ⟨R, 3, none⟩ = some x3 ∧ W.cell? ⟨R, 4, none⟩ = some x4 := by simp [World.cell?, h]

set_option maxHeartbeats 16000000 in
theorem rput_chunk (hA : RD w (.slice p r.A.length c) r.A) (hr : ROk r) (he : r.e = 0) (hk2 : r.kind = 2) (h4 : (scan r).2.2 = 4) (hg : r.g = (scan r).1.data.length) {q : Option Addr} {k : Nat} (hb : RD w (.slice q b.length k) b) (hbl : b.length ≤ 1000) :
    Calls Tryz.prog 12 #[.agg (rcs r p r.A.length c), .slice q b.length k] w fun x w' => PutR r p c b w x w' := by
  obtain ⟨w0, hw0, b0, z0, l0, l1⟩ := boxes_told w r p r.A.length c
  obtain ⟨⟨y0, y1, y2, y3, y4, y5, y6, y7, y8⟩, fy⟩ := nine_cells l0
  have KC : Hid (∀ W, Below w0.heap.size w0 W → _) := Lib.hid fun W h => (h.block w.heap.size (by omega)).trans l0
  have KT : Hid (∀ W, Below w0.heap.size w0 W → _) := Lib.hid fun W h => (h.block (w.heap.size + 1) (by omega)).trans l1
  have W0 := Lib.hid hw0
  have B0 := Lib.hid b0
  have HD := Lib.hid (rdone12_any (hA.below b0) hr)
  have hs : rstop r = false := by
    rw [rstop_z he]
    unfold rdone
    rw [if_neg (by omega), if_pos hk2, decide_eq_false (show ¬ (scan r).2.2 = 0 by omega), decide_eq_true he]
    rfl
  rw [← rstop_z he, hs] at HD
  have hz : (r.e : Int) = 0 := by omega
  have hbk1 : ((r.kind : Int) == 1) = false := by rw [hk2]; rfl
  have hbk2 : ((r.kind : Int) != 2) = false := by rw [hk2]; rfl
  obtain ⟨y, hy⟩ : ∃ y, cont r.l (scan r) b = y := ⟨_, rfl⟩
  have hgo : go r.l (sz [] 0 0) (r.A ++ b) 0 = y := by rw [← cont_go, cont_app, ← hy]; rfl
  have hAl : r.A.length = (scan r).2.1 := by
    rw [scan_go] at h4 ⊢
    have := (go_at r.l (sz [] 0 0) r.A 0).2.2 h4
    omega
  have hnum := cont_num (l := r.l) (T := b) h4
  rw [hy] at hnum
  have hgd : r.g ≤ y.1.data.length := by
    obtain ⟨d, hd⟩ : ∃ d, y.1.data = (scan r).1.data ++ d := by
      rw [← hy]
      generalize scan r = x at h4 ⊢
      obtain ⟨s, i, e⟩ := x
      simp only at h4
      subst h4
      rw [cont_go]
      exact go_data _ _ _ _
    rw [hd, hg, List.length_append]
    omega
  obtain ⟨h1, h2, h3, h4', h5, h6⟩ := hr
  have HA := Lib.hid hA
  have HB := Lib.hid hb
  unfold rcs at W0 HD KC ⊢
  unfold tz12 at W0
  rw [hz] at W0 HD KC y7 ⊢
  have hne : ((0 : Int) != 0) = false := rfl
  have R12 : Hid (∀ w1, Below w0.heap.size w0 w1 → ∃ va w2, (Builtin.append_ #[29, 29] 29 #[.slice none 0 0, .slice p r.A.length c]).run Tryz.prog w1 = .ok va w2 ∧ w2.ownsRow w0.heap.size 5 1 va r.A.length (bv r.A) ∧ Below w0.heap.size w0 w2) := Lib.hid fun w1 hb1 => by
    obtain ⟨v1, w2, r0, o1, b2⟩ := own_nil12 w1 w0.heap.size hb1.size (HA.out.below (ahead B0.out hb1)) (by omega)
    exact ⟨v1, w2, r0, o1, ahead hb1 b2⟩
  have hbk : b.length ≤ k := by obtain ⟨_, _, e, h1, _⟩ := hb; cases e; exact h1
  obtain ⟨n, hn⟩ : ∃ n, y.2.1 - r.A.length = n := ⟨_, rfl⟩
  have hnb : n ≤ b.length := by omega
  have hml : (b.take n).length = n := by simp; omega
  have hwn : IntKind.i64.wrap ((y.2.1 : Int) - (r.A.length : Int)) = (n : Int) := by rw [IntWalk.i64_in _ (by omega)]; omega
  obtain ⟨uv, huv⟩ : ∃ uv, sliced q 0 n k 1 = uv := ⟨_, rfl⟩
  have hcut : ∀ W, (Instr.slice 29 (.slice q b.length k) none (some (.int .i64 (n : Int))) none).run Tryz.prog W = .ok uv W := fun W => huv ▸ cut_h q b.length k n (by omega) W
  have hu := hb.part (i := 0) (j := n) (m := k) (by omega) hnb (by omega) (Nat.le_refl _)
  rw [huv, List.drop_zero] at hu
  obtain ⟨pu, cu, huu, -⟩ := id hu
  rw [hml] at huu
  subst huu
  have HU := Lib.hid hu
  obtain ⟨nd, hnd⟩ : ∃ nd, y.1.data.length = nd := ⟨_, rfl⟩
  obtain ⟨er, her⟩ : ∃ er, told y.2.2 = er := ⟨_, rfl⟩
  have hgd' : r.g ≤ nd := by omega
  have hstop : ¬ rstop r = true := by rw [hs]; decide
  have e1 : rnext r b = { r with A := r.A ++ b.take n, g := nd, e := er } := by
    have en : rnum r b = n := by unfold rnum; rw [if_neg hstop, if_neg (by omega), if_pos hk2, hy, hn]
    unfold rnext; rw [if_neg hstop, if_pos hk2, if_pos hk2, en, hy, hnd, her]
  have e2 : rnum r b = n := by unfold rnum; rw [if_neg hstop, if_neg (by omega), if_pos hk2, hy, hn]
  have e3 : rdata r b = y.1.data.drop r.g := by unfold rdata; rw [if_neg hstop, if_pos hk2, hy]
  have e4 : rerr r b = er := by unfold rerr; rw [if_neg hstop, if_pos hk2, hy, her]
  -- behind the document's reading
  have HEND : Hid (∀ w9, Below w0.heap.size w0 w9 → ∀ pd cd, RD w9 (.slice pd nd cd) y.1.data → ∃ px nx cx vb w10 p2 n2 c2 w11, (∀ W, (Instr.slice 29 (.slice pd nd cd) (some (.int .i64 (r.g : Int))) none none).run Tryz.prog W = .ok (.slice px nx cx) W) ∧
      (Builtin.append_ #[29, 29] 29 #[.slice none 0 0, .slice p r.A.length c]).run Tryz.prog w9 = .ok vb w10 ∧
      (Builtin.append_ #[29, 29] 29 #[vb, .slice pu n cu]).run Tryz.prog w10 = .ok (.slice p2 n2 c2) w11 ∧ Below w9.heap.size w9 w10 ∧ Below w9.heap.size w9 w11 ∧
      ∀ W5 F : World, (∀ g, g ≠ w.heap.size → W5.heap[g]? = w11.heap[g]?) → W5.heap[w.heap.size + 1]? = some (.cells tz12 41 (0, 0)) → (∀ g, g ≠ w.heap.size + 1 → F.heap[g]? = W5.heap[g]?) → Below w.heap.size w F →
        PutR r p c b w (.returned (.agg #[.int .i64 (r.kind : Int), .int .u64 (r.size : Int), .int .i64 (r.l.ext : Int), .int .i64 (r.l.fields : Int), .int .i64 (r.l.bytes : Int), .slice p2 n2 c2, .bool r.closed, .int .i64 (er : Int), .int .i64 (nd : Int), .slice px nx cx, .int .i64 (n : Int), .int .i64 (er : Int)])) F) := Lib.hid fun w9 hb9 pd cd hD => by
    have bw := ahead B0.out hb9
    have hz9 := hb9.size
    obtain ⟨vb, w10, r0, o1, b10⟩ := own_nil12 w9 w9.heap.size (Nat.le_refl _) (HA.out.below bw) (by omega)
    obtain ⟨v2, w11, s0, o2, g2⟩ := run_append_rd w10 29 w9.heap.size vb (.slice pu n cu) _ r.A (b.take n) o1 (HU.out.below (ahead bw b10)) (by rw [hml]; omega) b10.size
    have b11 : Below w9.heap.size w9 w11 := b10.grown g2 b10.size (fun g hg => (o1.lt g hg).1)
    have hrd := RD.of_own o2
    obtain ⟨p2, c2, rfl, -⟩ := id hrd
    have hcd : nd ≤ cd := by obtain ⟨_, _, e, h1, _⟩ := hD; cases e; omega
    have hx := hD.part (i := r.g) (j := nd) (m := cd) hgd' (by omega) hcd (Nat.le_refl _)
    rw [← hnd, List.take_length, hnd] at hx
    obtain ⟨px, cx, hxx, -⟩ := id hx
    refine ⟨px, _, cx, vb, w10, p2, _, c2, w11, fun W => by rw [← hxx]; exact cut_l pd nd cd r.g hgd' W, r0, s0, b10, b11, fun W5 F h5 hT hF hB => ?_⟩
    unfold PutR
    rw [e1, e2, e3, e4]
    have hC11 := KC.out w11 (ahead hb9 b11)
    refine ⟨p2, c2, px, cx, rfl, ?_, ?_, hB, fun g hg => .inr ?_⟩
    · exact hrd.keep fun _ g hg => by
        have := (o2.lt g hg).1
        exact (hF g (by omega)).trans (h5 g (by omega))
    · rw [← hxx]
      exact rd_apart (rd_apart (hx.below b11) hC11 (rcs_u8 _ _ _ _ _ _ _ _ _ _ _) h5) hT tz_u8 hF
    · have := (o2.lt g hg).1; omega
  have HY := Lib.hid (And.intro hgo (And.intro hnd her))
  clear hw0 b0 l0 l1 hA hb hs he h4 hg hAl hnum hgo hy hk2 hbk hn hml huv hu hnd her hstop e1 e2 e3 e4
  obtain ⟨L, hL⟩ : ∃ L, b.length = L := ⟨_, rfl⟩
  rw [hL] at HB hbl hnb hcut ⊢
  have HL := Lib.hid hL
  clear hL
  go_enter Tryz.func12, Tryz.ntmps12
  go_wp2_with fail
  rw [W0.out]
  refine HD.out.mono ?_
  rintro x w1 ⟨rfl, hb1⟩
  obtain ⟨⟨v0, v1, v2, v3, v4, v5, v6, v7, v8⟩, fv⟩ := nine_cells (KC.out w1 hb1)
  obtain ⟨va, w2, r0, o2, b2⟩ := R12.out w1 hb1
  have R0 := Lib.hid r0
  have O2 := Lib.hid o2
  have B2 := Lib.hid b2
  clear hb1 r0 o2 b2 HD y0 y1 y2 y3 y4 y5 y6 y7 y8 fy
  go_upto_region 8 with (at_builtin; refine wpList_append_run rfl (.tmp 49) (.tmp 51) 29 rfl _ _ _ _ rfl rfl R0.out ?_)
  clear v0 v1 v2 v3 v4 v5 v6 v7 v8 fv
  obtain ⟨⟨v0, v1, v2, v3, v4, v5, v6, v7, v8⟩, fv⟩ := nine_cells (KC.out w2 B2.out)
  go_upto_region 12 with fail
  clear v0 v1 v2 v3 v4 v5 v6 v7 v8 fv
  have hzz := B2.out.size
  have n3le : (r.A ++ b).length ≤ 60000 := by have := HL.out; simp; omega
  obtain ⟨v3, w3, t0, o3, g3⟩ := run_append_rd w2.drew 29 w0.heap.size va (.slice q L k) _ r.A b (own_same O2.out fun _ _ => rfl) (HB.out.below (ahead B0.out B2.out).drew) (by simp at n3le; omega) hzz
  have b3 : Below w0.heap.size w0 w3 := B2.out.drew.grown g3 hzz (fun g hg => (O2.out.lt g hg).1)
  have rd3 := RD.of_own o3
  have bA : Below w2.heap.size w2 (w2.alloc (.cells gz12 75)).drew := (below_box w2 _).drew
  obtain ⟨v4, w4, t1, o4, g4⟩ := run_append_rd (w2.alloc (.cells gz12 75)).drew 29 w0.heap.size va (.slice q L k) _ r.A b (own_same O2.out fun g hg => bA.block g (O2.out.lt g hg).2) (HB.out.below (ahead (ahead B0.out B2.out) bA)) (by simp at n3le; omega) (Nat.le_trans hzz bA.size)
  have b4 : Below w0.heap.size w0 w4 := (ahead B2.out bA).grown g4 (Nat.le_trans hzz bA.size) (fun g hg => (O2.out.lt g hg).1)
  have rd4 := RD.of_own o4
  have G4 : w4.heap[w2.heap.size]? = some (.cells gz12 75 (0, 0)) := (g4.block w2.heap.size (by show w2.heap.size < (w2.alloc (.cells gz12 75)).heap.size; simp) (fun e => by have := (O2.out.lt _ e.symm).2; omega)).trans (World.alloc_heap_new w2 _)
  have hlt4 : w2.heap.size < w4.heap.size := (Array.getElem?_eq_some_iff.1 G4).1
  have HSC0 : Hid (∀ W v, RD W v (r.A ++ b) → _) := Lib.hid fun W v h => rscanF_any W h n3le h3
  obtain ⟨n3, hn3⟩ : ∃ n3, (r.A ++ b).length = n3 := ⟨_, rfl⟩
  obtain ⟨p3, c3, rfl, -⟩ := id rd3
  obtain ⟨p4, c4, rfl, -⟩ := id rd4
  rw [hn3] at t0 t1 rd3 rd4
  rw [limv] at HSC0
  have HSC : Hid (∀ W pv cv, RD W (.slice pv n3 cv) (r.A ++ b) → _) := Lib.hid fun W pv cv h => HSC0.out W _ h
  have RD3 := Lib.hid rd3
  have RD3a := Lib.hid (rd3.below (below_box w3 (.cells gz12 75)))
  have RD4 := Lib.hid rd4
  have T0 := Lib.hid t0
  have T1 := Lib.hid t1
  have K0 := Lib.hid B2.out.drew
  have K1 := Lib.hid (ahead B2.out bA)
  have K3 := Lib.hid b3
  have K3a := Lib.hid (ahead b3 (below_box w3 (.cells gz12 75)))
  have K4 := Lib.hid b4
  have hz3 := b3.size
  have G4' := Lib.hid G4
  have KL : Hid (∀ W, Below w0.heap.size w0 W → _) := Lib.hid fun W h => three_lims (KC.out W h)
  clear t0 o3 g3 b3 rd3 bA t1 o4 g4 b4 rd4 G4 n3le hn3 HSC0
  go_region_held3 (fun W => W.cell? ⟨w.heap.size, 2, none⟩ = some (.int .i64 (r.l.ext : Int)) ∧ W.cell? ⟨w.heap.size, 3, none⟩ = some (.int .i64 (r.l.fields : Int)) ∧ W.cell? ⟨w.heap.size, 4, none⟩ = some (.int .i64 (r.l.bytes : Int)))
    ((refine KL.out _ ?_; repeat (first | with_reducible exact K0.out | with_reducible exact K1.out | with_reducible exact K3.out | with_reducible exact K3a.out | with_reducible exact K4.out | with_reducible exact K7.out | with_reducible refine alloc_below8 ?_ _ | with_reducible refine set_of12 hzz ?_ _ _ | with_reducible refine set_of12 hz3 ?_ _ _)))
    (first
    | (refine step_append_run rfl (.tmp 74) (.tmp 75) 29 rfl va (.slice q L k) (.slice p3 n3 c3) w3 (by simp [Act.eval]) (by simp [Act.eval]) T0.out ?_)
    | (refine step_append_run rfl (.tmp 74) (.tmp 75) 29 rfl va (.slice q L k) (.slice p4 n3 c4) w4 (by simp [Act.eval]) (by simp [Act.eval]) T1.out ?_)
    | (go_at_call 26; refine (HSC.out _ _ _ (by first | with_reducible exact RD3.out | with_reducible exact RD3a.out | with_reducible exact RD4.out)).mono ?_; rintro e w7 ⟨s7, k7, e7, dv7, gv7, hgo, rfl, hd7, hf7, hb7, hg7⟩;
       obtain ⟨rfl, rfl, rfl⟩ : s7 = y.1 ∧ k7 = y.2.1 ∧ e7 = y.2.2 := (by have h1 := HY.out.1.symm.trans hgo; rw [h1]; exact ⟨rfl, rfl, rfl⟩);
       obtain ⟨pd7, cd7, rfl, -⟩ := id hd7; obtain ⟨pg7, cg7, rfl, -⟩ := RS.slice hf7;
       rw [HY.out.2.1] at hd7;
       have K7 : Hid (Below w0.heap.size w0 w7) := Lib.hid (by first | with_reducible exact ahead K3.out hb7 | with_reducible exact ahead K3a.out hb7 | with_reducible exact ahead K4.out hb7);
       have HX7 := Lib.hid hd7;
       try (have hq9 : w7.heap[w3.heap.size]? = some (.cells gz12 75 (0, 0)) := (hb7.block w3.heap.size (by simp)).trans (World.alloc_heap_new w3 _); obtain ⟨⟨q0, q1, q2, q3, q4, q5, q6, q7, q8, q9⟩, fq⟩ := ten_cells hq9; have HQ9 := Lib.hid hq9; clear hq9);
       try (have hq9 : w7.heap[w2.heap.size]? = some (.cells gz12 75 (0, 0)) := (hb7.block w2.heap.size hlt4).trans G4'.out; obtain ⟨⟨q0, q1, q2, q3, q4, q5, q6, q7, q8, q9⟩, fq⟩ := ten_cells hq9; have HQ9 := Lib.hid hq9; clear hq9);
       unfold gotv; rw [HY.out.2.1]; clear hgo hd7 hf7 hb7 hg7))
  all_goals
    rename_i hHeld
    clear hHeld
    first
    | (obtain ⟨w9, hw9⟩ : ∃ w9, w7.alloc (.cells #[.int .i64 (y.1.place : Int), .int .u64 (y.1.n : Int), .int .i64 (y.1.count : Int), .int .i64 (y.1.lines : Int), .int .i64 (y.1.size : Int), .string (arr y.1.text), .slice pd7 nd cd7, .slice pg7 y.1.fields.length cg7, .int .i64 (y.2.1 : Int), .int .i64 (y.2.2 : Int)] 75) = w9 := ⟨_, rfl⟩
       rw [hw9]
       have g9 : w9.heap[w7.heap.size]? = some (.cells #[.int .i64 (y.1.place : Int), .int .u64 (y.1.n : Int), .int .i64 (y.1.count : Int), .int .i64 (y.1.lines : Int), .int .i64 (y.1.size : Int), .string (arr y.1.text), .slice pd7 nd cd7, .slice pg7 y.1.fields.length cg7, .int .i64 (y.2.1 : Int), .int .i64 (y.2.2 : Int)] 75 (0, 0)) := by rw [← hw9]; exact World.alloc_heap_new w7 _
       have b9 : Below w0.heap.size w0 w9 := by rw [← hw9]; exact ahead K7.out (below_box _ _)
       have d9 : RD w9 (.slice pd7 nd cd7) y.1.data := by rw [← hw9]; exact HX7.out.below (below_box _ _)
       have hr9 := K7.out.size
       clear hw9
       obtain ⟨R, hR⟩ : ∃ R, w7.heap.size = R := ⟨_, rfl⟩
       rw [hR] at g9 hr9 ⊢
       clear hR)
    | (have hQ9 : w7.heap[w3.heap.size]? = some (.cells gz12 75 (0, 0)) := by with_reducible exact HQ9.out
       obtain ⟨w9, hw9⟩ : ∃ w9, over10 w7 w3.heap.size (.int .i64 (y.1.place : Int)) (.int .u64 (y.1.n : Int)) (.int .i64 (y.1.count : Int)) (.int .i64 (y.1.lines : Int)) (.int .i64 (y.1.size : Int)) (.string (arr y.1.text)) (.slice pd7 nd cd7) (.slice pg7 y.1.fields.length cg7) (.int .i64 (y.2.1 : Int)) (.int .i64 (y.2.2 : Int)) = w9 := ⟨_, rfl⟩
       have g9 : w9.heap[w3.heap.size]? = some (.cells #[.int .i64 (y.1.place : Int), .int .u64 (y.1.n : Int), .int .i64 (y.1.count : Int), .int .i64 (y.1.lines : Int), .int .i64 (y.1.size : Int), .string (arr y.1.text), .slice pd7 nd cd7, .slice pg7 y.1.fields.length cg7, .int .i64 (y.2.1 : Int), .int .i64 (y.2.2 : Int)] 75 (0, 0)) := by rw [← hw9]; exact over10_row hQ9 _ _ _ _ _ _ _ _ _ _
       have b9 : Below w0.heap.size w0 w9 := by rw [← hw9]; exact over10_below K7.out hz3 _ _ _ _ _ _ _ _ _ _
       have d9 : RD w9 (.slice pd7 nd cd7) y.1.data := by rw [← hw9]; exact rd_apart HX7.out hQ9 (st10_u8 0 0 0 0 0 0 0 ⟨#[]⟩ none 0 0 none 0 0) (fun g hg => over10_other _ _ _ _ _ _ _ _ _ _ _ _ hg)
       have hr9 := hz3
       unfold over10 over8 at hw9
       rw [hw9]
       clear q0 q1 q2 q3 q4 q5 q6 q7 q8 q9 fq HQ9 hw9 hQ9
       obtain ⟨R, hR⟩ : ∃ R, w3.heap.size = R := ⟨_, rfl⟩
       rw [hR] at g9 hr9 ⊢
       clear hR)
    | (have hQ9 : w7.heap[w2.heap.size]? = some (.cells gz12 75 (0, 0)) := by with_reducible exact HQ9.out
       obtain ⟨w9, hw9⟩ : ∃ w9, over10 w7 w2.heap.size (.int .i64 (y.1.place : Int)) (.int .u64 (y.1.n : Int)) (.int .i64 (y.1.count : Int)) (.int .i64 (y.1.lines : Int)) (.int .i64 (y.1.size : Int)) (.string (arr y.1.text)) (.slice pd7 nd cd7) (.slice pg7 y.1.fields.length cg7) (.int .i64 (y.2.1 : Int)) (.int .i64 (y.2.2 : Int)) = w9 := ⟨_, rfl⟩
       have g9 : w9.heap[w2.heap.size]? = some (.cells #[.int .i64 (y.1.place : Int), .int .u64 (y.1.n : Int), .int .i64 (y.1.count : Int), .int .i64 (y.1.lines : Int), .int .i64 (y.1.size : Int), .string (arr y.1.text), .slice pd7 nd cd7, .slice pg7 y.1.fields.length cg7, .int .i64 (y.2.1 : Int), .int .i64 (y.2.2 : Int)] 75 (0, 0)) := by rw [← hw9]; exact over10_row hQ9 _ _ _ _ _ _ _ _ _ _
       have b9 : Below w0.heap.size w0 w9 := by rw [← hw9]; exact over10_below K7.out hzz _ _ _ _ _ _ _ _ _ _
       have d9 : RD w9 (.slice pd7 nd cd7) y.1.data := by rw [← hw9]; exact rd_apart HX7.out hQ9 (st10_u8 0 0 0 0 0 0 0 ⟨#[]⟩ none 0 0 none 0 0) (fun g hg => over10_other _ _ _ _ _ _ _ _ _ _ _ _ hg)
       have hr9 := hzz
       unfold over10 over8 at hw9
       rw [hw9]
       clear q0 q1 q2 q3 q4 q5 q6 q7 q8 q9 fq HQ9 hw9 hQ9
       obtain ⟨R, hR⟩ : ∃ R, w2.heap.size = R := ⟨_, rfl⟩
       rw [hR] at g9 hr9 ⊢
       clear hR)
    have hR9 : R < w9.heap.size := (Array.getElem?_eq_some_iff.1 g9).1
    obtain ⟨px, nx, cx, vb, w10, p2, n2, c2, w11, hsl, r0, s0, b10, b11, hE⟩ := HEND.out w9 b9 pd7 cd7 d9
    have R16 := Lib.hid r0
    have S17 := Lib.hid s0
    have HE := Lib.hid hE
    have KG : Hid (∀ W, Below w9.heap.size w9 W → _) := Lib.hid fun W h => (h.block R hR9).trans g9
    have B9 := Lib.hid b9
    have B10 := Lib.hid b10
    have B11 := Lib.hid b11
    have ne1 : ¬ w.heap.size = R := by omega
    have ne2 : ¬ R = w.heap.size := by omega
    have hgl : (r.g : Int) ≤ (nd : Int) := by omega
    have hnl : (n : Int) ≤ (L : Int) := by omega
    clear hE r0 s0 b10 b11 d9 b9 HEND T0 T1 K0 K1 K3 K3a K4 K7 HX7 KL HSC RD3 RD3a RD4 G4' O2 B2 hz3 hzz hlt4
    obtain ⟨⟨v0, v1, v2, v3', v4', v5, v6, v7, v8⟩, fv⟩ := nine_cells (KC.out w9 B9.out)
    obtain ⟨⟨z0', z1, z2, z3, z4, z5, z6, z7, z8, z9⟩, fz⟩ := ten_cells g9
    clear g9
    go_upto_region 17 with (at_builtin; refine wpList_append_run rfl (.tmp 92) (.tmp 94) 29 rfl _ _ _ _ rfl rfl R16.out ?_)
    clear v0 v1 v2 v3' v4' v5 v6 v7 v8 fv z0' z1 z2 z3 z4 z5 z6 z7 z8 z9 fz
    obtain ⟨⟨v0, v1, v2, v3', v4', v5, v6, v7, v8⟩, fv⟩ := nine_cells (KC.out w11 (ahead B9.out B11.out))
    obtain ⟨⟨z0', z1, z2, z3, z4, z5, z6, z7, z8, z9⟩, fz⟩ := ten_cells (KG.out w11 B11.out)
    have hb11 := ahead B9.out B11.out
    have HC5 := Lib.hid (two_sets12 (u := .slice p2 n2 c2) (v := .int .i64 (nd : Int)) (KC.out w11 hb11))
    have HT5 : Hid (((w11.setCell ⟨w.heap.size, 5, none⟩ (.slice p2 n2 c2)).setCell ⟨w.heap.size, 8, none⟩ (.int .i64 (nd : Int))).heap[w.heap.size + 1]? = some (.cells tz12 41 (0, 0))) := Lib.hid ((Below.heap_setCell _ _ _ _ (by simp)).trans ((Below.heap_setCell _ _ _ _ (by simp)).trans (KT.out w11 hb11)))
    have H5 : Hid (∀ g, g ≠ w.heap.size → ((w11.setCell ⟨w.heap.size, 5, none⟩ (.slice p2 n2 c2)).setCell ⟨w.heap.size, 8, none⟩ (.int .i64 (nd : Int))).heap[g]? = w11.heap[g]?) := Lib.hid fun g hg => (Below.heap_setCell _ _ _ _ hg).trans (Below.heap_setCell _ _ _ _ hg)
    have HB5 := Lib.hid (((ahead B0.out hb11).setCell (Nat.le_refl w.heap.size) (p := ⟨w.heap.size, 5, none⟩) (.slice p2 n2 c2)).setCell (Nat.le_refl w.heap.size) (p := ⟨w.heap.size, 8, none⟩) (.int .i64 (nd : Int)))
    have HG5 : Hid (((w11.setCell ⟨w.heap.size, 5, none⟩ (.slice p2 n2 c2)).setCell ⟨w.heap.size, 8, none⟩ (.int .i64 (nd : Int))).heap[R]? = _) := Lib.hid ((H5.out R ne2).trans (KG.out w11 B11.out))
    clear hb11
    go_upto_region 18 with (at_builtin; refine wpList_append_run rfl (.tmp 96) (.tmp 99) 29 rfl _ _ _ _ rfl rfl S17.out ?_)
    go_upto_region 19 with fail
    generalize ((w11.setCell ⟨w.heap.size, 5, none⟩ (.slice p2 n2 c2)).setCell ⟨w.heap.size, 8, none⟩ (.int .i64 (nd : Int))) = W5 at HC5 HT5 H5 HB5 HG5 ⊢
    clear v0 v1 v2 v3' v4' v5 v6 v7 v8 fv z0' z1 z2 z3 z4 z5 z6 z7 z8 z9 fz
    obtain ⟨⟨v0, v1, v2, v3', v4', v5, v6, v7, v8⟩, fv⟩ := nine_cells HC5.out
    obtain ⟨⟨z0', z1, z2, z3, z4, z5, z6, z7, z8, z9⟩, fz⟩ := ten_cells HG5.out
    obtain ⟨⟨t0, t1, t2, t3, t4, t5, t6, t7, t8, t9, ta, tb⟩, ft⟩ := twelve_cells HT5.out
    have hE := HE.out
    clear HE HG5 KG KC KT
    obtain ⟨-, -, her⟩ := HY.out
    by_cases hea : y.2.2 = 0
    · have hez : (er : Int) = 0 := by rw [← her, hea]; rfl
      have hy0 : ((y.2.2 : Nat) : Int) = 0 := by omega
      rw [hy0] at z9
      rw [hez] at hE
      clear hea her hez HY hy0
      have hEND := told_end (HB5.out) (HT5.out) (.int .i64 (r.kind : Int)) (.int .u64 (r.size : Int)) (.int .i64 (r.l.ext : Int)) (.int .i64 (r.l.fields : Int)) (.int .i64 (r.l.bytes : Int)) (.slice p2 n2 c2) (.bool r.closed) (.int .i64 0) (.int .i64 (nd : Int)) (.slice px nx cx) (.int .i64 (n : Int)) (.int .i64 0)
      have hOT := fun (g : Nat) (hg : g ≠ w.heap.size + 1) => over12_other W5 (w.heap.size + 1) (.int .i64 (r.kind : Int)) (.int .u64 (r.size : Int)) (.int .i64 (r.l.ext : Int)) (.int .i64 (r.l.fields : Int)) (.int .i64 (r.l.bytes : Int)) (.slice p2 n2 c2) (.bool r.closed) (.int .i64 0) (.int .i64 (nd : Int)) (.slice px nx cx) (.int .i64 (n : Int)) (.int .i64 0) (g := g) hg
      obtain ⟨F, hF⟩ : ∃ F, over12 W5 (w.heap.size + 1) (.int .i64 (r.kind : Int)) (.int .u64 (r.size : Int)) (.int .i64 (r.l.ext : Int)) (.int .i64 (r.l.fields : Int)) (.int .i64 (r.l.bytes : Int)) (.slice p2 n2 c2) (.bool r.closed) (.int .i64 0) (.int .i64 (nd : Int)) (.slice px nx cx) (.int .i64 (n : Int)) (.int .i64 0) = F := ⟨_, rfl⟩
      rw [hF] at hEND
      simp only [hF] at hOT
      unfold over12 over10 over8 at hF
      have HF := Lib.hid hF
      have HQ := Lib.hid (hE W5 F (H5.out) (HT5.out) hOT hEND.2)
      have HROW := Lib.hid hEND.1
      clear hEND hF hOT hE H5 HT5 HB5 HC5
      go_upto_region 21 with fail
      clear z0' z1 z2 z3 z4 z5 z6 z7 z8 z9 fz ne1 ne2 hsl hcut hwn hgl hnl h1 h2 h3 h4' h5 h6 hnb hbk1 hbk2 hbl hR9 hr9 hgd hgd'
      repeat go_step
      rw [HF.out]
      refine bodyPost_ret (results_row1 rfl _ _ (w.heap.size + 1) 41 _ (0, 0) _ rfl HROW.out Tryz.underlying41 rfl (by kernel_rfl)) rfl ?_
      exact HQ.out
    · have c1 : ((y.2.2 : Int) != 0) = true := by unfold bne; rw [beq_eq_false_iff_ne.2 (by omega)]; rfl
      by_cases heb : y.2.2 = 4
      · have hez : (er : Int) = 0 := by rw [← her, heb]; rfl
        have hy4 : ((y.2.2 : Nat) : Int) = 4 := by omega
        rw [hy4] at z9
        rw [hez] at hE
        clear hea heb her hez HY hy4 c1
        have hEND := told_end (HB5.out) (HT5.out) (.int .i64 (r.kind : Int)) (.int .u64 (r.size : Int)) (.int .i64 (r.l.ext : Int)) (.int .i64 (r.l.fields : Int)) (.int .i64 (r.l.bytes : Int)) (.slice p2 n2 c2) (.bool r.closed) (.int .i64 0) (.int .i64 (nd : Int)) (.slice px nx cx) (.int .i64 (n : Int)) (.int .i64 0)
        have hOT := fun (g : Nat) (hg : g ≠ w.heap.size + 1) => over12_other W5 (w.heap.size + 1) (.int .i64 (r.kind : Int)) (.int .u64 (r.size : Int)) (.int .i64 (r.l.ext : Int)) (.int .i64 (r.l.fields : Int)) (.int .i64 (r.l.bytes : Int)) (.slice p2 n2 c2) (.bool r.closed) (.int .i64 0) (.int .i64 (nd : Int)) (.slice px nx cx) (.int .i64 (n : Int)) (.int .i64 0) (g := g) hg
        obtain ⟨F, hF⟩ : ∃ F, over12 W5 (w.heap.size + 1) (.int .i64 (r.kind : Int)) (.int .u64 (r.size : Int)) (.int .i64 (r.l.ext : Int)) (.int .i64 (r.l.fields : Int)) (.int .i64 (r.l.bytes : Int)) (.slice p2 n2 c2) (.bool r.closed) (.int .i64 0) (.int .i64 (nd : Int)) (.slice px nx cx) (.int .i64 (n : Int)) (.int .i64 0) = F := ⟨_, rfl⟩
        rw [hF] at hEND
        simp only [hF] at hOT
        unfold over12 over10 over8 at hF
        have HF := Lib.hid hF
        have HQ := Lib.hid (hE W5 F (H5.out) (HT5.out) hOT hEND.2)
        have HROW := Lib.hid hEND.1
        clear hEND hF hOT hE H5 HT5 HB5 HC5
        go_upto_region 21 with fail
        clear z0' z1 z2 z3 z4 z5 z6 z7 z8 z9 fz ne1 ne2 hsl hcut hwn hgl hnl h1 h2 h3 h4' h5 h6 hnb hbk1 hbk2 hbl hR9 hr9 hgd hgd'
        repeat go_step
        rw [HF.out]
        refine bodyPost_ret (results_row1 rfl _ _ (w.heap.size + 1) 41 _ (0, 0) _ rfl HROW.out Tryz.underlying41 rfl (by kernel_rfl)) rfl ?_
        exact HQ.out
      · have c2' : ((y.2.2 : Int) != 4) = true := by unfold bne; rw [beq_eq_false_iff_ne.2 (by omega)]; rfl
        have hez : (er : Int) = (y.2.2 : Int) := by rw [← her]; unfold told; rw [if_neg heb]
        rw [hez] at hE
        clear hea heb her hez HY
        have hC7 := heap_set (i := 7) (.int .i64 (y.2.2 : Int)) HC5.out
        have hT7 : (W5.setCell ⟨w.heap.size, 7, none⟩ (.int .i64 (y.2.2 : Int))).heap[w.heap.size + 1]? = some (.cells tz12 41 (0, 0)) := (Below.heap_setCell _ _ _ _ (by simp)).trans HT5.out
        have h57 := fun (g : Nat) (hg : g ≠ w.heap.size) => (Below.heap_setCell W5 ⟨w.heap.size, 7, none⟩ (.int .i64 (y.2.2 : Int)) g hg).trans (H5.out g hg)
        have hB7 := HB5.out.setCell (Nat.le_refl w.heap.size) (p := ⟨w.heap.size, 7, none⟩) (.int .i64 (y.2.2 : Int))
        have hEND := told_end (hB7) (hT7) (.int .i64 (r.kind : Int)) (.int .u64 (r.size : Int)) (.int .i64 (r.l.ext : Int)) (.int .i64 (r.l.fields : Int)) (.int .i64 (r.l.bytes : Int)) (.slice p2 n2 c2) (.bool r.closed) (.int .i64 (y.2.2 : Int)) (.int .i64 (nd : Int)) (.slice px nx cx) (.int .i64 (n : Int)) (.int .i64 (y.2.2 : Int))
        have hOT := fun (g : Nat) (hg : g ≠ w.heap.size + 1) => over12_other (W5.setCell ⟨w.heap.size, 7, none⟩ (.int .i64 (y.2.2 : Int))) (w.heap.size + 1) (.int .i64 (r.kind : Int)) (.int .u64 (r.size : Int)) (.int .i64 (r.l.ext : Int)) (.int .i64 (r.l.fields : Int)) (.int .i64 (r.l.bytes : Int)) (.slice p2 n2 c2) (.bool r.closed) (.int .i64 (y.2.2 : Int)) (.int .i64 (nd : Int)) (.slice px nx cx) (.int .i64 (n : Int)) (.int .i64 (y.2.2 : Int)) (g := g) hg
        obtain ⟨F, hF⟩ : ∃ F, over12 (W5.setCell ⟨w.heap.size, 7, none⟩ (.int .i64 (y.2.2 : Int))) (w.heap.size + 1) (.int .i64 (r.kind : Int)) (.int .u64 (r.size : Int)) (.int .i64 (r.l.ext : Int)) (.int .i64 (r.l.fields : Int)) (.int .i64 (r.l.bytes : Int)) (.slice p2 n2 c2) (.bool r.closed) (.int .i64 (y.2.2 : Int)) (.int .i64 (nd : Int)) (.slice px nx cx) (.int .i64 (n : Int)) (.int .i64 (y.2.2 : Int)) = F := ⟨_, rfl⟩
        rw [hF] at hEND
        simp only [hF] at hOT
        unfold over12 over10 over8 at hF
        have HF := Lib.hid hF
        have HQ := Lib.hid (hE (W5.setCell ⟨w.heap.size, 7, none⟩ (.int .i64 (y.2.2 : Int))) F (h57) (hT7) hOT hEND.2)
        have HROW := Lib.hid hEND.1
        clear hEND hF hOT hE H5 HT5 HB5 HC5 hC7 hT7 h57 hB7
        go_upto_region 21 with fail
        clear z0' z1 z2 z3 z4 z5 z6 z7 z8 z9 fz ne1 ne2 hsl hcut hwn hgl hnl h1 h2 h3 h4' h5 h6 hnb hbk1 hbk2 hbl hR9 hr9 hgd hgd'
        repeat go_step
        rw [HF.out]
        refine bodyPost_ret (results_row1 rfl _ _ (w.heap.size + 1) 41 _ (0, 0) _ rfl HROW.out Tryz.underlying41 rfl (by kernel_rfl)) rfl ?_
        exact HQ.out
end

end Go.Proofs.YtjkccacpffikbaaGreatDoor
