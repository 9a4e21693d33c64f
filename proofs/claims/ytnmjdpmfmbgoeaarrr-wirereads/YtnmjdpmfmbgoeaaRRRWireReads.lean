/- Whatever is read is what the document says: WireReads. -/
import Derived.Test.YtnmjdpmfmbgoeaaRRRWireWake
import Derived.Test.YtnmjdpmfmbgoeaaRRRWireGreat
import Derived.Test.YtnmjdpmfmbgoeaaRRRWireRefRead
import Derived.Test.YtnmjdpmfmbgoeaaRRRWireOpenIn
namespace Go.Proofs.YtnmjdpmfmbgoeaaRRR
open Go.ChangeShapes Go.WideShapes Go.ChangeAt Go.RowKit
open Wr
set_option linter.unusedVariables false
set_option maxRecDepth 100000

/-- Between two rounds: the program's source and the document's, which lies in the block X. -/
structure Rds16 (w : World) (X R : Nat) (M : Nat → Prop) (z : Sr) (q : Option Addr) (d : Nat) (W : World) : Prop where
  src : SrcAt R z M W
  blk : W.heap[X]? = some (.cells (rsrc z q z.A.length d) 33 (0, 0))
  cs : CSK (fun g => ¬ M g ∧ g ≠ X) W (.slice q z.A.length d) z.A
  below : Below w.heap.size w W
  mx : ¬ M X
  lows : w.heap.size ≤ R ∧ w.heap.size ≤ X
  e : 0 ≤ z.e ∧ z.e ≤ 2
  b : z.r + z.A.flatten.length ≤ 600
  l : z.A.length ≤ 600
section
variable {w : World} {X R : Nat} {M : Nat → Prop} {z : Sr} {q : Option Addr} {d : Nat} {W : World}
theorem Rds16.ltX (h : Rds16 w X R M z q d W) : X < W.heap.size := (Array.getElem?_eq_some_iff.1 h.blk).1
theorem Rds16.neX (h : Rds16 w X R M z q d W) : X ≠ R := fun e => h.mx (e ▸ h.src.lt.1)
theorem Rds16.ltR (h : Rds16 w X R M z q d W) : R < W.heap.size := h.src.lt.2 R h.src.lt.1
/-- Behind the program's Read. -/
theorem Rds16.read (h : Rds16 w X R M z q d W) {n : Int} {W5 : World} (hs : SrcAt R (rd z n).1 M W5) (hsol : Sol10 R W W5) :
    W5.heap[X]? = some (.cells (rsrc z q z.A.length d) 33 (0, 0)) ∧ CSK (fun g => ¬ M g ∧ g ≠ X) W5 (.slice q z.A.length d) z.A ∧ Below w.heap.size w W5 ∧ (∀ g, W5.heap.size ≤ g → ¬ M g ∧ g ≠ X) := by
  have hx := h.ltX
  have hr := h.ltR
  refine ⟨(hsol.block X hx h.neX).trans h.blk, h.cs.keep fun g hg hlt => hsol.block g hlt (fun e => hg.1 (e ▸ h.src.lt.1)), hsol.below h.below h.lows.1 h.below.size, fun g hg => ⟨fun hm => ?_, ?_⟩⟩
  · have := hs.lt.2 g hm; omega
  · have := hsol.size; omega
/-- Behind the document's, too, when what it answers is laid in X. -/
theorem Rds16.next (h : Rds16 w X R M z q d W) {n : Int} {W5 W8 : World} (hs : SrcAt R (rd z n).1 M W5) (hsol : Sol10 R W W5) (hb : Below W5.heap.size W5 W8) {q' : Option Addr} {d' : Nat}
    (hc : CSK (fun g => ¬ M g ∧ g ≠ X) W8 (.slice q' (rd z n).1.A.length d') (rd z n).1.A) :
    Rds16 w X R M (rd z n).1 q' d' (((((W8.setCell ⟨X, 0, none⟩ (.slice q' (rd z n).1.A.length d')).setCell ⟨X, 1, none⟩ (.bool (rd z n).1.bg)).setCell ⟨X, 2, none⟩ (.int .i64 (rd z n).1.e)).setCell ⟨X, 3, none⟩ (.int .i64 ((rd z n).1.r : Int))).setCell ⟨X, 4, none⟩ (.bool (rd z n).1.sh)) := by
  obtain ⟨g1, g2, g3, g4⟩ := h.read hs hsol
  obtain ⟨l1, l2, l3, l4⟩ := rd_left z n
  obtain ⟨a1, a2⟩ := rd_A z n
  have hx : X < W5.heap.size := (Array.getElem?_eq_some_iff.1 g1).1
  have hlen : (rd z n).1.r + (rd z n).1.A.flatten.length ≤ 600 := by
    have e := congrArg List.length l1
    rw [List.length_append] at e
    unfold left at e
    have := h.b
    omega
  refine ⟨(hs.below hb).keep fun g hg => put5_other _ _ _ _ _ _ _ (fun e => h.mx (e ▸ hg)), put5_row ((hb.block X hx).trans g1) _ _ _ _ _, hc.keep fun g hg _ => put5_other _ _ _ _ _ _ _ hg.2, ?_, h.mx, h.lows, l3 ▸ h.e, hlen, by have := h.l; omega⟩
  exact (((((ahead g3 hb).setCell h.lows.2 _).setCell h.lows.2 _).setCell h.lows.2 _).setCell h.lows.2 _).setCell h.lows.2 _
theorem Rds16.drewN (h : Rds16 w X R M z q d W) (nq : Nat) : Rds16 w X R M z q d (W.drewN nq) :=
  ⟨h.src.below (drewN_below8 W nq), ((drewN_below8 W nq).block X h.ltX).trans h.blk, h.cs.below (drewN_below8 W nq), below_drewN h.below nq, h.mx, h.lows, h.e, h.b, h.l⟩
/-- Both are shut. -/
theorem Rds16.shut (h : Rds16 w X R M z q d W) : Rds16 w X R M (shut z) q d ((W.setCell ⟨R, 4, none⟩ (.bool true)).setCell ⟨X, 4, none⟩ (.bool true)) := by
  obtain ⟨L, b, p, c, h1, h2, h3⟩ := h.src
  have hs : SrcAt R (Wr.shut z) M (W.setCell ⟨R, 4, none⟩ (.bool true)) := ⟨L, b, p, c, h1.closed, h2, h3⟩
  have hk : ∀ g, g ≠ X → ((W.setCell ⟨R, 4, none⟩ (.bool true)).setCell ⟨X, 4, none⟩ (.bool true)).heap[g]? = (W.setCell ⟨R, 4, none⟩ (.bool true)).heap[g]? := fun g hg => Below.heap_setCell _ _ _ _ hg
  have hk' : ∀ g, g ≠ R → (W.setCell ⟨R, 4, none⟩ (.bool true)).heap[g]? = W.heap[g]? := fun g hg => Below.heap_setCell _ _ _ _ hg
  exact ⟨hs.keep fun g hg => hk g (fun e => h.mx (e ▸ hg)), heap_set (i := 4) (.bool true) ((hk' X h.neX).trans h.blk), h.cs.keep fun g hg _ => (hk g hg.2).trans (hk' g (fun e => hg.1 (e ▸ h.src.lt.1))), (h.below.setCell h.lows.1 _).setCell h.lows.2 _, h.mx, h.lows, h.e, h.b, h.l⟩
end

set_option maxHeartbeats 8000000 in
theorem reads16_walk (L : List (List UInt8)) (p : Option Addr) (c : Nat) (e : Int) (ns : List Int) (pn : Option Addr) (cn : Nat) (w : World) (hL : CS w (.slice p L.length c) L) (hl : L.length ≤ 140737488355328) (hx : ∀ x ∈ L, x.length ≤ 140737488355328) (hn : Nums w pn ns) :
    Calls Try.prog 3 #[.slice p L.length c, .int .i64 e, .slice pn ns.length cn] w fun e w' => e = .returned (.bool true) ∧ Below w.heap.size w w' := by
  have HWK := Lib.hid (wakes16 w)
  have HL := Lib.hid hL
  have HX := Lib.hid hx
  have HLL := Lib.hid hl
  have HN := Lib.hid hn
  clear hL hx hl hn
  go_enter Try.func3, Try.ntmps3
  go_wp2_with fail
  refine HWK.out.mono ?_
  rintro e1 w1 ⟨rfl, hb1⟩
  have HG := Lib.hid (great16_any L p c w1 (HL.out.below hb1) HLL.out HX.out)
  have HB1 := Lib.hid hb1
  clear hb1 HWK
  by_cases hg : 600 < wgt L
  · rw [decide_eq_true hg] at HG
    clear hg
    go_wp2_with fail
    refine HG.out.mono ?_
    rintro e2 w2 ⟨rfl, rfl⟩
    go_wp2_with fail
    go_ret
    exact ⟨rfl, HB1.out⟩
  · rw [decide_eq_false hg] at HG
    have HW6 := Lib.hid (show wgt L ≤ 600 by omega)
    clear hg
    by_cases h40 : (40 : Int) < (ns.length : Int)
    · go_wp2_with fail
      refine HG.out.mono ?_
      rintro e2 w2 ⟨rfl, rfl⟩
      go_wp2_with fail
      go_ret
      exact ⟨rfl, HB1.out⟩
    · by_cases he : 0 ≤ e ∧ e ≤ 2
      · have HNW := Lib.hid (new16_any e w1 he (HL.out.below HB1.out) (by have := wgt_len L; have := HW6.out; omega) (fun x hx => by have := wgt_mem hx; have := HW6.out; omega))
        have he0 : ¬ e < 0 := by omega
        have he2 : ¬ 2 < e := by omega
        have HE := Lib.hid he
        clear he
        go_wp2_with fail
        refine HG.out.mono ?_
        rintro e2 w2 ⟨rfl, rfl⟩
        clear HG
        go_wp2_with fail
        refine HNW.out.mono ?_
        rintro e3 w3 ⟨R, M, rfl, hs, hb3, hM⟩
        have hMR := hs.lt
        have HB3 := Lib.hid (ahead HB1.out hb3)
        have HLOW := Lib.hid (show w.heap.size ≤ w1.heap.size ∧ w1.heap.size ≤ R from ⟨HB1.out.size, hM R hMR.1⟩)
        have hbX := below_box w3 (.cells (rsrc ⟨L, false, e, 0, false⟩ p L.length c) 33)
        have HST := Lib.hid (show Rds16 w w3.heap.size R M ⟨L, false, e, 0, false⟩ p c (w3.alloc (.cells (rsrc ⟨L, false, e, 0, false⟩ p L.length c) 33)) from
          ⟨hs.below hbX, heap_alloc_new _ _, ((((HL.out.known.below HB1.out).below hb3).below hbX).mono fun g hg => ⟨fun hm => by have := hM g hm; have := HB1.out.size; omega, by have := HB3.out.size; omega⟩), ahead HB3.out hbX, fun hm => by have := hMR.2 _ hm; omega, ⟨by have := HLOW.out; omega, HB3.out.size⟩, HE.out, by have := wgt_len L; have := HW6.out; show 0 + L.flatten.length ≤ 600; omega, by have := wgt_len L; have := HW6.out; show L.length ≤ 600; omega⟩)
        clear hs hb3 hM hMR hbX HNW HLOW
        go_upto_region 11 with (fail)
        obtain ⟨w4, hw4⟩ : ∃ w4, w3.alloc (.cells #[.slice p L.length c, .bool false, .int .i64 e, .int .i64 0, .bool false] 33) = w4 := ⟨_, rfl⟩
        replace HST : Hid (Rds16 w w3.heap.size R M ⟨L, false, e, 0, false⟩ p c w4) := Lib.hid (by rw [← hw4]; exact HST.out)
        rw [hw4]
        clear hw4
        generalize w3.heap.size = X at *
        go_wp2_with fail
        go_loopw [55] (fun iv wr => ∃ (j : Nat) (z : Sr) (q : Option Addr) (d : Nat), j ≤ ns.length ∧ iv = .int .i64 (j : Int) ∧ Hid (Rds16 w X R M z q d wr)) (fun iv _ => ns.length - (intOf iv).toNat)
        case atStart => exact ⟨0, _, p, c, Nat.zero_le _, rfl, HST⟩
        case round =>
          clear HST
          obtain ⟨j, z, q, d, hj, rfl, HA⟩ := hrel
          by_cases hlt : j < ns.length
          · obtain ⟨n, hn⟩ : ∃ n, ns[j]? = some n := ⟨_, List.getElem?_eq_getElem hlt⟩
            obtain ⟨ad, rfl, cx⟩ := (HN.out.below HA.out.below) j n hn
            have k1 : (0 : Int) ≤ (j : Int) := by omega
            have k2 : (j : Int) < (ns.length : Int) := by omega
            have HQ := Lib.hid (read16_any n wr HA.out.src HA.out.e (by have := HA.out.b; omega))
            clear hn
            go_wp2_with fail
            refine HQ.out.mono ?_
            rintro e' w5 ⟨vb, rfl, hs5, hd5, hown5, hsol5⟩
            obtain ⟨x5, c5, b5, k5⟩ := HA.out.read hs5 hsol5
            have HRQ := Lib.hid (rread16_any (x := z) n w5 c5 k5 HA.out.e (by have := HA.out.b; omega) (by have := HA.out.l; omega))
            obtain ⟨⟨x0, x1, x2, x3, x4⟩, xf⟩ := five16 x5
            unfold rsrc at HRQ
            have HS5 := Lib.hid hs5
            have HD5 := Lib.hid hd5
            have HO5 := Lib.hid hown5
            have HL5 := Lib.hid hsol5
            clear hs5 hd5 hown5 hsol5 x5 c5 b5 k5 HQ
            go_wp2_with fail
            refine HRQ.out.mono ?_
            rintro e' w6 ⟨q6, d6, q7, m7, d7, rfl, hc6, hd6, hk6, hb6⟩
            have HB6 := Lib.hid hb6
            have HC6 := Lib.hid hc6
            have HD6 := Lib.hid hd6
            have HK6 := Lib.hid hk6
            clear hb6 hc6 hd6 hk6 HRQ x0 x1 x2 x3 x4 xf cx
            go_upto_region 16 with (fail)
            obtain ⟨Y, hY⟩ : ∃ Y, rd z n = Y := ⟨_, rfl⟩
            have HNX := Lib.hid (fun (W8 : World) (hb : Below w5.heap.size w5 W8) q' d' hc => HA.out.next (n := n) (W8 := W8) HS5.out HL5.out hb (q' := q') (d' := d') hc)
            rw [hY] at HNX HC6 HD6 HK6 HD5 HS5 ⊢
            obtain ⟨y, bs, ec⟩ := Y
            clear hY
            replace HC6 : Hid (CSK (fun g => ¬ M g ∧ g ≠ X) w6 (.slice q6 y.A.length d6) y.A) := HC6
            replace HD6 : Hid (RD w6 (.slice q7 m7 d7) bs) := HD6
            replace HK6 : Hid (bs ≠ [] → ∀ g, (Value.slice q7 m7 d7).ownBlock = some g → ¬ M g ∧ g ≠ X) := HK6
            replace HD5 : Hid (RD w5 vb bs) := HD5
            dsimp only
            have hX5 : X < w5.heap.size := by have := HA.out.ltX; have := HL5.out.size; omega
            have hX6 : X < w6.heap.size := by have := HB6.out.size; omega
            have ba := below_box w6 (.cells (rsrc y q6 y.A.length d6) 33)
            have na := heap_alloc_new w6 (.cells (rsrc y q6 y.A.length d6) 33 (0, 0))
            have za : (w6.alloc (.cells (rsrc y q6 y.A.length d6) 33)).heap.size = w6.heap.size + 1 := by simp
            generalize hwa : w6.alloc (.cells (rsrc y q6 y.A.length d6) 33) = wa at *
            have bb := below_box wa (.cells #[.slice q7 m7 d7, .int .i64 0, .int .i64 ec] 38)
            have nb := heap_alloc_new wa (.cells #[.slice q7 m7 d7, .int .i64 0, .int .i64 ec] 38 (0, 0))
            rw [za] at nb
            generalize hw8 : wa.alloc (.cells #[.slice q7 m7 d7, .int .i64 0, .int .i64 ec] 38) = w8 at *
            have b68 := ahead ba bb
            have b58 := ahead HB6.out b68
            have hA8 : w8.heap[w6.heap.size]? = some (.cells (rsrc y q6 y.A.length d6) 33 (0, 0)) := (bb.block _ (by omega)).trans na
            have hX8 : w8.heap[X]? = w5.heap[X]? := b58.block X hX5
            have hx5b := (HL5.out.block X HA.out.ltX HA.out.neX).trans HA.out.blk
            obtain ⟨⟨a0, a1, a2, a3, a4⟩, -⟩ := five16 hA8
            obtain ⟨⟨x0, x1, x2, x3, x4⟩, xf⟩ := five16 (hX8.trans hx5b)
            have HN8 := Lib.hid (HNX.out w8 b58 q6 d6 (HC6.out.below b68))
            obtain ⟨w9, hw9⟩ : ∃ w9, (((((w8.setCell ⟨X, 0, none⟩ (.slice q6 y.A.length d6)).setCell ⟨X, 1, none⟩ (.bool y.bg)).setCell ⟨X, 2, none⟩ (.int .i64 y.e)).setCell ⟨X, 3, none⟩ (.int .i64 (y.r : Int))).setCell ⟨X, 4, none⟩ (.bool y.sh)) = w9 := ⟨_, rfl⟩
            have hk9 : ∀ g, g ≠ X → w9.heap[g]? = w8.heap[g]? := fun g hg => by rw [← hw9]; exact put5_other _ _ _ _ _ _ _ hg
            have HD9 := Lib.hid (show RD w9 vb bs from ((HD5.out.below HB6.out).below b68).keep fun _ g hg => hk9 g (by have := (HO5.out g hg).1; have := HA.out.ltX; omega))
            have HE9 := Lib.hid (show RD w9 (.slice q7 m7 d7) bs from (HD6.out.below b68).keep fun hne g hg => hk9 g (HK6.out hne g hg).2)
            have hT9 : w9.heap[w6.heap.size + 1]? = some (.cells #[.slice q7 m7 d7, .int .i64 0, .int .i64 ec] 38 (0, 0)) := (hk9 _ (by omega)).trans nb
            replace HN8 : Hid (Rds16 w X R M y q6 d6 w9) := Lib.hid (by rw [← hw9]; exact HN8.out)
            obtain ⟨⟨t0, t1, t2⟩, -⟩ := three16 hT9
            obtain ⟨⟨y0, y1, y2, y3, y4⟩, -⟩ := five16 HN8.out.blk
            obtain ⟨pv, cv, rfl, -⟩ := id HD9.out
            obtain rfl : m7 = bs.length := HE9.out.len
            have HSM : Hid (∀ nq, Calls Try.prog 10 #[.slice pv bs.length cv, .slice q7 bs.length d7] (w9.drewN nq) fun e w' => e = .returned (.bool true) ∧ ∃ m, w' = (w9.drewN nq).drewN m) := Lib.hid fun nq => by
              have := same_any (w9.drewN nq) pv q7 bs.length cv bs.length d7 bs bs (rd_drewN HD9.out nq) (rd_drewN HE9.out nq)
              rw [decide_eq_true rfl] at this
              exact this
            have HRE : Hid (∀ nq, Calls Try.prog 11 #[.pointer (some ⟨R, 0, none⟩)] (w9.drewN nq) fun e w' => e = .returned (.int .i64 (y.r : Int)) ∧ w' = w9.drewN nq) := Lib.hid fun nq => by
              obtain ⟨L8, b8, p8, c8, g1, g2, g3⟩ := (HN8.out.drewN nq).src
              exact (reads16_any (w9.drewN nq) g1).mono fun _ _ h => ⟨h.1, h.2.symm⟩
            have HW9 := Lib.hid hw9
            clear hwa hw8 ba na za bb nb b68 b58 hA8 hX8 hx5b hk9 hT9 hw9 HNX HC6 HD6 HK6 HD5 HS5 HO5 HL5 HB6 HA HD9 HE9
            go_upto_region 17 with (fail)
            rw [HW9.out]
            clear a0 a1 a2 a3 a4 x0 x1 x2 x3 x4 xf HW9
            go_quiet (first
              | (go_at_call 10; exact Calls.quiet_of (HSM.out _))
              | (go_at_call 11; exact Calls.quiet_of_same (HRE.out _)))
            have HN10 := Lib.hid (HN8.out.drewN nq)
            have hb40 : ns.length ≤ 40 := by omega
            clear HSM HRE HN8 t0 t1 t2 y0 y1 y2 y3 y4
            generalize w9.drewN nq = w10 at *
            by_cases h30 : (j : Int) = 30
            · have h30' : ((j : Int) == 30) = true := by rw [beq_iff_eq]; exact h30
              have HNS := Lib.hid HN10.out.shut
              have HSH : Hid (Calls Try.prog 12 #[.pointer (some ⟨R, 0, none⟩)] w10 fun e w' => e = .returned (.tuple #[]) ∧ w' = w10.setCell ⟨R, 4, none⟩ (.bool true)) := Lib.hid (by
                obtain ⟨L8, b8, p8, c8, g1, g2, g3⟩ := HN10.out.src
                exact shut16_any w10 g1)
              have hX11 : (w10.setCell ⟨R, 4, none⟩ (.bool true)).heap[X]? = w10.heap[X]? := Below.heap_setCell _ _ _ _ HN10.out.neX
              obtain ⟨⟨x0, x1, x2, x3, x4⟩, xf⟩ := five16 (hX11.trans HN10.out.blk)
              clear h30 hX11 x0 x1 x2 x3 HN10
              generalize w10.setCell ⟨R, 4, none⟩ (.bool true) = w11 at *
              go_wp2_with fail
              refine HSH.out.mono ?_
              rintro e' w12 ⟨rfl, rfl⟩
              clear HSH
              go_wp2_with fail
              go_roundw
              case rel => exact ⟨j + 1, _, q6, d6, by omega, by go_num, HNS⟩
              case measure => simp [intOf]; omega
            · have h30' : ((j : Int) == 30) = false := by rw [beq_eq_false_iff_ne]; exact h30
              clear h30
              go_wp2_with fail
              go_roundw
              case rel => exact ⟨j + 1, y, q6, d6, by omega, by go_num, HN10⟩
              case measure => simp [intOf]; omega
          · have k2 : ¬ (j : Int) < (ns.length : Int) := by omega
            have HB := Lib.hid HA.out.below
            clear HA hlt
            go_wp2_with fail
            go_ret
            exact ⟨rfl, HB.out⟩
      · have HNW := Lib.hid (new16_bad (p := p) (n := L.length) (c := c) e w1 he)
        have hor : e < 0 ∨ (¬ e < 0 ∧ 2 < e) := by omega
        clear he
        rcases hor with h0 | ⟨h0, h2⟩
        all_goals
          go_wp2_with fail
          refine HG.out.mono ?_
          rintro e2 w2 ⟨rfl, rfl⟩
          clear HG
          go_wp2_with fail
          refine HNW.out.mono ?_
          rintro e3 w3 ⟨rfl, hb3⟩
          have HB3 := Lib.hid (ahead HB1.out hb3)
          clear hb3 HNW
          go_wp2_with fail
          go_ret
          exact ⟨rfl, HB3.out⟩

end Go.Proofs.YtnmjdpmfmbgoeaaRRR
