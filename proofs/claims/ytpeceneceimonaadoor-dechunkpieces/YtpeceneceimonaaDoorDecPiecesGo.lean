/- The law DechunkPieces. -/
import Derived.Test.YtpeceneceimonaaDoorDecPieces
import Derived.Deep.RegionHeld3
namespace Go.Proofs.YtpeceneceimonaaDoor
open Go.ChangeShapes Go.WideShapes Go.ChangeAt Go.RowKit
open Oc Fl Bk Bd Dk
set_option linter.unusedVariables false
set_option maxRecDepth 100000

set_option maxHeartbeats 2000000 in
/-- How many bytes of data more there are. -/
theorem lawLeft_any (a0 a1 a2 a3 a4 : Nat) (a5 : ByteArray) (v6 v7 : Value) (w : World) (hv : ∃ p n c q m k, v6 = .slice p n c ∧ v7 = .slice q m k) :
    Calls Tryd.prog 18 #[.agg #[.int .i64 (a0 : Int), .int .u64 (a1 : Int), .int .i64 (a2 : Int), .int .i64 (a3 : Int), .int .i64 (a4 : Int), .string a5, v6, v7]] w fun e w' => e = .returned (.int .u64 ((if a0 = 3 then a1 else 0 : Nat) : Int)) ∧ Below w.heap.size w w' := by
  obtain ⟨p, n, c, q, m, k, rfl, rfl⟩ := hv
  have HB := Lib.hid (below_box w (.cells #[.int .i64 (a0 : Int), .int .u64 (a1 : Int), .int .i64 (a2 : Int), .int .i64 (a3 : Int), .int .i64 (a4 : Int), .string a5, .slice p n c, .slice q m k] 35))
  by_cases h3 : a0 = 3
  · subst h3
    rw [if_pos rfl]
    go_enter Tryd.func18, Tryd.ntmps18
    go_wp2_with fail
    go_ret
    exact ⟨rfl, HB.out⟩
  · rw [if_neg h3]
    have hz : ((a0 : Int) != 3) = true := by unfold bne; rw [beq_eq_false_iff_ne.2 (by omega)]; rfl
    clear h3
    go_enter Tryd.func18, Tryd.ntmps18
    go_wp2_with fail
    go_ret
    exact ⟨rfl, HB.out⟩

/-- What holds of all bytes that were taken. -/
def AllOk (l : Lim) (y : St × Nat × Nat) (A : List UInt8) : Prop := A.length = y.2.1 ∧ (y.2.2 = 4 → y = cont l (sz [] 0 0, 0, 4) A)
theorem AllOk.next {l : Lim} {y : St × Nat × Nat} {A b : List UInt8} {n : Nat} (h : AllOk l y A) (hn : (cont l y b).2.1 = y.2.1 + n) (hle : n ≤ b.length) : AllOk l (cont l y b) (A ++ b.take n) := by
  obtain ⟨h1, h2⟩ := h
  refine ⟨by rw [List.length_append, h1, hn, List.length_take]; omega, fun h4 => ?_⟩
  by_cases hy : y.2.2 = 4
  · have e := h2 hy
    have hnb : n = b.length := by
      obtain ⟨s, i, q⟩ := y
      simp only at hy
      subst hy
      rw [cont_go] at h4 hn
      have := (go_at l s b i).2.2 h4
      simp only at hn
      omega
    rw [hnb, List.take_length, cont_app, ← e]
  · rw [cont_end _ hy] at h4
    exact absurd h4 hy
/-- The document reads all of them anew. -/
theorem AllOk.reads {l : Lim} {y : St × Nat × Nat} {A b : List UInt8} (h : AllOk l y A) (h4 : y.2.2 = 4) : go l (sz [] 0 0) (A ++ b) 0 = cont l y b := by
  rw [← cont_go, cont_app, ← h.2 h4]

set_option maxHeartbeats 16000000 in
theorem pieces9_walk (a b c : Int) (cs : List (List UInt8)) {q : Option Addr} {ck : Nat} (w : World) (hC : CS w (.slice q cs.length ck) cs) (hcb : ∀ x ∈ cs, x.length ≤ 140737488355328) (hfar : ∀ x ∈ cs, True) (hsp : Spans w) :
    Calls Tryd.prog 3 #[lim3 a b c, .slice q cs.length ck] w fun e w' => e = .returned (.bool true) ∧ Below w.heap.size w w' := by
  obtain ⟨w0, hw0⟩ : ∃ w0, w.alloc (obLim a b c) = w0 := ⟨_, rfl⟩
  have b0 : Below w.heap.size w w0 := by rw [← hw0]; exact below_box _ _
  have z0 : w0.heap.size = w.heap.size + 1 := by rw [← hw0]; simp
  have l0 : w0.heap[w.heap.size]? = some (obLim a b c) := by rw [← hw0]; exact World.alloc_heap_new w _
  have HFIN : Hid (∀ W, Below w0.heap.size w0 W → Below w.heap.size w W) := Lib.hid fun W h => ahead b0 h
  have KL : Hid (∀ W, Below w0.heap.size w0 W → W.cell? ⟨w.heap.size, 0, none⟩ = some (.int .i64 a) ∧ W.cell? ⟨w.heap.size, 1, none⟩ = some (.int .i64 b) ∧ W.cell? ⟨w.heap.size, 2, none⟩ = some (.int .i64 c)) := Lib.hid fun W h => (three_cells8 ((h.block _ (by omega)).trans l0)).1
  have HW := Lib.hid (wakes9 w0 (hsp.below b0))
  have W0 := Lib.hid hw0
  have HC := Lib.hid (hC.below b0)
  have HCB := Lib.hid hcb
  have HSP := Lib.hid (hsp.below b0)
  unfold obLim at W0
  clear hw0 b0 l0 hC hcb hsp
  unfold lim3
  go_enter Tryd.func3, Tryd.ntmps3
  go_wp2_with fail
  rw [W0.out]
  refine HW.out.mono ?_
  rintro e w1 ⟨rfl, hb1⟩
  have B1 := Lib.hid hb1
  clear hb1 HW W0
  go_wp2_with fail
  go_loopw [5, 27] (fun nv iv wr => ∃ (j : Nat), j ≤ cs.length ∧ iv = .int .i64 (j : Int) ∧ nv = .int .i64 (((cs.take j).flatten.length + j : Nat) : Int) ∧ (cs.take j).flatten.length + j ≤ 600 ∧ Hid (Below w0.heap.size w0 wr)) (fun _ iv _ => cs.length - (intOf iv).toNat)
  case atStart => exact ⟨0, Nat.zero_le _, rfl, rfl, by simp, B1⟩
  case round =>
    clear B1
    obtain ⟨j, hj, rfl, rfl, h6, B1⟩ := hrel
    by_cases hlt : j < cs.length
    · obtain ⟨x, hx⟩ : ∃ x, cs[j]? = some x := ⟨_, List.getElem?_eq_getElem hlt⟩
      obtain ⟨-, ad, pu, cu, rfl, c0, hu⟩ := (HC.out.below B1.out).at hx
      have hxb := HCB.out x (List.mem_of_getElem? hx)
      have hs := flat_snoc hx
      obtain ⟨n0, hn0⟩ : ∃ n0, (cs.take j).flatten.length + j = n0 := ⟨_, rfl⟩
      obtain ⟨x1, hx1⟩ : ∃ x1, x.length + 1 = x1 := ⟨_, rfl⟩
      obtain ⟨n1, hn1⟩ : ∃ n1, (cs.take (j + 1)).flatten.length + (j + 1) = n1 := ⟨_, rfl⟩
      have hw1 : IntKind.i64.wrap ((x.length : Int) + 1) = (x1 : Int) := by rw [IntWalk.i64_in _ (by omega)]; omega
      have hw2 : IntKind.i64.wrap ((n0 : Int) + (x1 : Int)) = (n1 : Int) := by rw [IntWalk.i64_in _ (by omega)]; omega
      have k1 : (0 : Int) ≤ (j : Int) := by omega
      have k2 : (j : Int) < (cs.length : Int) := by omega
      rw [hn0]
      have HN1 := Lib.hid hn1
      have hj6 : j ≤ 600 := by omega
      clear hu hx hs hx1 hn0 hn1 h6 hj hxb
      by_cases h6 : 600 < n1
      · have h6' : (600 : Int) < (n1 : Int) := by omega
        go_wp2_with fail
        go_ret
        exact ⟨rfl, HFIN.out _ B1.out⟩
      · have h6' : ¬ (600 : Int) < (n1 : Int) := by omega
        go_wp2_with fail
        go_roundw
        case rel => exact ⟨j + 1, by omega, by go_num, by rw [HN1.out], by rw [HN1.out]; omega, B1⟩
        case measure => simp [intOf]; omega
    · obtain rfl : j = cs.length := by omega
      have H6 := Lib.hid (show cs.flatten.length + cs.length ≤ 600 by rw [List.take_length] at h6; exact h6)
      obtain ⟨x0, x1, x2⟩ := KL.out wr B1.out
      obtain ⟨n6, hn6⟩ : ∃ n6, (cs.take cs.length).flatten.length + cs.length = n6 := ⟨_, rfl⟩
      rw [hn6]
      clear h6 hn6 hj
      cases hok : okLs a b c with
      | false =>
        have HNB := Lib.hid (new_bad a b c wr hok)
        have HRB : Hid (∀ W, _) := Lib.hid fun W => rright8_any a b c W
        rw [hok] at HRB
        unfold lim3 at HNB HRB
        clear hok
        go_wp2_with fail
        refine HNB.out.mono ?_
        rintro e w2 ⟨rfl, hb2⟩
        have B2 := Lib.hid (ahead B1.out hb2)
        clear x0 x1 x2 hb2
        obtain ⟨x0, x1, x2⟩ := KL.out w2 B2.out
        go_wp2_with fail
        refine (HRB.out _).mono ?_
        rintro e w3 ⟨rfl, hb3⟩
        have B3 := Lib.hid (ahead B2.out hb3)
        clear hb3
        go_wp2_with fail
        go_ret
        exact ⟨rfl, HFIN.out _ B3.out⟩
      | true =>
        obtain ⟨l, rfl, rfl, rfl, hlm⟩ := okLs_nat hok
        have HNW := Lib.hid (newX l wr hlm (HSP.out.below B1.out))
        have HRB : Hid (∀ W, _) := Lib.hid fun W => rright8_any (l.ext : Int) (l.fields : Int) (l.bytes : Int) W
        rw [hok] at HRB
        unfold lim3 at HNW HRB
        have HLM := Lib.hid hlm
        clear hok hlm
        go_wp2_with fail
        refine HNW.out.mono ?_
        rintro e w2 ⟨R, M, rfl, hd2, hm2, hb2⟩
        have B2 := Lib.hid (ahead B1.out hb2)
        have hz1 := B1.out.size
        have HM2 := Lib.hid (fun k hk => Nat.le_trans hz1 (hm2 k hk))
        have HD2 := Lib.hid hd2
        clear x0 x1 x2 hb2 hd2 hm2 HNW
        obtain ⟨x0, x1, x2⟩ := KL.out w2 B2.out
        go_wp2_with fail
        refine (HRB.out _).mono ?_
        rintro e w3 ⟨rfl, hb3⟩
        have B3 := Lib.hid (ahead B2.out hb3)
        have HD3 := Lib.hid (HD2.out.below hb3)
        have hz3 := hb3.size
        obtain ⟨w4, hw4⟩ : ∃ w4, w3.alloc (.cells #[.int .i64 0, .int .u64 0, .int .i64 0, .int .i64 0, .int .i64 0, .string ⟨#[]⟩, .slice none 0 0, .slice none 0 0, .int .i64 0, .int .i64 4] 37) = w4 := ⟨_, rfl⟩
        have b4 : Below w3.heap.size w3 w4 := by rw [← hw4]; exact below_box _ _
        have j4 : w4.heap[w3.heap.size]? = some (.cells #[.int .i64 0, .int .u64 0, .int .i64 0, .int .i64 0, .int .i64 0, .string ⟨#[]⟩, .slice none 0 0, .slice none 0 0, .int .i64 0, .int .i64 4] 37 (0, 0)) := by rw [← hw4]; exact World.alloc_heap_new w3 _
        have hP : PA R l w3.heap.size w0 M (sz [] 0 0, 0, 4) (sz [] 0 0, 0, 4) [] (.slice none 0 0) (.slice none 0 0) (.slice none 0 0) w4 :=
          ⟨ahead B3.out b4, HD3.out.below b4, HM2.out, j4, RS.nil _ _, ⟨none, 0, rfl, Nat.le_refl _, by decide, fun _ => rfl⟩, fun hx => absurd rfl hx, World.ownsRow_nil _ _ _ _, fun g hg => by simp [Value.ownBlock] at hg, fun hm => by have := (HD3.out.lt hm).2; omega, B3.out.size, HSP.out.1⟩
        have HP := Lib.hid hP
        have W4 := Lib.hid hw4
        obtain ⟨X, hX⟩ : ∃ X, w3.heap.size = X := ⟨_, rfl⟩
        rw [hX] at HP
        have HX := Lib.hid hX
        clear hb3 b4 j4 hP hw4 HRB HD2 HD3 HM2 x0 x1 x2 hz1 hz3 B2 hX
        go_wp2_with fail
        rw [W4.out, HX.out]
        clear W4 HX
        go_loopw [10, 11, 62] (fun av gv iv W => ∃ (j : Nat) (M : Nat → Prop) (y : St × Nat × Nat) (A : List UInt8) (pa : Option Addr) (na ca : Nat) (dv fv : Value), j ≤ cs.length ∧ av = .slice pa na ca ∧ gv = .int .i64 (y.1.data.length : Int) ∧ iv = .int .i64 (j : Int) ∧ PA R l X w0 M y y A (.slice pa na ca) dv fv W ∧ AllOk l y A ∧ Hid (y.2.1 ≤ (cs.take j).flatten.length)) (fun _ _ iv _ => cs.length - (intOf iv).toNat)
        case atStart => exact ⟨0, M, (sz [] 0 0, 0, 4), [], none, 0, 0, _, _, Nat.zero_le _, rfl, rfl, rfl, HP.out, ⟨rfl, fun _ => (cont_nil _ _).symm⟩, Lib.hid (by simp)⟩
        case round =>
          clear HP
          obtain ⟨j, M, y, A, pa, na, ca, dv, fv, hj, rfl, rfl, rfl, hA, hAO, HYL⟩ := hrel
          by_cases hlt : j < cs.length
          case neg =>
            have HB := Lib.hid (HFIN.out _ hA.below)
            clear hA hAO
            go_wp2_with fail
            go_ret
            exact ⟨rfl, HB.out⟩
          case pos =>
            obtain ⟨bs, hx⟩ : ∃ x, cs[j]? = some x := ⟨_, List.getElem?_eq_getElem hlt⟩
            obtain ⟨-, ad, pu, cu, had, cc0, hu0⟩ := HC.out.at hx
            subst had
            have c0 := cell_below cc0 hA.below
            have hfar : bs ≠ [] → ∀ g, (Value.slice pu bs.length cu).ownBlock = some g → ¬ M g := fun hne g hg hm => by
              obtain ⟨k', e1, e2⟩ := hu0.lt hne
              rw [hg] at e1
              cases e1
              have := hA.low g hm
              omega
            have hu := hu0.below hA.below
            have hfl := flat_snoc hx
            have hft := flat_take cs (j + 1)
            have h6 := H6.out
            have hyl := HYL.out
            have hbl : bs.length ≤ 600 := by omega
            have hy6 : y.2.1 ≤ 600 := by omega
            have HPT := Lib.hid (putXw _ hA.dec hu hfar (by omega) (by omega) HLM.out)
            have HA := Lib.hid hA
            have HU := Lib.hid hu0
            have HNX := Lib.hid (And.intro hfl (And.intro hft (And.intro hbl hy6)))
            have HAO := Lib.hid hAO
            have k1 : (0 : Int) ≤ (j : Int) := by omega
            have k2 : (j : Int) < (cs.length : Int) := by omega
            have hj6 : j ≤ 600 := by omega
            obtain ⟨pd, cd, hdv, hds⟩ := hA.dsl
            have HDS := Lib.hid hds
            clear hds
            obtain ⟨pf, cf, hfv, -⟩ := RS.slice hA.fds
            subst hdv
            subst hfv
            clear hA hAO hu hu0 cc0 hfar hx hfl hft hyl hbl hy6 h6
            go_upto_region 23 with (go_at_call 10; refine HPT.out.mono ?_; rintro e W1 ⟨M1, pD, cD, D, n, rfl, hd1, m1, hat1, hn1, hdat1, hrd1, hown1⟩)
            have hA1 := HA.out.put hd1 m1
            have hX1 := hA1.blk
            unfold gotc at hX1
            obtain ⟨⟨z0, z1, z2, z3, z4, z5, z6, z7, z8, z9⟩, -⟩ := ten_cells hX1
            obtain ⟨W2, hW2⟩ : ∃ W2, W1.alloc (.cells (gotc y (.slice pd y.1.data.length cd) (.slice pf y.1.fields.length cf)) 37) = W2 := ⟨_, rfl⟩
            have b2 : Below W1.heap.size W1 W2 := by rw [← hW2]; exact below_box _ _
            have zz2 : W2.heap.size = W1.heap.size + 1 := by rw [← hW2]; simp
            have j2 : W2.heap[W1.heap.size]? = some (.cells (gotc y (.slice pd y.1.data.length cd) (.slice pf y.1.fields.length cf)) 37 (0, 0)) := by rw [← hW2]; exact World.alloc_heap_new W1 _
            have hA2 := hA1.to b2
            have hXW : X < W1.heap.size := hA1.xlt
            have hwas := (ten_got9 (by unfold gotc at j2; exact j2)).2
            have HA2 := Lib.hid hA2
            have HJ2 := Lib.hid j2
            have HDD := Lib.hid (hrd1.below b2)
            have HDO := Lib.hid (fun g hg => And.intro (Nat.lt_of_lt_of_le (HA.out.xlt) (hown1 g hg).1) (show g < W2.heap.size by have := (hown1 g hg).2.1; omega))
            have HEQ := Lib.hid (And.intro hat1 (And.intro hn1 hdat1))
            have W2' := Lib.hid hW2
            unfold gotc at W2'
            obtain ⟨y1, hy1⟩ : ∃ y1, cont l y bs = y1 := ⟨_, rfl⟩
            rw [hy1] at HA2 HEQ
            rw [hy1]
            have HY1 := Lib.hid hy1
            clear hA1 hX1 hW2 j2 hA2 hd1 m1 hat1 hn1 hdat1 hrd1 hown1 HPT hy1 HA
            by_cases h4 : y.2.2 = 4
            case pos =>
              have h4i : ((y.2.2 : Nat) : Int) = 4 := by omega
              rw [h4i] at hwas
              rw [h4i] at W2'
              go_upto_region 25 with fail
              rw [W2'.out]
              have hA6 : A.length ≤ 600 := by rw [HAO.out.1]; exact HNX.out.2.2.2
              have hb6 : bs.length ≤ 600 := HNX.out.2.2.1
              obtain ⟨p5, l5, k5, w5, p6, k6, w6, r1, r2, hrd, hb5, hbw6⟩ := own_two9 W2.drew (RD.of_own (own_same HA2.out.own fun _ _ => rfl)) (HU.out.below HA2.out.below.drew) (by omega) (by omega)
              have d2 : Below W2.heap.size W2 W2.drew := (Below.refl _ W2).drew
              have K0 := Lib.hid (show Below w0.heap.size w0 W2.drew from HA2.out.below.drew)
              have K1 := Lib.hid (show Below w0.heap.size w0 (W2.alloc (.cells #[] 5)).drew from (ahead HA2.out.below (below_box W2 _)).drew)
              have b5 := ahead d2 hb5
              have b6 := ahead d2 hbw6
              have K5 := Lib.hid (ahead HA2.out.below b5)
              have K6 := Lib.hid (ahead HA2.out.below b6)
              have B6 := Lib.hid b6
              have R1 := Lib.hid (show (Builtin.append_ #[26, 26] 26 #[.slice (some ⟨W2.heap.size, 0, none⟩) 0 0, .slice pa na ca]).run Tryd.prog (W2.alloc (.cells #[] 5)).drew = .ok (.slice p5 l5 k5) w5 from r1)
              have R2 := Lib.hid r2
              have HSC := Lib.hid (rscanF_any w6 hrd (by simp; omega) HLM.out)
              rw [limv] at HSC
              obtain ⟨l6, hl6⟩ : ∃ l6, (A ++ bs).length = l6 := ⟨_, rfl⟩
              rw [hl6] at HSC R2
              have hXl := HA2.out.xlow
              have HRDS := Lib.hid (HAO.out.reads (b := bs) h4)
              clear r1 r2 hrd hb5 hbw6 d2 b5 b6 hl6 hA6 hb6 z0 z1 z2 z3 z4 z5 z6 z7 z8 z9
              go_region_held3 (fun W => W.cell? ⟨w.heap.size, 0, none⟩ = some (.int .i64 (l.ext : Int)) ∧ W.cell? ⟨w.heap.size, 1, none⟩ = some (.int .i64 (l.fields : Int)) ∧ W.cell? ⟨w.heap.size, 2, none⟩ = some (.int .i64 (l.bytes : Int)))
                ((refine KL.out _ ?_; first | with_reducible exact K0.out | with_reducible exact K1.out | with_reducible exact K5.out | with_reducible exact K6.out | with_reducible exact K7.out | exact ((((((((((K7.out.setCell hXl _).setCell hXl _).setCell hXl _).setCell hXl _).setCell hXl _).setCell hXl _).setCell hXl _).setCell hXl _).setCell hXl _).setCell hXl _)))
                (first
                | (refine step_append_run rfl (.tmp 77) (.tmp 78) 26 rfl (.slice (some ⟨W2.heap.size, 0, none⟩) 0 0) (.slice pa na ca) (.slice p5 l5 k5) w5 (by simp [Act.eval]) (by simp [Act.eval]) R1.out ?_)
                | (refine step_append_run rfl (.tmp 79) (.tmp 80) 26 rfl (.slice p5 l5 k5) (.slice pu bs.length cu) (.slice p6 l6 k6) w6 (by simp [Act.eval]) (by simp [Act.eval]) R2.out ?_)
                | (go_at_call 11; refine HSC.out.mono ?_; rintro e w7 ⟨s7, k7, e7, dv7, gv7, hgo, rfl, hd7, hf7, hb7, hg7⟩;
                   obtain ⟨rfl, rfl, rfl⟩ : s7 = y1.1 ∧ k7 = y1.2.1 ∧ e7 = y1.2.2 := (by have h1 := HRDS.out.symm.trans hgo; rw [HY1.out] at h1; rw [h1]; exact ⟨rfl, rfl, rfl⟩);
                   obtain ⟨pd7, cd7, rfl, -⟩ := id hd7; obtain ⟨pg7, cg7, rfl, -⟩ := RS.slice hf7;
                   have K7 := Lib.hid (ahead K6.out hb7); have HX7 := Lib.hid (And.intro hb7 (And.intro hd7 (And.intro hf7 hg7)));
                   obtain ⟨⟨z0, z1, z2, z3, z4, z5, z6, z7, z8, z9⟩, fz⟩ := ten_cells (by have := ((ahead B6.out hb7).block X HA2.out.xlt).trans HA2.out.blk; unfold gotc at this; exact this);
                   unfold gotv; clear hgo hd7 hf7 hb7 hg7))
              obtain ⟨hb7, hd7, hf7, hg7⟩ := HX7.out
              obtain ⟨hA8, hr8⟩ := (HA2.out.to B6.out).scan hb7 hd7 hf7 hg7 ⟨_, _, _, _, _, _, rfl, rfl⟩
              have hk8 : ∀ g, g < W2.heap.size → g ≠ X → (over10 w7 X (.int .i64 (y1.1.place : Int)) (.int .u64 (y1.1.n : Int)) (.int .i64 (y1.1.count : Int)) (.int .i64 (y1.1.lines : Int)) (.int .i64 (y1.1.size : Int)) (.string (arr y1.1.text)) (.slice pd7 y1.1.data.length cd7) (.slice pg7 y1.1.fields.length cg7) (.int .i64 (y1.2.1 : Int)) (.int .i64 (y1.2.2 : Int))).heap[g]? = W2.heap[g]? := fun g hg hne =>
                (over10_other _ _ _ _ _ _ _ _ _ _ _ _ hne).trans ((ahead B6.out hb7).block g hg)
              unfold over10 over8 at hA8 hr8 hk8
              generalize ((((((((((w7.setCell ⟨X, 0, none⟩ (.int .i64 (y1.1.place : Int))).setCell ⟨X, 1, none⟩ (.int .u64 (y1.1.n : Int))).setCell ⟨X, 2, none⟩ (.int .i64 (y1.1.count : Int))).setCell ⟨X, 3, none⟩ (.int .i64 (y1.1.lines : Int))).setCell ⟨X, 4, none⟩ (.int .i64 (y1.1.size : Int))).setCell ⟨X, 5, none⟩ (.string (arr y1.1.text))).setCell ⟨X, 6, none⟩ (.slice pd7 y1.1.data.length cd7)).setCell ⟨X, 7, none⟩ (.slice pg7 y1.1.fields.length cg7)).setCell ⟨X, 8, none⟩ (.int .i64 (y1.2.1 : Int))).setCell ⟨X, 9, none⟩ (.int .i64 (y1.2.2 : Int))) = W8 at hA8 hr8 hk8 ⊢
              have hD8 : RD W8 (.slice pD D.length cD) D := HDD.out.same fun g hg hlt' => hk8 g hlt' (by have := (HDO.out g hg).1; omega)
              have hwas8 : W8.cell? ⟨W1.heap.size, 9, none⟩ = some (.int .i64 4) := by
                have := (ten_got9 (by have h0 := (hk8 W1.heap.size (by omega) (by omega)).trans HJ2.out; unfold gotc at h0; exact h0)).2
                rw [h4i] at this
                exact this
              obtain ⟨hat1, hn1, hdat1⟩ := HEQ.out
              have hna : na = A.length := by
                obtain ⟨p', c', e, _⟩ := own_len9 hA8.own
                cases e
                rfl
              have hwant : IntKind.i64.wrap ((y1.2.1 : Int) - (na : Int)) = (n : Int) := by
                have h1 := HAO.out.1
                have h2 := HNX.out
                rw [IntWalk.i64_in _ (by omega)]; omega
              have hdl : y.1.data.length ≤ y1.1.data.length := by rw [hdat1]; simp
              obtain ⟨uv, huv⟩ : ∃ uv, sliced pd7 y.1.data.length y1.1.data.length cd7 1 = uv := ⟨_, rfl⟩
              have hcut : ∀ W, (Instr.slice 26 (.slice pd7 y1.1.data.length cd7) (some (.int .i64 (y.1.data.length : Int))) none none).run Tryd.prog W = .ok uv W := fun W => huv ▸ cut_l pd7 y1.1.data.length cd7 y.1.data.length hdl W
              have hr9 : RD W8 uv D := by
                have := hr8.part (i := y.1.data.length) (j := y1.1.data.length) (m := cd7) hdl (Nat.le_refl _) (by obtain ⟨_, _, e, h1, _⟩ := hA8.dsl; cases e; exact h1) (Nat.le_refl _)
                rw [huv, List.take_length, hdat1, List.drop_left] at this
                exact this
              have HSM := Lib.hid (rsame8_any W8 _ _ D D hD8 hr9)
              rw [decide_eq_true rfl] at HSM
              have HA8 := Lib.hid hA8
              obtain ⟨ub, hub⟩ : ∃ ub, sliced pu 0 n cu 1 = ub := ⟨_, rfl⟩
              have hbc : bs.length ≤ cu := by obtain ⟨_, _, e, h1, _⟩ := HU.out; cases e; exact h1
              have hub0 := HU.out.part (i := 0) (j := n) (m := cu) (Nat.zero_le _) hn1 (by omega) (Nat.le_refl _)
              rw [hub, List.drop_zero] at hub0
              have HUB := Lib.hid hub0
              have hcutb : ∀ W, (Instr.slice 26 (.slice pu bs.length cu) none (some (.int .i64 (n : Int))) none).run Tryd.prog W = .ok ub W := fun W => hub ▸ cut_h pu bs.length cu n (by omega) W
              have hX8 := hA8.blk
              unfold gotc at hX8
              obtain ⟨⟨z0, z1, z2, z3, z4, z5, z6, z7, z8, z9⟩, -⟩ := ten_cells hX8
              have hnb : (n : Int) ≤ (bs.length : Int) := by omega
              have hgb : ((y.1.data.length : Nat) : Int) ≤ ((y1.1.data.length : Nat) : Int) := by omega
              have HAO2 := Lib.hid (show AllOk l y1 (A ++ bs.take n) from by have := HAO.out.next (b := bs) (n := n) (by rw [HY1.out]; exact hat1) hn1; rw [HY1.out] at this; exact this)
              have HYL2 := Lib.hid (show y1.2.1 ≤ (cs.take (j + 1)).flatten.length from by have := HNX.out.1; have := HYL.out; omega)
              have hend := hA8.dec.end_le
              clear hA8 hX8 hD8 hr9 huv hub hub0 hbc hat1 hn1 hdat1 hr8 hk8 hb7 hd7 hf7 hg7 HX7 hna hdl
              by_cases hE : y1.2.2 = 4
              case pos =>
                have hE9 : ((y1.2.2 : Nat) : Int) = 4 := by omega
                rw [hE9] at z9
                rw [show told y1.2.2 = 0 from told_zero.2 (.inr hE)]
                go_upto_region 36 with (go_at_call 12; refine HSM.out.mono ?_; rintro e W9 ⟨rfl, ms, rfl⟩)
                have hA9 := HA8.out.to (below_drewN (Below.refl _ W8) ms)
                have hub9 : RD (W8.drewN ms) ub (bs.take n) := HUB.out.below hA9.below
                have hA6 : A.length ≤ 600 := by rw [HAO.out.1]; exact HNX.out.2.2.2
                obtain ⟨v', W10, r0, r1, r2, r3⟩ := append_rd9 (W8.drewN ms) 26 (X + 1) (.slice pa na ca) ub A (bs.take n) hA9.own hub9 (by have := HNX.out.2.2.1; simp; omega) hA9.xlt
                have hA10 := hA9.more r1 r2 r3
                obtain ⟨p9, c9, rfl, -⟩ := own_len9 r1
                have hlen := HAO2.out.1
                rw [hlen] at r0 hA10
                have HR := Lib.hid r0
                have HA10 := Lib.hid hA10
                have hX10 := hA10.blk
                unfold gotc at hX10
                have KX : Hid (∀ W, Below W10.heap.size W10 W → W.cell? ⟨X, 0, none⟩ = some (.int .i64 (y1.1.place : Int)) ∧ W.cell? ⟨X, 1, none⟩ = some (.int .u64 (y1.1.n : Int)) ∧ W.cell? ⟨X, 2, none⟩ = some (.int .i64 (y1.1.count : Int)) ∧ W.cell? ⟨X, 3, none⟩ = some (.int .i64 (y1.1.lines : Int)) ∧ W.cell? ⟨X, 4, none⟩ = some (.int .i64 (y1.1.size : Int)) ∧ W.cell? ⟨X, 5, none⟩ = some (.string (arr y1.1.text)) ∧ W.cell? ⟨X, 6, none⟩ = some (.slice pd7 y1.1.data.length cd7) ∧ W.cell? ⟨X, 7, none⟩ = some (.slice pg7 y1.1.fields.length cg7) ∧ W.cell? ⟨X, 9, none⟩ = some (.int .i64 (4))) := Lib.hid fun W hW => by
                  obtain ⟨⟨q0, q1, q2, q3, q4, q5, q6, q7, q8, q9⟩, -⟩ := ten_cells ((hW.block X hA10.xlt).trans hX10)
                  exact ⟨q0, q1, q2, q3, q4, q5, q6, q7, (q9.trans (by rw [hE9]))⟩
                clear z0 z1 z2 z3 z4 z5 z6 z7 z8 z9
                obtain ⟨⟨z0, z1, z2, z3, z4, z5, z6, z7, z8, z9⟩, -⟩ := ten_cells hX10
                rw [hE9] at z9
                have HDN : Hid (∀ W, Below W10.heap.size W10 W → _) := Lib.hid fun W hW => doneX W (hA10.dec.below hW)
                have HER : Hid (∀ W, Below W10.heap.size W10 W → _) := Lib.hid fun W hW => errX W (hA10.dec.below hW)
                have HTK : Hid (∀ W, Below W10.heap.size W10 W → _) := Lib.hid fun W hW => takenX W (hA10.dec.below hW)
                have HGV : Hid (∀ W, Below W10.heap.size W10 W → _) := Lib.hid fun W hW => givenX W (hA10.dec.below hW)
                have HLF : Hid (∀ W, Below W10.heap.size W10 W → _) := Lib.hid fun W hW => leftXA W (hA10.dec.below hW)
                have HFX : Hid (∀ W, Below W10.heap.size W10 W → _) := Lib.hid fun W hW => fieldsXA W (hA10.dec.below hW) HLM.out.2.1
                have HLL : Hid (∀ W, _) := Lib.hid fun W => lawLeft_any y1.1.place y1.1.n y1.1.count y1.1.lines y1.1.size (arr y1.1.text) (.slice pd7 y1.1.data.length cd7) (.slice pg7 y1.1.fields.length cg7) W ⟨_, _, _, _, _, _, rfl, rfl⟩
                rw [show (if y1.1.place = 3 then y1.1.n else 0) = leftX y1 from rfl] at HLL
                have HFL := Lib.hid (show (fieldsX y1).length ≤ 1000000 by have := hA10.dec.fields_le; have := HLM.out.2.1; omega)
                have HFS : Hid (∀ W, Below W10.heap.size W10 W → FS W (.slice none 0 0) (fieldsX y1)) := Lib.hid fun W hW => by
                  unfold fieldsX
                  rw [if_neg (by omega)]; exact RS.nil _ _
                rw [show told y1.2.2 = 0 from told_zero.2 (.inr hE)] at HER
                rw [decide_eq_false (show ¬ y1.2.2 = 0 by omega)] at HDN
                have BA : Hid (Below W10.heap.size W10 W10.drew) := Lib.hid (below_drewN (Below.refl _ W10) 1)
                generalize leftX y1 = lx at HLL HLF
                generalize fieldsX y1 = fx at HFX HFS HFL
                clear hA9 hub9 hA6 r0 r1 r2 r3 hA10 hX10 hlen HA8 HUB HSM hcut
                go_upto_region 40 with (at_builtin; refine wpList_append_run rfl (.tmp 120) (.tmp 123) 26 rfl _ _ _ _ rfl rfl HR.out ?_)
                go_region_held3 (fun W => W.cell? ⟨X, 0, none⟩ = some (.int .i64 (y1.1.place : Int)) ∧ W.cell? ⟨X, 1, none⟩ = some (.int .u64 (y1.1.n : Int)) ∧ W.cell? ⟨X, 2, none⟩ = some (.int .i64 (y1.1.count : Int)) ∧ W.cell? ⟨X, 3, none⟩ = some (.int .i64 (y1.1.lines : Int)) ∧ W.cell? ⟨X, 4, none⟩ = some (.int .i64 (y1.1.size : Int)) ∧ W.cell? ⟨X, 5, none⟩ = some (.string (arr y1.1.text)) ∧ W.cell? ⟨X, 6, none⟩ = some (.slice pd7 y1.1.data.length cd7) ∧ W.cell? ⟨X, 7, none⟩ = some (.slice pg7 y1.1.fields.length cg7) ∧ W.cell? ⟨X, 9, none⟩ = some (.int .i64 (4)))
                  ((refine KX.out _ ?_; with_reducible exact BA.out))
                  (first
                  | (go_at_call 13; refine (HDN.out _ BA.out).mono ?_; rintro e w' ⟨rfl, rfl⟩)
                  | (go_at_call 14; refine (HER.out _ BA.out).mono ?_; rintro e w' ⟨rfl, rfl⟩)
                  | (go_at_call 15; refine (HTK.out _ BA.out).mono ?_; rintro e w' ⟨rfl, rfl⟩)
                  | (go_at_call 16; refine (HGV.out _ BA.out).mono ?_; rintro e w' ⟨rfl, rfl⟩)
                  | (go_at_call 17; refine (HLF.out _ BA.out).mono ?_; rintro e w' ⟨rfl, rfl⟩)
                  | (go_at_call 18; refine (HLL.out _).mono ?_; rintro e w' ⟨rfl, hb'⟩; replace BA := Lib.hid (ahead BA.out hb'); clear hb')
                  | (go_at_call 20; refine (HFX.out _ BA.out).mono ?_; rintro e w' ⟨u1, rfl, hu1, hb'⟩; have HU1 := Lib.hid hu1; obtain ⟨qf, cf', rfl, -⟩ := RS.slice hu1; replace BA := Lib.hid (ahead BA.out hb'); clear hb' hu1)
                  | (go_at_call 19; refine (fields_any fx fx _ _ _ HU1.out (HFS.out _ BA.out) HFL.out HFL.out rfl).mono ?_; rintro e w' ⟨rfl, hb'⟩; replace BA := Lib.hid (ahead BA.out hb'); clear hb'))
                all_goals
                  have HPA := Lib.hid (HA10.out.to BA.out)
                  clear HDN HER HTK HGV HLF HFX HLL HFS KX BA z0 z1 z2 z3 z4 z5 z6 z7 z8 z9
                  go_wp2_with fail
                  go_roundw
                  case rel => exact ⟨j + 1, M1, y1, A ++ bs.take n, p9, _, c9, _, _, by omega, rfl, rfl, by go_num, HPA.out, HAO2.out, HYL2⟩
                  case measure => simp only [intOf]; omega
              case neg =>
                by_cases hE' : y1.2.2 = 0
                case pos =>
                  have hE := hE'
                  have hE9 : ((y1.2.2 : Nat) : Int) = 0 := by omega
                  rw [hE9] at z9
                  rw [show told y1.2.2 = 0 from told_zero.2 (.inl hE)]
                  go_upto_region 36 with (go_at_call 12; refine HSM.out.mono ?_; rintro e W9 ⟨rfl, ms, rfl⟩)
                  have hA9 := HA8.out.to (below_drewN (Below.refl _ W8) ms)
                  have hub9 : RD (W8.drewN ms) ub (bs.take n) := HUB.out.below hA9.below
                  have hA6 : A.length ≤ 600 := by rw [HAO.out.1]; exact HNX.out.2.2.2
                  obtain ⟨v', W10, r0, r1, r2, r3⟩ := append_rd9 (W8.drewN ms) 26 (X + 1) (.slice pa na ca) ub A (bs.take n) hA9.own hub9 (by have := HNX.out.2.2.1; simp; omega) hA9.xlt
                  have hA10 := hA9.more r1 r2 r3
                  obtain ⟨p9, c9, rfl, -⟩ := own_len9 r1
                  have hlen := HAO2.out.1
                  rw [hlen] at r0 hA10
                  have HR := Lib.hid r0
                  have HA10 := Lib.hid hA10
                  have hX10 := hA10.blk
                  unfold gotc at hX10
                  have KX : Hid (∀ W, Below W10.heap.size W10 W → W.cell? ⟨X, 0, none⟩ = some (.int .i64 (y1.1.place : Int)) ∧ W.cell? ⟨X, 1, none⟩ = some (.int .u64 (y1.1.n : Int)) ∧ W.cell? ⟨X, 2, none⟩ = some (.int .i64 (y1.1.count : Int)) ∧ W.cell? ⟨X, 3, none⟩ = some (.int .i64 (y1.1.lines : Int)) ∧ W.cell? ⟨X, 4, none⟩ = some (.int .i64 (y1.1.size : Int)) ∧ W.cell? ⟨X, 5, none⟩ = some (.string (arr y1.1.text)) ∧ W.cell? ⟨X, 6, none⟩ = some (.slice pd7 y1.1.data.length cd7) ∧ W.cell? ⟨X, 7, none⟩ = some (.slice pg7 y1.1.fields.length cg7) ∧ W.cell? ⟨X, 9, none⟩ = some (.int .i64 (0))) := Lib.hid fun W hW => by
                    obtain ⟨⟨q0, q1, q2, q3, q4, q5, q6, q7, q8, q9⟩, -⟩ := ten_cells ((hW.block X hA10.xlt).trans hX10)
                    exact ⟨q0, q1, q2, q3, q4, q5, q6, q7, (q9.trans (by rw [hE9]))⟩
                  clear z0 z1 z2 z3 z4 z5 z6 z7 z8 z9
                  obtain ⟨⟨z0, z1, z2, z3, z4, z5, z6, z7, z8, z9⟩, -⟩ := ten_cells hX10
                  rw [hE9] at z9
                  have HDN : Hid (∀ W, Below W10.heap.size W10 W → _) := Lib.hid fun W hW => doneX W (hA10.dec.below hW)
                  have HER : Hid (∀ W, Below W10.heap.size W10 W → _) := Lib.hid fun W hW => errX W (hA10.dec.below hW)
                  have HTK : Hid (∀ W, Below W10.heap.size W10 W → _) := Lib.hid fun W hW => takenX W (hA10.dec.below hW)
                  have HGV : Hid (∀ W, Below W10.heap.size W10 W → _) := Lib.hid fun W hW => givenX W (hA10.dec.below hW)
                  have HLF : Hid (∀ W, Below W10.heap.size W10 W → _) := Lib.hid fun W hW => leftXA W (hA10.dec.below hW)
                  have HFX : Hid (∀ W, Below W10.heap.size W10 W → _) := Lib.hid fun W hW => fieldsXA W (hA10.dec.below hW) HLM.out.2.1
                  have HLL : Hid (∀ W, _) := Lib.hid fun W => lawLeft_any y1.1.place y1.1.n y1.1.count y1.1.lines y1.1.size (arr y1.1.text) (.slice pd7 y1.1.data.length cd7) (.slice pg7 y1.1.fields.length cg7) W ⟨_, _, _, _, _, _, rfl, rfl⟩
                  rw [show (if y1.1.place = 3 then y1.1.n else 0) = leftX y1 from rfl] at HLL
                  have HFL := Lib.hid (show (fieldsX y1).length ≤ 1000000 by have := hA10.dec.fields_le; have := HLM.out.2.1; omega)
                  have HFS : Hid (∀ W, Below W10.heap.size W10 W → FS W (.slice pg7 y1.1.fields.length cg7) (fieldsX y1)) := Lib.hid fun W hW => by
                    unfold fieldsX
                    rw [if_pos hE]; exact FS.below hA10.fds hW
                  rw [show told y1.2.2 = 0 from told_zero.2 (.inl hE)] at HER
                  rw [decide_eq_true hE] at HDN
                  have BA : Hid (Below W10.heap.size W10 W10.drew) := Lib.hid (below_drewN (Below.refl _ W10) 1)
                  generalize leftX y1 = lx at HLL HLF
                  generalize fieldsX y1 = fx at HFX HFS HFL
                  clear hA9 hub9 hA6 r0 r1 r2 r3 hA10 hX10 hlen HA8 HUB HSM hcut
                  go_upto_region 40 with (at_builtin; refine wpList_append_run rfl (.tmp 120) (.tmp 123) 26 rfl _ _ _ _ rfl rfl HR.out ?_)
                  go_region_held3 (fun W => W.cell? ⟨X, 0, none⟩ = some (.int .i64 (y1.1.place : Int)) ∧ W.cell? ⟨X, 1, none⟩ = some (.int .u64 (y1.1.n : Int)) ∧ W.cell? ⟨X, 2, none⟩ = some (.int .i64 (y1.1.count : Int)) ∧ W.cell? ⟨X, 3, none⟩ = some (.int .i64 (y1.1.lines : Int)) ∧ W.cell? ⟨X, 4, none⟩ = some (.int .i64 (y1.1.size : Int)) ∧ W.cell? ⟨X, 5, none⟩ = some (.string (arr y1.1.text)) ∧ W.cell? ⟨X, 6, none⟩ = some (.slice pd7 y1.1.data.length cd7) ∧ W.cell? ⟨X, 7, none⟩ = some (.slice pg7 y1.1.fields.length cg7) ∧ W.cell? ⟨X, 9, none⟩ = some (.int .i64 (0)))
                    ((refine KX.out _ ?_; with_reducible exact BA.out))
                    (first
                    | (go_at_call 13; refine (HDN.out _ BA.out).mono ?_; rintro e w' ⟨rfl, rfl⟩)
                    | (go_at_call 14; refine (HER.out _ BA.out).mono ?_; rintro e w' ⟨rfl, rfl⟩)
                    | (go_at_call 15; refine (HTK.out _ BA.out).mono ?_; rintro e w' ⟨rfl, rfl⟩)
                    | (go_at_call 16; refine (HGV.out _ BA.out).mono ?_; rintro e w' ⟨rfl, rfl⟩)
                    | (go_at_call 17; refine (HLF.out _ BA.out).mono ?_; rintro e w' ⟨rfl, rfl⟩)
                    | (go_at_call 18; refine (HLL.out _).mono ?_; rintro e w' ⟨rfl, hb'⟩; replace BA := Lib.hid (ahead BA.out hb'); clear hb')
                    | (go_at_call 20; refine (HFX.out _ BA.out).mono ?_; rintro e w' ⟨u1, rfl, hu1, hb'⟩; have HU1 := Lib.hid hu1; obtain ⟨qf, cf', rfl, -⟩ := RS.slice hu1; replace BA := Lib.hid (ahead BA.out hb'); clear hb' hu1)
                    | (go_at_call 19; refine (fields_any fx fx _ _ _ HU1.out (HFS.out _ BA.out) HFL.out HFL.out rfl).mono ?_; rintro e w' ⟨rfl, hb'⟩; replace BA := Lib.hid (ahead BA.out hb'); clear hb'))
                  all_goals
                    have HPA := Lib.hid (HA10.out.to BA.out)
                    clear HDN HER HTK HGV HLF HFX HLL HFS KX BA z0 z1 z2 z3 z4 z5 z6 z7 z8 z9
                    go_wp2_with fail
                    go_roundw
                    case rel => exact ⟨j + 1, M1, y1, A ++ bs.take n, p9, _, c9, _, _, by omega, rfl, rfl, by go_num, HPA.out, HAO2.out, HYL2⟩
                    case measure => simp only [intOf]; omega
                case neg =>
                  have hE9 : (((y1.2.2 : Nat) : Int) != 4) = true := by unfold bne; rw [beq_eq_false_iff_ne.2 (by omega)]; rfl
                  have hE8 : (((y1.2.2 : Nat) : Int) == 0) = false := beq_eq_false_iff_ne.2 (by omega)
                  have hE7 : told y1.2.2 = y1.2.2 := by unfold told; rw [if_neg (by omega)]
                  rw [hE7]
                  go_upto_region 36 with (go_at_call 12; refine HSM.out.mono ?_; rintro e W9 ⟨rfl, ms, rfl⟩)
                  have hA9 := HA8.out.to (below_drewN (Below.refl _ W8) ms)
                  have hub9 : RD (W8.drewN ms) ub (bs.take n) := HUB.out.below hA9.below
                  have hA6 : A.length ≤ 600 := by rw [HAO.out.1]; exact HNX.out.2.2.2
                  obtain ⟨v', W10, r0, r1, r2, r3⟩ := append_rd9 (W8.drewN ms) 26 (X + 1) (.slice pa na ca) ub A (bs.take n) hA9.own hub9 (by have := HNX.out.2.2.1; simp; omega) hA9.xlt
                  have hA10 := hA9.more r1 r2 r3
                  obtain ⟨p9, c9, rfl, -⟩ := own_len9 r1
                  have hlen := HAO2.out.1
                  rw [hlen] at r0 hA10
                  have HR := Lib.hid r0
                  have HA10 := Lib.hid hA10
                  have hX10 := hA10.blk
                  unfold gotc at hX10
                  have KX : Hid (∀ W, Below W10.heap.size W10 W → W.cell? ⟨X, 0, none⟩ = some (.int .i64 (y1.1.place : Int)) ∧ W.cell? ⟨X, 1, none⟩ = some (.int .u64 (y1.1.n : Int)) ∧ W.cell? ⟨X, 2, none⟩ = some (.int .i64 (y1.1.count : Int)) ∧ W.cell? ⟨X, 3, none⟩ = some (.int .i64 (y1.1.lines : Int)) ∧ W.cell? ⟨X, 4, none⟩ = some (.int .i64 (y1.1.size : Int)) ∧ W.cell? ⟨X, 5, none⟩ = some (.string (arr y1.1.text)) ∧ W.cell? ⟨X, 6, none⟩ = some (.slice pd7 y1.1.data.length cd7) ∧ W.cell? ⟨X, 7, none⟩ = some (.slice pg7 y1.1.fields.length cg7) ∧ W.cell? ⟨X, 9, none⟩ = some (.int .i64 (y1.2.2 : Int))) := Lib.hid fun W hW => by
                    obtain ⟨⟨q0, q1, q2, q3, q4, q5, q6, q7, q8, q9⟩, -⟩ := ten_cells ((hW.block X hA10.xlt).trans hX10)
                    exact ⟨q0, q1, q2, q3, q4, q5, q6, q7, q9⟩
                  clear z0 z1 z2 z3 z4 z5 z6 z7 z8 z9
                  obtain ⟨⟨z0, z1, z2, z3, z4, z5, z6, z7, z8, z9⟩, -⟩ := ten_cells hX10
                  have HDN : Hid (∀ W, Below W10.heap.size W10 W → _) := Lib.hid fun W hW => doneX W (hA10.dec.below hW)
                  have HER : Hid (∀ W, Below W10.heap.size W10 W → _) := Lib.hid fun W hW => errX W (hA10.dec.below hW)
                  have HTK : Hid (∀ W, Below W10.heap.size W10 W → _) := Lib.hid fun W hW => takenX W (hA10.dec.below hW)
                  have HGV : Hid (∀ W, Below W10.heap.size W10 W → _) := Lib.hid fun W hW => givenX W (hA10.dec.below hW)
                  have HLF : Hid (∀ W, Below W10.heap.size W10 W → _) := Lib.hid fun W hW => leftXA W (hA10.dec.below hW)
                  have HFX : Hid (∀ W, Below W10.heap.size W10 W → _) := Lib.hid fun W hW => fieldsXA W (hA10.dec.below hW) HLM.out.2.1
                  have HLL : Hid (∀ W, _) := Lib.hid fun W => lawLeft_any y1.1.place y1.1.n y1.1.count y1.1.lines y1.1.size (arr y1.1.text) (.slice pd7 y1.1.data.length cd7) (.slice pg7 y1.1.fields.length cg7) W ⟨_, _, _, _, _, _, rfl, rfl⟩
                  rw [show (if y1.1.place = 3 then y1.1.n else 0) = leftX y1 from rfl] at HLL
                  have HFL := Lib.hid (show (fieldsX y1).length ≤ 1000000 by have := hA10.dec.fields_le; have := HLM.out.2.1; omega)
                  have HFS : Hid (∀ W, Below W10.heap.size W10 W → FS W (.slice none 0 0) (fieldsX y1)) := Lib.hid fun W hW => by
                    unfold fieldsX
                    rw [if_neg (by omega)]; exact RS.nil _ _
                  rw [hE7] at HER
                  rw [decide_eq_false (show ¬ y1.2.2 = 0 by omega)] at HDN
                  have BA : Hid (Below W10.heap.size W10 W10.drew) := Lib.hid (below_drewN (Below.refl _ W10) 1)
                  generalize leftX y1 = lx at HLL HLF
                  generalize fieldsX y1 = fx at HFX HFS HFL
                  clear hA9 hub9 hA6 r0 r1 r2 r3 hA10 hX10 hlen HA8 HUB HSM hcut
                  go_upto_region 40 with (at_builtin; refine wpList_append_run rfl (.tmp 120) (.tmp 123) 26 rfl _ _ _ _ rfl rfl HR.out ?_)
                  go_region_held3 (fun W => W.cell? ⟨X, 0, none⟩ = some (.int .i64 (y1.1.place : Int)) ∧ W.cell? ⟨X, 1, none⟩ = some (.int .u64 (y1.1.n : Int)) ∧ W.cell? ⟨X, 2, none⟩ = some (.int .i64 (y1.1.count : Int)) ∧ W.cell? ⟨X, 3, none⟩ = some (.int .i64 (y1.1.lines : Int)) ∧ W.cell? ⟨X, 4, none⟩ = some (.int .i64 (y1.1.size : Int)) ∧ W.cell? ⟨X, 5, none⟩ = some (.string (arr y1.1.text)) ∧ W.cell? ⟨X, 6, none⟩ = some (.slice pd7 y1.1.data.length cd7) ∧ W.cell? ⟨X, 7, none⟩ = some (.slice pg7 y1.1.fields.length cg7) ∧ W.cell? ⟨X, 9, none⟩ = some (.int .i64 (y1.2.2 : Int)))
                    ((refine KX.out _ ?_; with_reducible exact BA.out))
                    (first
                    | (go_at_call 13; refine (HDN.out _ BA.out).mono ?_; rintro e w' ⟨rfl, rfl⟩)
                    | (go_at_call 14; refine (HER.out _ BA.out).mono ?_; rintro e w' ⟨rfl, rfl⟩)
                    | (go_at_call 15; refine (HTK.out _ BA.out).mono ?_; rintro e w' ⟨rfl, rfl⟩)
                    | (go_at_call 16; refine (HGV.out _ BA.out).mono ?_; rintro e w' ⟨rfl, rfl⟩)
                    | (go_at_call 17; refine (HLF.out _ BA.out).mono ?_; rintro e w' ⟨rfl, rfl⟩)
                    | (go_at_call 18; refine (HLL.out _).mono ?_; rintro e w' ⟨rfl, hb'⟩; replace BA := Lib.hid (ahead BA.out hb'); clear hb')
                    | (go_at_call 20; refine (HFX.out _ BA.out).mono ?_; rintro e w' ⟨u1, rfl, hu1, hb'⟩; have HU1 := Lib.hid hu1; obtain ⟨qf, cf', rfl, -⟩ := RS.slice hu1; replace BA := Lib.hid (ahead BA.out hb'); clear hb' hu1)
                    | (go_at_call 19; refine (fields_any fx fx _ _ _ HU1.out (HFS.out _ BA.out) HFL.out HFL.out rfl).mono ?_; rintro e w' ⟨rfl, hb'⟩; replace BA := Lib.hid (ahead BA.out hb'); clear hb'))
                  all_goals
                    have HPA := Lib.hid (HA10.out.to BA.out)
                    clear HDN HER HTK HGV HLF HFX HLL HFS KX BA z0 z1 z2 z3 z4 z5 z6 z7 z8 z9
                    go_wp2_with fail
                    go_roundw
                    case rel => exact ⟨j + 1, M1, y1, A ++ bs.take n, p9, _, c9, _, _, by omega, rfl, rfl, by go_num, HPA.out, HAO2.out, HYL2⟩
                    case measure => simp only [intOf]; omega
            case neg =>
              have h4i : ((y.2.2 : Nat) : Int) ≠ 4 := by omega
              have h4b : (((y.2.2 : Nat) : Int) == 4) = false := beq_eq_false_iff_ne.2 h4i
              have h4c : (((y.2.2 : Nat) : Int) != 4) = true := by unfold bne; rw [h4b]; rfl
              obtain rfl : y1 = y := by rw [← HY1.out]; exact cont_end _ h4
              obtain ⟨hat1, hn1, hdat1⟩ := HEQ.out
              obtain rfl : n = 0 := by omega
              have hD0 : D = [] := List.self_eq_append_right.1 hdat1
              have hA8 := HA2.out
              have hD8 := HDD.out
              have hwas8 := hwas
              have hna : na = A.length := by
                obtain ⟨p', c', e, _⟩ := own_len9 hA8.own
                cases e
                rfl
              obtain ⟨uv, huv⟩ : ∃ uv, sliced pd y1.1.data.length y1.1.data.length cd 1 = uv := ⟨_, rfl⟩
              have hcut : ∀ W, (Instr.slice 26 (.slice pd y1.1.data.length cd) (some (.int .i64 (y1.1.data.length : Int))) none none).run Tryd.prog W = .ok uv W := fun W => huv ▸ cut_l pd y1.1.data.length cd y1.1.data.length (Nat.le_refl _) W
              have hr9 : RD W2 uv D := by rw [hD0, ← huv]; exact rd_cut_nil HDS.out.1 HDS.out.2.1 HDS.out.2.2 _
              clear hD0
              have hwant : IntKind.i64.wrap ((y1.2.1 : Int) - (na : Int)) = 0 := by
                have h1 := HAO.out.1
                rw [IntWalk.i64_in _ (by omega)]; omega
              have HSM := Lib.hid (rsame8_any W2 _ _ D D hD8 hr9)
              rw [decide_eq_true rfl] at HSM
              have HA8 := Lib.hid hA8
              obtain ⟨ub, hub⟩ : ∃ ub, sliced pu 0 0 cu 1 = ub := ⟨_, rfl⟩
              have hbc : bs.length ≤ cu := by obtain ⟨_, _, e, h1, _⟩ := HU.out; cases e; exact h1
              have hub0 := HU.out.part (i := 0) (j := 0) (m := cu) (Nat.zero_le _) hn1 (by omega) (Nat.le_refl _)
              rw [hub, List.drop_zero] at hub0
              have HUB := Lib.hid hub0
              have hcutb : ∀ W, (Instr.slice 26 (.slice pu bs.length cu) none (some (.int .i64 0)) none).run Tryd.prog W = .ok ub W := fun W => hub ▸ cut_h pu bs.length cu 0 (by omega) W
              have hX8 := hA8.blk
              unfold gotc at hX8
              obtain ⟨⟨z0, z1, z2, z3, z4, z5, z6, z7, z8, z9⟩, -⟩ := ten_cells hX8
              have hnb : ((0 : Nat) : Int) ≤ (bs.length : Int) := by omega
              have hgb : ((y1.1.data.length : Nat) : Int) ≤ ((y1.1.data.length : Nat) : Int) := by omega
              have HAO2 := Lib.hid (show AllOk l y1 (A ++ bs.take 0) from by have := HAO.out.next (b := bs) (n := 0) (by rw [HY1.out]; exact hat1) hn1; rw [HY1.out] at this; exact this)
              have HYL2 := Lib.hid (show y1.2.1 ≤ (cs.take (j + 1)).flatten.length from by have := HNX.out.1; have := HYL.out; omega)
              have hend := hA8.dec.end_le
              clear hA8 hX8 hD8 hr9 huv hub hub0 hbc hat1 hn1 hdat1 hna
              have hE : ¬ y1.2.2 = 4 := h4
              by_cases hE' : y1.2.2 = 0
              case pos =>
                have hE := hE'
                have hE9 : ((y1.2.2 : Nat) : Int) = 0 := by omega
                rw [hE9] at z9
                rw [show told y1.2.2 = 0 from told_zero.2 (.inl hE)]
                rw [hE9] at W2'
                go_upto_region 26 with fail
                rw [W2'.out]
                go_upto_region 36 with (go_at_call 12; refine HSM.out.mono ?_; rintro e W9 ⟨rfl, ms, rfl⟩)
                have hA9 := HA8.out.to (below_drewN (Below.refl _ W2) ms)
                have hub9 : RD (W2.drewN ms) ub (bs.take 0) := HUB.out.below hA9.below
                have hA6 : A.length ≤ 600 := by rw [HAO.out.1]; exact HNX.out.2.2.2
                obtain ⟨v', W10, r0, r1, r2, r3⟩ := append_rd9 (W2.drewN ms) 26 (X + 1) (.slice pa na ca) ub A (bs.take 0) hA9.own hub9 (by have := HNX.out.2.2.1; simp; omega) hA9.xlt
                have hA10 := hA9.more r1 r2 r3
                obtain ⟨p9, c9, rfl, -⟩ := own_len9 r1
                have hlen := HAO2.out.1
                rw [hlen] at r0 hA10
                have HR := Lib.hid r0
                have HA10 := Lib.hid hA10
                have hX10 := hA10.blk
                unfold gotc at hX10
                have KX : Hid (∀ W, Below W10.heap.size W10 W → W.cell? ⟨X, 0, none⟩ = some (.int .i64 (y1.1.place : Int)) ∧ W.cell? ⟨X, 1, none⟩ = some (.int .u64 (y1.1.n : Int)) ∧ W.cell? ⟨X, 2, none⟩ = some (.int .i64 (y1.1.count : Int)) ∧ W.cell? ⟨X, 3, none⟩ = some (.int .i64 (y1.1.lines : Int)) ∧ W.cell? ⟨X, 4, none⟩ = some (.int .i64 (y1.1.size : Int)) ∧ W.cell? ⟨X, 5, none⟩ = some (.string (arr y1.1.text)) ∧ W.cell? ⟨X, 6, none⟩ = some (.slice pd y1.1.data.length cd) ∧ W.cell? ⟨X, 7, none⟩ = some (.slice pf y1.1.fields.length cf) ∧ W.cell? ⟨X, 9, none⟩ = some (.int .i64 (0))) := Lib.hid fun W hW => by
                  obtain ⟨⟨q0, q1, q2, q3, q4, q5, q6, q7, q8, q9⟩, -⟩ := ten_cells ((hW.block X hA10.xlt).trans hX10)
                  exact ⟨q0, q1, q2, q3, q4, q5, q6, q7, (q9.trans (by rw [hE9]))⟩
                clear z0 z1 z2 z3 z4 z5 z6 z7 z8 z9
                obtain ⟨⟨z0, z1, z2, z3, z4, z5, z6, z7, z8, z9⟩, -⟩ := ten_cells hX10
                rw [hE9] at z9
                have HDN : Hid (∀ W, Below W10.heap.size W10 W → _) := Lib.hid fun W hW => doneX W (hA10.dec.below hW)
                have HER : Hid (∀ W, Below W10.heap.size W10 W → _) := Lib.hid fun W hW => errX W (hA10.dec.below hW)
                have HTK : Hid (∀ W, Below W10.heap.size W10 W → _) := Lib.hid fun W hW => takenX W (hA10.dec.below hW)
                have HGV : Hid (∀ W, Below W10.heap.size W10 W → _) := Lib.hid fun W hW => givenX W (hA10.dec.below hW)
                have HLF : Hid (∀ W, Below W10.heap.size W10 W → _) := Lib.hid fun W hW => leftXA W (hA10.dec.below hW)
                have HFX : Hid (∀ W, Below W10.heap.size W10 W → _) := Lib.hid fun W hW => fieldsXA W (hA10.dec.below hW) HLM.out.2.1
                have HLL : Hid (∀ W, _) := Lib.hid fun W => lawLeft_any y1.1.place y1.1.n y1.1.count y1.1.lines y1.1.size (arr y1.1.text) (.slice pd y1.1.data.length cd) (.slice pf y1.1.fields.length cf) W ⟨_, _, _, _, _, _, rfl, rfl⟩
                rw [show (if y1.1.place = 3 then y1.1.n else 0) = leftX y1 from rfl] at HLL
                have HFL := Lib.hid (show (fieldsX y1).length ≤ 1000000 by have := hA10.dec.fields_le; have := HLM.out.2.1; omega)
                have HFS : Hid (∀ W, Below W10.heap.size W10 W → FS W (.slice pf y1.1.fields.length cf) (fieldsX y1)) := Lib.hid fun W hW => by
                  unfold fieldsX
                  rw [if_pos hE]; exact FS.below hA10.fds hW
                rw [show told y1.2.2 = 0 from told_zero.2 (.inl hE)] at HER
                rw [decide_eq_true hE] at HDN
                have BA : Hid (Below W10.heap.size W10 W10.drew) := Lib.hid (below_drewN (Below.refl _ W10) 1)
                generalize leftX y1 = lx at HLL HLF
                generalize fieldsX y1 = fx at HFX HFS HFL
                clear hA9 hub9 hA6 r0 r1 r2 r3 hA10 hX10 hlen HA8 HUB HSM hcut
                go_upto_region 40 with (at_builtin; refine wpList_append_run rfl (.tmp 120) (.tmp 123) 26 rfl _ _ _ _ rfl rfl HR.out ?_)
                go_region_held3 (fun W => W.cell? ⟨X, 0, none⟩ = some (.int .i64 (y1.1.place : Int)) ∧ W.cell? ⟨X, 1, none⟩ = some (.int .u64 (y1.1.n : Int)) ∧ W.cell? ⟨X, 2, none⟩ = some (.int .i64 (y1.1.count : Int)) ∧ W.cell? ⟨X, 3, none⟩ = some (.int .i64 (y1.1.lines : Int)) ∧ W.cell? ⟨X, 4, none⟩ = some (.int .i64 (y1.1.size : Int)) ∧ W.cell? ⟨X, 5, none⟩ = some (.string (arr y1.1.text)) ∧ W.cell? ⟨X, 6, none⟩ = some (.slice pd y1.1.data.length cd) ∧ W.cell? ⟨X, 7, none⟩ = some (.slice pf y1.1.fields.length cf) ∧ W.cell? ⟨X, 9, none⟩ = some (.int .i64 (0)))
                  ((refine KX.out _ ?_; with_reducible exact BA.out))
                  (first
                  | (go_at_call 13; refine (HDN.out _ BA.out).mono ?_; rintro e w' ⟨rfl, rfl⟩)
                  | (go_at_call 14; refine (HER.out _ BA.out).mono ?_; rintro e w' ⟨rfl, rfl⟩)
                  | (go_at_call 15; refine (HTK.out _ BA.out).mono ?_; rintro e w' ⟨rfl, rfl⟩)
                  | (go_at_call 16; refine (HGV.out _ BA.out).mono ?_; rintro e w' ⟨rfl, rfl⟩)
                  | (go_at_call 17; refine (HLF.out _ BA.out).mono ?_; rintro e w' ⟨rfl, rfl⟩)
                  | (go_at_call 18; refine (HLL.out _).mono ?_; rintro e w' ⟨rfl, hb'⟩; replace BA := Lib.hid (ahead BA.out hb'); clear hb')
                  | (go_at_call 20; refine (HFX.out _ BA.out).mono ?_; rintro e w' ⟨u1, rfl, hu1, hb'⟩; have HU1 := Lib.hid hu1; obtain ⟨qf, cf', rfl, -⟩ := RS.slice hu1; replace BA := Lib.hid (ahead BA.out hb'); clear hb' hu1)
                  | (go_at_call 19; refine (fields_any fx fx _ _ _ HU1.out (HFS.out _ BA.out) HFL.out HFL.out rfl).mono ?_; rintro e w' ⟨rfl, hb'⟩; replace BA := Lib.hid (ahead BA.out hb'); clear hb'))
                all_goals
                  have HPA := Lib.hid (HA10.out.to BA.out)
                  clear HDN HER HTK HGV HLF HFX HLL HFS KX BA z0 z1 z2 z3 z4 z5 z6 z7 z8 z9
                  go_wp2_with fail
                  go_roundw
                  case rel => exact ⟨j + 1, M1, y1, A ++ bs.take 0, p9, _, c9, _, _, by omega, rfl, rfl, by go_num, HPA.out, HAO2.out, HYL2⟩
                  case measure => simp only [intOf]; omega
              case neg =>
                have hE9 : (((y1.2.2 : Nat) : Int) != 4) = true := by unfold bne; rw [beq_eq_false_iff_ne.2 (by omega)]; rfl
                have hE8 : (((y1.2.2 : Nat) : Int) == 0) = false := beq_eq_false_iff_ne.2 (by omega)
                have hE7 : told y1.2.2 = y1.2.2 := by unfold told; rw [if_neg (by omega)]
                rw [hE7]
                go_upto_region 26 with fail
                rw [W2'.out]
                go_upto_region 36 with (go_at_call 12; refine HSM.out.mono ?_; rintro e W9 ⟨rfl, ms, rfl⟩)
                have hA9 := HA8.out.to (below_drewN (Below.refl _ W2) ms)
                have hub9 : RD (W2.drewN ms) ub (bs.take 0) := HUB.out.below hA9.below
                have hA6 : A.length ≤ 600 := by rw [HAO.out.1]; exact HNX.out.2.2.2
                obtain ⟨v', W10, r0, r1, r2, r3⟩ := append_rd9 (W2.drewN ms) 26 (X + 1) (.slice pa na ca) ub A (bs.take 0) hA9.own hub9 (by have := HNX.out.2.2.1; simp; omega) hA9.xlt
                have hA10 := hA9.more r1 r2 r3
                obtain ⟨p9, c9, rfl, -⟩ := own_len9 r1
                have hlen := HAO2.out.1
                rw [hlen] at r0 hA10
                have HR := Lib.hid r0
                have HA10 := Lib.hid hA10
                have hX10 := hA10.blk
                unfold gotc at hX10
                have KX : Hid (∀ W, Below W10.heap.size W10 W → W.cell? ⟨X, 0, none⟩ = some (.int .i64 (y1.1.place : Int)) ∧ W.cell? ⟨X, 1, none⟩ = some (.int .u64 (y1.1.n : Int)) ∧ W.cell? ⟨X, 2, none⟩ = some (.int .i64 (y1.1.count : Int)) ∧ W.cell? ⟨X, 3, none⟩ = some (.int .i64 (y1.1.lines : Int)) ∧ W.cell? ⟨X, 4, none⟩ = some (.int .i64 (y1.1.size : Int)) ∧ W.cell? ⟨X, 5, none⟩ = some (.string (arr y1.1.text)) ∧ W.cell? ⟨X, 6, none⟩ = some (.slice pd y1.1.data.length cd) ∧ W.cell? ⟨X, 7, none⟩ = some (.slice pf y1.1.fields.length cf) ∧ W.cell? ⟨X, 9, none⟩ = some (.int .i64 (y1.2.2 : Int))) := Lib.hid fun W hW => by
                  obtain ⟨⟨q0, q1, q2, q3, q4, q5, q6, q7, q8, q9⟩, -⟩ := ten_cells ((hW.block X hA10.xlt).trans hX10)
                  exact ⟨q0, q1, q2, q3, q4, q5, q6, q7, q9⟩
                clear z0 z1 z2 z3 z4 z5 z6 z7 z8 z9
                obtain ⟨⟨z0, z1, z2, z3, z4, z5, z6, z7, z8, z9⟩, -⟩ := ten_cells hX10
                have HDN : Hid (∀ W, Below W10.heap.size W10 W → _) := Lib.hid fun W hW => doneX W (hA10.dec.below hW)
                have HER : Hid (∀ W, Below W10.heap.size W10 W → _) := Lib.hid fun W hW => errX W (hA10.dec.below hW)
                have HTK : Hid (∀ W, Below W10.heap.size W10 W → _) := Lib.hid fun W hW => takenX W (hA10.dec.below hW)
                have HGV : Hid (∀ W, Below W10.heap.size W10 W → _) := Lib.hid fun W hW => givenX W (hA10.dec.below hW)
                have HLF : Hid (∀ W, Below W10.heap.size W10 W → _) := Lib.hid fun W hW => leftXA W (hA10.dec.below hW)
                have HFX : Hid (∀ W, Below W10.heap.size W10 W → _) := Lib.hid fun W hW => fieldsXA W (hA10.dec.below hW) HLM.out.2.1
                have HLL : Hid (∀ W, _) := Lib.hid fun W => lawLeft_any y1.1.place y1.1.n y1.1.count y1.1.lines y1.1.size (arr y1.1.text) (.slice pd y1.1.data.length cd) (.slice pf y1.1.fields.length cf) W ⟨_, _, _, _, _, _, rfl, rfl⟩
                rw [show (if y1.1.place = 3 then y1.1.n else 0) = leftX y1 from rfl] at HLL
                have HFL := Lib.hid (show (fieldsX y1).length ≤ 1000000 by have := hA10.dec.fields_le; have := HLM.out.2.1; omega)
                have HFS : Hid (∀ W, Below W10.heap.size W10 W → FS W (.slice none 0 0) (fieldsX y1)) := Lib.hid fun W hW => by
                  unfold fieldsX
                  rw [if_neg (by omega)]; exact RS.nil _ _
                rw [hE7] at HER
                rw [decide_eq_false (show ¬ y1.2.2 = 0 by omega)] at HDN
                have BA : Hid (Below W10.heap.size W10 W10.drew) := Lib.hid (below_drewN (Below.refl _ W10) 1)
                generalize leftX y1 = lx at HLL HLF
                generalize fieldsX y1 = fx at HFX HFS HFL
                clear hA9 hub9 hA6 r0 r1 r2 r3 hA10 hX10 hlen HA8 HUB HSM hcut
                go_upto_region 40 with (at_builtin; refine wpList_append_run rfl (.tmp 120) (.tmp 123) 26 rfl _ _ _ _ rfl rfl HR.out ?_)
                go_region_held3 (fun W => W.cell? ⟨X, 0, none⟩ = some (.int .i64 (y1.1.place : Int)) ∧ W.cell? ⟨X, 1, none⟩ = some (.int .u64 (y1.1.n : Int)) ∧ W.cell? ⟨X, 2, none⟩ = some (.int .i64 (y1.1.count : Int)) ∧ W.cell? ⟨X, 3, none⟩ = some (.int .i64 (y1.1.lines : Int)) ∧ W.cell? ⟨X, 4, none⟩ = some (.int .i64 (y1.1.size : Int)) ∧ W.cell? ⟨X, 5, none⟩ = some (.string (arr y1.1.text)) ∧ W.cell? ⟨X, 6, none⟩ = some (.slice pd y1.1.data.length cd) ∧ W.cell? ⟨X, 7, none⟩ = some (.slice pf y1.1.fields.length cf) ∧ W.cell? ⟨X, 9, none⟩ = some (.int .i64 (y1.2.2 : Int)))
                  ((refine KX.out _ ?_; with_reducible exact BA.out))
                  (first
                  | (go_at_call 13; refine (HDN.out _ BA.out).mono ?_; rintro e w' ⟨rfl, rfl⟩)
                  | (go_at_call 14; refine (HER.out _ BA.out).mono ?_; rintro e w' ⟨rfl, rfl⟩)
                  | (go_at_call 15; refine (HTK.out _ BA.out).mono ?_; rintro e w' ⟨rfl, rfl⟩)
                  | (go_at_call 16; refine (HGV.out _ BA.out).mono ?_; rintro e w' ⟨rfl, rfl⟩)
                  | (go_at_call 17; refine (HLF.out _ BA.out).mono ?_; rintro e w' ⟨rfl, rfl⟩)
                  | (go_at_call 18; refine (HLL.out _).mono ?_; rintro e w' ⟨rfl, hb'⟩; replace BA := Lib.hid (ahead BA.out hb'); clear hb')
                  | (go_at_call 20; refine (HFX.out _ BA.out).mono ?_; rintro e w' ⟨u1, rfl, hu1, hb'⟩; have HU1 := Lib.hid hu1; obtain ⟨qf, cf', rfl, -⟩ := RS.slice hu1; replace BA := Lib.hid (ahead BA.out hb'); clear hb' hu1)
                  | (go_at_call 19; refine (fields_any fx fx _ _ _ HU1.out (HFS.out _ BA.out) HFL.out HFL.out rfl).mono ?_; rintro e w' ⟨rfl, hb'⟩; replace BA := Lib.hid (ahead BA.out hb'); clear hb'))
                all_goals
                  have HPA := Lib.hid (HA10.out.to BA.out)
                  clear HDN HER HTK HGV HLF HFX HLL HFS KX BA z0 z1 z2 z3 z4 z5 z6 z7 z8 z9
                  go_wp2_with fail
                  go_roundw
                  case rel => exact ⟨j + 1, M1, y1, A ++ bs.take 0, p9, _, c9, _, _, by omega, rfl, rfl, by go_num, HPA.out, HAO2.out, HYL2⟩
                  case measure => simp only [intOf]; omega

end Go.Proofs.YtpeceneceimonaaDoor
