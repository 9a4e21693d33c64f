/- What comes out of a source, however much is asked for at a time: WireAll. -/
import Derived.Test.YtnmjdpmfmbgoeaaRRRWireWake
import Derived.Test.YtnmjdpmfmbgoeaaRRRWireGreat
import Derived.Test.YtnmjdpmfmbgoeaaRRRByteSame
namespace Go.Proofs.YtnmjdpmfmbgoeaaRRR
open Go.ChangeShapes Go.WideShapes Go.ChangeAt Go.RowKit
open Wr
set_option linter.unusedVariables false
set_option maxRecDepth 100000

/-- Between two rounds of the law's reading: what came so far, and what is left. -/
structure All16 (R : Nat) (M : Nat → Prop) (w4 : World) (F : List UInt8) (Tn : Nat) (x : Sr) (j : Nat) (O : List UInt8) (v : Value) (W : World) : Prop where
  src : SrcAt R x M W
  row : W.ownsRow w4.heap.size 5 1 v O.length (bv O)
  sol : Sol10 R w4 W
  all : O ++ left x = F
  r : x.r = O.length
  e : x.e = 1
  sh : x.sh = false
  turns : j + wgt x.A + 1 ≤ Tn
theorem All16.next {R : Nat} {M : Nat → Prop} {w4 : World} {F : List UInt8} {Tn : Nat} {x : Sr} {j : Nat} {O : List UInt8} {v : Value} {W W' : World} (h : All16 R M w4 F Tn x j O v W) (hM : ∀ g, M g → g < w4.heap.size) (hR : R < w4.heap.size) {m : Int} (hm : 1 ≤ m) (hF : F.length ≤ 100000)
    {u : Value} (hs : SrcAt R (rd x m).1 M W') (hu : RD W' u (rd x m).2.1) (hsol : Sol10 R W W') :
    ∃ v' w'', (Builtin.append_ #[34, 34] 34 #[v, u]).run Try.prog W' = .ok v' w'' ∧ SrcAt R (rd x m).1 M w'' ∧ RD w'' v' (O ++ (rd x m).2.1) ∧ Sol10 R w4 w'' ∧
      (((rd x m).2.2 = 7 ∧ O ++ (rd x m).2.1 = F ∧ (rd x m).1.r = F.length) ∨ ((rd x m).2.2 = 0 ∧ All16 R M w4 F Tn (rd x m).1 (j + 1) (O ++ (rd x m).2.1) v' w'')) := by
  obtain ⟨l1, l2, l3, l4⟩ := rd_left x m
  have hlo := h.row.lt
  have hrow : W'.ownsRow w4.heap.size 5 1 v O.length (bv O) := own_same h.row fun k hk => hsol.block k (hlo k hk).2 (by have := (hlo k hk).1; omega)
  have hlen : O.length + (rd x m).2.1.length ≤ F.length := by
    have e1 := congrArg List.length h.all
    have e2 := congrArg List.length l1
    rw [List.length_append] at e1 e2
    omega
  have hsz : w4.heap.size ≤ W'.heap.size := Nat.le_trans h.sol.size hsol.size
  obtain ⟨v', w'', r0, r1, r2⟩ := run_append_rd W' 34 w4.heap.size v u O.length O (rd x m).2.1 hrow hu (by omega) hsz
  have hk : ∀ g, g < w4.heap.size → w''.heap[g]? = W'.heap[g]? := fun g hg => r2.block g (by omega) (fun e => by have := (hlo g e.symm).1; omega)
  have hs2 : SrcAt R (rd x m).1 M w'' := hs.keep fun g hg => hk g (hM g hg)
  have hsl : Sol10 R w4 w'' := by
    have s1 := h.sol.trans hsol
    exact ⟨r2.os.trans s1.os, r2.tape.trans s1.tape, r2.output.trans s1.output, Nat.le_trans hsz r2.size, fun k hk' hne => (hk k hk').trans (s1.block k hk' hne)⟩
  refine ⟨v', w'', r0, hs2, RD.of_own r1, hsl, ?_⟩
  rcases rd_wgt x m hm h.e h.sh with ⟨g1, g2⟩ | ⟨g1, g2⟩
  · rw [g2] at l1
    have hb : (rd x m).2.1 = [] := (List.append_eq_nil_iff.1 l1).1
    have ho : O = F := by have := h.all; rw [g2, List.append_nil] at this; exact this
    refine .inl ⟨g1, by rw [hb, List.append_nil]; exact ho, by rw [l2, hb, h.r, ho]; rfl⟩
  · exact .inr ⟨g1, ⟨hs2, by rw [List.length_append] at r1 ⊢; exact r1, hsl, by rw [List.append_assoc, l1]; exact h.all, by rw [l2, h.r, List.length_append], l3.trans h.e, l4.trans h.sh, by have := h.turns; omega⟩⟩

set_option maxHeartbeats 8000000 in
theorem all16_walk (L : List (List UInt8)) (p : Option Addr) (c : Nat) (n : Int) (w : World) (hL : CS w (.slice p L.length c) L) (hl : L.length ≤ 140737488355328) (hx : ∀ x ∈ L, x.length ≤ 140737488355328) (hn : 0 ≤ n ∧ n ≤ 255) :
    Calls Try.prog 4 #[.slice p L.length c, .int .u8 n] w fun e w' => e = .returned (.bool true) ∧ Below w.heap.size w w' := by
  have HWK := Lib.hid (wakes16 w)
  have HL := Lib.hid hL
  have HX := Lib.hid hx
  have HLL := Lib.hid hl
  have wn1 : IntKind.i64.wrap n = n := IntWalk.i64_in _ (by omega)
  have wn2 : IntKind.i64.wrap (n + 1) = n + 1 := IntWalk.i64_in _ (by omega)
  obtain ⟨m, hm⟩ : ∃ m, n + 1 = m := ⟨_, rfl⟩
  rw [hm] at wn2
  have HM1 := Lib.hid (show 1 ≤ m by omega)
  have HNM := Lib.hid hm
  clear hL hx hl hn
  go_enter Try.func4, Try.ntmps4
  go_wp2_with fail
  refine HWK.out.mono ?_
  rintro e1 w1 ⟨rfl, hb1⟩
  have HG := Lib.hid (great16_any L p c w1 (HL.out.below hb1) HLL.out HX.out)
  have HB1 := Lib.hid hb1
  clear hb1 HWK
  by_cases hg : 600 < wgt L
  · rw [decide_eq_true hg] at HG
    clear hg
    go_wp2_with fail
    refine HG.out.mono ?_
    rintro e2 w2 ⟨rfl, rfl⟩
    go_wp2_with fail
    go_ret
    exact ⟨rfl, HB1.out⟩
  · rw [decide_eq_false hg] at HG
    have HW6 := Lib.hid (show wgt L ≤ 600 by omega)
    have HNW := Lib.hid (new16_any 1 w1 (by decide) (HL.out.below HB1.out) (by have := wgt_len L; omega) (fun x hx => by have := wgt_mem hx; omega))
    clear hg
    go_wp2_with fail
    refine HG.out.mono ?_
    rintro e2 w2 ⟨rfl, rfl⟩
    clear HG
    go_wp2_with fail
    refine HNW.out.mono ?_
    rintro e3 w3 ⟨R, M, rfl, hs, hb3, hM⟩
    have HS := Lib.hid hs
    have HB3 := Lib.hid (ahead HB1.out hb3)
    have HM := Lib.hid (show ∀ g, M g → w.heap.size ≤ g from fun g hg => by have := hM g hg; have := HB1.out.size; omega)
    clear hs hb3 hM HNW
    go_wp2_with fail
    go_loopw [7, 9, 32] (fun v t i wr => ∃ (k : Nat), k ≤ L.length ∧ i = .int .i64 k ∧ t = .int .i64 ((wgt (L.take k) + 2 : Nat) : Int) ∧ Hid (wr.ownsRow w3.heap.size 5 1 v (L.take k).flatten.length (bv (L.take k).flatten) ∧ Below w3.heap.size w3 wr)) (fun _ _ i _ => L.length - (intOf i).toNat)
    case atStart => exact ⟨0, Nat.zero_le _, rfl, rfl, Lib.hid ⟨⟨rfl, .inl ⟨rfl, rfl⟩⟩, Below.refl _ _⟩⟩
    case round =>
      obtain ⟨k, hk, rfl, rfl, HB⟩ := hrel
      by_cases hlt : k < L.length
      · obtain ⟨x, hx⟩ : ∃ x, L[k]? = some x := ⟨_, List.getElem?_eq_getElem hlt⟩
        obtain ⟨-, ad, pu, cu, rfl, c0, hu⟩ := ((HL.out.below HB3.out).below HB.out.2).at hx
        have hfk := flat_take L k
        have hwl := wgt_len L
        have hxl := wgt_mem (List.mem_of_getElem? hx)
        have hwk := wgt_le_take L k
        have hw6 := HW6.out
        have e1 : (L.take (k + 1)).flatten = (L.take k).flatten ++ x := by rw [List.take_add_one, hx]; simp
        obtain ⟨v', w', hrun, hown, hg⟩ := run_append_rd wr 34 w3.heap.size _ _ _ _ _ HB.out.1 hu (by omega) HB.out.2.size
        have HN := Lib.hid (And.intro (show w'.ownsRow w3.heap.size 5 1 v' (L.take (k + 1)).flatten.length (bv (L.take (k + 1)).flatten) by rw [e1]; simpa [bv] using hown) (HB.out.2.grown hg HB.out.2.size (fun k hk => (HB.out.1.lt k hk).1)))
        have HR := Lib.hid hrun
        have HT := Lib.hid (wgt_take hx)
        obtain ⟨T, hT⟩ : ∃ T, wgt (L.take k) + 2 = T := ⟨_, rfl⟩
        have HTT := Lib.hid hT
        rw [hT]
        have hTb : T ≤ 602 := by omega
        clear hown hg hu hx e1 hrun hfk hwl hw6 hT hwk
        obtain ⟨xl, hxl'⟩ : ∃ xl, x.length = xl := ⟨_, rfl⟩
        rw [hxl'] at HT HR c0 hxl
        have hxb : xl ≤ 600 := by have := HW6.out; omega
        have q1 : IntKind.i64.wrap ((xl : Int) + 1) = (xl : Int) + 1 := IntWalk.i64_in _ (by omega)
        have q2 : IntKind.i64.wrap ((T : Int) + ((xl : Int) + 1)) = (T : Int) + ((xl : Int) + 1) := IntWalk.i64_in _ (by omega)
        have k1 : (0 : Int) ≤ (k : Int) := by omega
        have k2 : (k : Int) < (L.length : Int) := by omega
        have hk9 : L.length ≤ 600 := by have := HW6.out; have := wgt_len L; omega
        clear hxl' hxl
        go_wp2_with (at_builtin; refine wpList_append_run rfl (.tmp 36) (.tmp 37) 34 rfl _ _ _ _ rfl rfl HR.out ?_)
        go_roundw
        case rel => exact ⟨k + 1, by omega, by go_num, by congr 1; have := HT.out; have := HTT.out; omega, HN⟩
        case measure => simp [intOf]; omega
      · obtain rfl : k = L.length := by omega
        rw [List.take_length] at *
        have k2 : ¬ (L.length : Int) < (L.length : Int) := by omega
        obtain ⟨T, hT⟩ : ∃ T, wgt L + 2 = T := ⟨_, rfl⟩
        rw [hT]
        have HTT := Lib.hid hT
        have HF := Lib.hid (show L.flatten.length ≤ 600 by have := wgt_len L; have := HW6.out; omega)
        have hMR := HS.out.lt
        have HMM := Lib.hid (show ∀ g, M g → g < wr.heap.size from fun g hg => by have := hMR.2 g hg; have := HB.out.2.size; omega)
        have HRR := Lib.hid (show w.heap.size ≤ R ∧ R < wr.heap.size from ⟨HM.out R hMR.1, HMM.out R hMR.1⟩)
        have HST := Lib.hid (show All16 R M wr L.flatten T ⟨L, false, 1, 0, false⟩ 0 [] (.slice none 0 0) wr from ⟨HS.out.below HB.out.2, World.ownsRow_nil _ _ _ _, Sol10.refl _ _, rfl, rfl, rfl, rfl, by show 0 + wgt L + 1 ≤ T; omega⟩)
        have HAL := Lib.hid (RD.of_own HB.out.1)
        have HBW := Lib.hid (ahead HB3.out HB.out.2)
        obtain ⟨pA, cA, rfl, -⟩ := id HAL.out
        have HNR := Lib.hid (show ∀ g, (Value.slice pA L.flatten.length cA).ownBlock = some g → g ≠ R from fun g hg => by have h1 := (HB.out.1.lt g hg).1; have h2 := hMR.2 R hMR.1; omega)
        obtain ⟨FL, hFL⟩ : ∃ FL, L.flatten.length = FL := ⟨_, rfl⟩
        rw [hFL] at HAL HNR ⊢
        have HFL := Lib.hid hFL
        clear hlt hk hMR HB hT hFL
        obtain ⟨w4, rfl⟩ : ∃ w4, w4 = wr := ⟨_, rfl⟩
        go_wp2_with fail
        go_loopw [8, 46] (fun v i w5 => ∃ (x : Sr) (j : Nat) (O : List UInt8), i = .int .i64 j ∧ Hid (All16 R M w4 L.flatten T x j O v w5)) (fun _ i _ => T - (intOf i).toNat)
        case atStart => exact ⟨_, 0, [], rfl, HST⟩
        case round =>
          obtain ⟨x, j, O, rfl, HA⟩ := hrel
          have hj : (j : Int) < (T : Int) := by have := HA.out.turns; omega
          have hT602 : T ≤ 602 := by have := HTT.out; have := HW6.out; omega
          have HQ := Lib.hid (read16_any m wr HA.out.src (by have := HA.out.e; omega) (by
            have e1 := congrArg List.length HA.out.all
            rw [List.length_append] at e1
            have := HA.out.r
            have := HF.out
            unfold left at e1
            omega))
          go_wp2_with fail
          refine HQ.out.mono ?_
          rintro e' w6 ⟨u, rfl, hs6, hu6, -, hsol6⟩
          obtain ⟨v7, w7, r7, s7, d7, l7, hor⟩ := HA.out.next HMM.out HRR.out.2 HM1.out (by have := HF.out; omega) hs6 hu6 hsol6
          have R7 := Lib.hid r7
          have S7 := Lib.hid s7
          have D7 := Lib.hid d7
          have L7 := Lib.hid l7
          clear HQ hs6 hu6 hsol6 r7 s7 d7 l7
          obtain ⟨Y, hY⟩ : ∃ Y, rd x m = Y := ⟨_, rfl⟩
          rw [hY] at hor S7 D7 ⊢
          clear hY
          obtain ⟨y, bs, ec⟩ := Y
          rcases hor with ⟨h7, hO, hr⟩ | ⟨h0, hN⟩
          · replace h7 : ec = 7 := h7
            subst h7
            replace hO : O ++ bs = L.flatten := hO
            replace hr : y.r = L.flatten.length := hr
            replace S7 : Hid (SrcAt R y M w7) := S7
            replace D7 : Hid (RD w7 v7 (O ++ bs)) := D7
            rw [hO] at D7
            clear hO
            have HA7 := Lib.hid (HAL.out.sol16 HNR.out L7.out)
            have HB7 := Lib.hid (L7.out.below HBW.out HRR.out.1 HBW.out.size)
            obtain ⟨pO, cO, rfl, -⟩ := id D7.out
            rw [HFL.out] at hr D7 R7
            have HSM := Lib.hid (same_any w7 pO pA FL cO FL cA _ _ D7.out HA7.out)
            rw [decide_eq_true rfl] at HSM
            have HRE : Hid (∀ nq, Calls Try.prog 11 #[.pointer (some ⟨R, 0, none⟩)] (w7.drewN nq) fun e w' => e = .returned (.int .i64 (FL : Int)) ∧ w7.drewN nq = w') := Lib.hid fun nq => by
              obtain ⟨L8, b8, p8, c8, g1, g2, g3⟩ := S7.out.below (drewN_below8 w7 nq)
              have := reads16_any (w7.drewN nq) g1
              rw [hr] at this
              exact this
            clear HA7 hr D7 S7 L7
            go_wp2_with (at_builtin; refine wpList_append_run rfl (.tmp 56) (.tmp 57) 34 rfl _ _ _ _ rfl rfl R7.out ?_)
            refine HSM.out.mono ?_
            rintro e' w8 ⟨rfl, nq, rfl⟩
            go_wp2_with fail
            refine (HRE.out nq).mono ?_
            rintro e' w9 ⟨rfl, rfl⟩
            go_wp2_with fail
            go_ret
            exact ⟨rfl, below_drewN HB7.out nq⟩
          · replace h0 : ec = 0 := h0
            subst h0
            have HN := Lib.hid hN
            clear hN
            go_wp2_with (at_builtin; refine wpList_append_run rfl (.tmp 56) (.tmp 57) 34 rfl _ _ _ _ rfl rfl R7.out ?_)
            go_roundw
            case rel => exact ⟨y, j + 1, O ++ bs, by go_num, HN⟩
            case measure => simp [intOf]; omega

end Go.Proofs.YtnmjdpmfmbgoeaaRRR
