/- The law ClockSplits, from what the program's clock answers. -/
import Derived.Test.YtcmkdeejofoibaaClkWake
import Derived.Test.YtcmkdeejofoibaaClkSets
namespace Go.Proofs.Ytcmkdeejofoibaa
open Go.ChangeShapes Go.WideShapes Go.ChangeAt Go.RowKit
open Ck
set_option linter.unusedVariables false
set_option maxRecDepth 100000

theorem wpList_append_wanted {P : Program} {w : World} {ops : Array Oper} {rest : List Oper} {o : Oper} {a : Act} {Q : Exit → Act → World → Prop}
    (hw : Region.wanted o (yielded ops a.tmps) = true) (s x : Operand) (t : TypeId) (hop : o.op = Op.call { callee := Callee.builtin Builtin.append, args := #[s, x], argTypes := #[t, t] })
    (v u v' : Value) (w' : World) (hs : a.eval s = v) (hx : a.eval x = u) (hrun : (Builtin.append_ #[t, t] o.type #[v, u]).run P w = .ok v' w')
    (hK : wpList P ops Q rest (a.put o.dst v') w') : wpList P ops Q (o :: rest) a w := by
  refine wpList_step fun K hK' => ?_
  rw [if_pos hw]
  unfold Oper.wp
  simp [execOp, hop, resolve, invoke, builtin, hs, hx, hrun, Result.andThen]
  exact hK' _ _ hK
/-- Numbers, and more, in a row of the call's own. -/
theorem own_two15 {u v : Value} {xs ys : List Int} (w : World) (hu : IS w u xs) (hv : IS w v ys) (hx : xs.length ≤ 100000) (hy : ys.length ≤ 100000) :
    ∃ p1 n1 c1 w1 p2 c2 w2, (Builtin.append_ #[37, 37] 37 #[.slice (some ⟨w.heap.size, 0, none⟩) 0 0, u]).run Try.prog (w.alloc (.cells #[] 3)) = .ok (.slice p1 n1 c1) w1 ∧
      (Builtin.append_ #[37, 37] 37 #[.slice p1 n1 c1, v]).run Try.prog w1 = .ok (.slice p2 (xs ++ ys).length c2) w2 ∧ IS w2 (.slice p2 (xs ++ ys).length c2) (xs ++ ys) ∧ Below w.heap.size w w2 := by
  have hown : (w.alloc (.cells #[] 3)).ownsRow w.heap.size 3 1 (.slice (some ⟨w.heap.size, 0, none⟩) 0 0) 0 (iv []) := World.ownsRow_made w #[] 0 (Nat.le_refl _) (by decide) rfl
  have b0 : Below w.heap.size w (w.alloc (.cells #[] 3)) := below_box _ _
  obtain ⟨v1, w1, r0, r1, r2⟩ := run_append_iv (w.alloc (.cells #[] 3)) 37 w.heap.size _ _ [] xs hown (hu.below b0) (by simp; omega) (by simp)
  obtain ⟨p1, n1, c1, rfl⟩ := own_slice r1
  have b1 : Below w.heap.size w w1 := b0.grown r2 (by simp) (fun r e => by cases e; exact Nat.le_refl _)
  obtain ⟨v2, w2, s0, s1, s2⟩ := run_append_iv w1 37 w.heap.size _ _ _ ys r1 (hv.below b1) (by simp; omega) b1.size
  have b2 : Below w.heap.size w w2 := b1.grown s2 b1.size (fun k hk => (r1.lt k hk).1)
  have hrs : IS w2 v2 ([] ++ xs ++ ys) := RS.of_own s1
  rw [List.nil_append] at hrs
  obtain ⟨_, p2, c2, rfl, _⟩ := id hrs
  exact ⟨p1, n1, c1, w1, p2, c2, w2, r0, s0, hrs, b2⟩

set_option maxHeartbeats 8000000 in
set_option maxRecDepth 100000 in
theorem splits15_walk {C : Nat → Cs → (Nat → Prop) → World → Prop} (F : Forms15 C) {q : Option Addr} {ck : Nat} (os : List Op15) (a b : Int) (a0 : 0 ≤ a) (a1 : a ≤ 65535) (b0 : 0 ≤ b) (b1 : b ≤ 65535) (w : World) (hO : Ops15 w q os) (hf : ∀ o ∈ os, o.fits) :
    Calls Try.prog 4 #[.slice q os.length ck, .int .u16 a, .int .u16 b] w fun e w' => e = .returned (.bool true) ∧ Below w.heap.size w w' := by
  have HO := Lib.hid hO
  have HFT := Lib.hid hf
  have HF := Lib.hid F
  have HW := Lib.hid (wakes15 F w)
  clear hO hf F
  go_enter Try.func4, Try.ntmps4
  go_wp2_with fail
  refine HW.out.mono ?_
  rintro e w1 ⟨rfl, hb1⟩
  have B1 := Lib.hid hb1
  clear hb1 HW
  by_cases hg : (20 : Int) < (os.length : Int)
  · go_wp2_with fail
    go_ret
    exact ⟨rfl, B1.out⟩
  · have HN := Lib.hid (HF.out.new w1)
    go_wp2_with fail
    refine HN.out.mono ?_
    rintro e w2 ⟨R, M, rfl, hC, hb2, hm2⟩
    have HN2 := Lib.hid (HF.out.new w2)
    have K2 := Lib.hid (And.intro hC (And.intro hb2 hm2))
    clear hC hb2 hm2 HN
    go_wp2_with fail
    refine HN2.out.mono ?_
    rintro e w3 ⟨R', M', rfl, hC, hb3, hm3⟩
    have HT := Lib.hid (show Two15 C w R ⟨0, []⟩ M R' ⟨0, []⟩ M' w3 from ⟨HF.out.below K2.out.1 hb3, hC, fun g h1 h2 => by have := HF.out.lt K2.out.1 g h1; have := hm3 g h2; omega, fun g hg => by have := K2.out.2.2 g hg; have := B1.out.size; omega, fun g hg => by have := hm3 g hg; have := B1.out.size; have := K2.out.2.1.size; omega, ahead (ahead B1.out K2.out.2.1) hb3⟩)
    clear hC hb3 hm3 HN2 K2 B1
    go_wp2_with fail
    have HG := Lib.hid (show os.length ≤ 20 by omega)
    have HA := Lib.hid (And.intro a0 (And.intro a1 (And.intro b0 b1)))
    clear hg
    go_loopw [32] (fun iv wr => ∃ (j : Nat) (N N' : Nat → Prop), j ≤ os.length ∧ iv = .int .i64 (j : Int) ∧ Hid (Two15 C w R (setsF ⟨0, []⟩ (os.take j)) N R' (setsF ⟨0, []⟩ (os.take j)) N' wr)) (fun iv _ => os.length - (intOf iv).toNat)
    case atStart => exact ⟨0, M, M', Nat.zero_le _, rfl, HT⟩
    case round =>
      clear HT
      obtain ⟨j, N, N', hj, rfl, HI⟩ := hrel
      by_cases hlt : j < os.length
      · obtain ⟨o, ho⟩ : ∃ o, os[j]? = some o := ⟨_, List.getElem?_eq_getElem hlt⟩
        obtain ⟨ad, rfl, e0, e1, e2⟩ := HO.out.below HI.out.below j o ho
        have k1 : (0 : Int) ≤ (j : Int) := by omega
        have k2 : (j : Int) < (os.length : Int) := by omega
        have hof := HFT.out o (List.mem_of_getElem? ho)
        have hfit := (setsF_fit (x := ⟨0, []⟩) (os.take j) fit_new (by have := HG.out; simp; omega) fun o ho => HFT.out o (List.mem_of_mem_take ho)).1
        have hsn := setsF_snoc (x := ⟨0, []⟩) ho
        obtain ⟨y, hy⟩ : ∃ y, setsF ⟨0, []⟩ (os.take j) = y := ⟨_, rfl⟩
        rw [hy] at HI hfit hsn
        have HSN := Lib.hid hsn
        have bb := below_box wr (obOp o)
        have HI2 := Lib.hid (HI.out.to HF.out bb)
        have HS := Lib.hid (HF.out.set o.id o.n _ hof.1.1 hof.1.2 HI2.out.one hfit)
        have HFI := Lib.hid (And.intro hof hfit)
        have hnew := heap_alloc_new wr (obOp o)
        obtain ⟨n0, n1, n2⟩ := three15 hnew
        have HNW := Lib.hid hnew
        obtain ⟨kd, id, n⟩ := o
        clear hof hfit hsn ho bb hnew n0 n1 n2 hy
        go_wp2_with fail
        refine HS.out.mono ?_
        rintro e w5 ⟨rfl, N5, hC5, hv5⟩
        have hX5 := (hv5.block wr.heap.size (by simp) (fun hm => by have := HF.out.lt HI.out.one _ hm; omega)).trans HNW.out
        have HI5 := Lib.hid (HI2.out.go HF.out hC5 hv5)
        have HS5 := Lib.hid (HF.out.set id n w5 HFI.out.1.1.1 HFI.out.1.1.2 HI5.out.two HFI.out.2)
        obtain ⟨n0, n1, n2⟩ := three15 hX5
        clear hC5 hv5 hX5 HS e0 e1 e2
        go_wp2_with fail
        refine HS5.out.mono ?_
        rintro e w6 ⟨rfl, N6, hC6, hv6⟩
        have HI6 := Lib.hid ((HI5.out.swap.go HF.out hC6 hv6).swap)
        clear hC6 hv6 n0 n1 n2
        go_wp2_with fail
        go_roundw
        case rel => exact ⟨j + 1, N5, N6, by omega, by go_num, by rw [HSN.out]; exact HI6⟩
        case measure => simp [intOf]; omega
      · obtain rfl : j = os.length := by omega
        rw [List.take_length] at HI
        have hst := setsF_fit (x := ⟨0, []⟩) os fit_new (by have := HG.out; simp; omega) HFT.out
        obtain ⟨X, hX⟩ : ∃ X, setsF ⟨0, []⟩ os = X := ⟨_, rfl⟩
        rw [hX] at HI hst
        obtain ⟨hfit, hnow, hlen⟩ := hst
        have hnow' : X.now = 0 := hnow
        have ba : badN a 0 = false := by unfold badN; simp; omega
        have bb : badN b 0 = false := by unfold badN; simp; omega
        have bab : badN (a + b) 0 = false := by unfold badN; simp; omega
        obtain ⟨hsp, hsn⟩ := adv_split hfit.ok ba bb bab
        have hfa : Fit (advC X a) := fit_adv hfit a (by rw [hnow']; decide)
        have hl1 : (advL X a).length ≤ 1000 := by unfold advL; rw [ba]; simp only [Bool.false_eq_true, if_false, List.length_map]; exact Nat.le_trans (List.length_filter_le _ _) hfit.len
        have hl2 : (advL (advC X a) b).length ≤ 1000 := by unfold advL; rw [bb]; simp only [Bool.false_eq_true, if_false, List.length_map]; exact Nat.le_trans (List.length_filter_le _ _) hfa.len
        have he : advE (a + b) = 0 := by unfold advE; rw [bab]; rfl
        have HA1 := Lib.hid (HF.out.adv a wr HI.out.one hfit)
        have HA2 : Hid (∀ W N, C R (advC X a) N W → _) := Lib.hid fun W N (h : C R (advC X a) N W) => HF.out.adv b W h hfa
        have HA3 : Hid (∀ W N, C R' X N W → _) := Lib.hid fun W N (h : C R' X N W) => HF.out.adv (a + b) W h hfit
        rw [he] at HA3
        have HNW := Lib.hid hsn
        generalize advC (advC X a) b = Y2 at HA2 HNW
        generalize advC X (a + b) = Y3 at HA3 HNW
        obtain ⟨e1, he1⟩ : ∃ e1, advE a = e1 := ⟨_, rfl⟩
        obtain ⟨e2, he2⟩ : ∃ e2, advE b = e2 := ⟨_, rfl⟩
        rw [he1] at HA1
        rw [he2] at HA2
        generalize advL (advC X a) b = L2 at *
        generalize advC X a = Y1 at HA1 HA2
        generalize advL X a = L1 at *
        generalize advL X (a + b) = L3 at *
        subst hsp
        have HL := Lib.hid (And.intro hl1 hl2)
        have hwa : IntKind.i64.wrap a = a := IntWalk.i64_in _ (by omega)
        have hwb : IntKind.i64.wrap b = b := IntWalk.i64_in _ (by omega)
        have hwc : IntKind.i64.wrap (a + b) = a + b := IntWalk.i64_in _ (by omega)
        clear hX hfit hnow hnow' hlen ba bb bab hsn hfa hl1 hl2 he he1 he2 a0 a1 b0 b1
        go_wp2_with fail
        refine HA1.out.mono ?_
        rintro e w4 ⟨p4, c4, rfl, hi4, ho4, N4, hC4, hv4, hn4⟩
        have HI4 := Lib.hid (HI.out.go HF.out hC4 hv4)
        have HH2 := Lib.hid (HA2.out w4 N4 hC4)
        have HX4 := Lib.hid (And.intro hi4 (And.intro ho4 hn4))
        have Z4 := Lib.hid hv4.size
        clear hi4 ho4 hC4 hv4 hn4 HA1
        go_wp2_with fail
        refine HH2.out.mono ?_
        rintro e w5 ⟨p5, c5, rfl, hi5, ho5, N5, hC5, hv5, hn5⟩
        have HI5 := Lib.hid (HI4.out.go HF.out hC5 hv5)
        have HX45 := Lib.hid (show IS w5 (.slice p4 L1.length c4) L1 from RS.keep HX4.out.1 fun g hg hlt => hv5.block g hlt (HX4.out.2.2 g hg))
        have HH3 := Lib.hid (HA3.out w5 N' HI5.out.two)
        have HX5 := Lib.hid (And.intro hi5 ho5)
        clear hi5 ho5 hC5 hv5 hn5 HH2 HI4
        go_wp2_with fail
        refine HH3.out.mono ?_
        rintro e w6 ⟨p6, c6, rfl, hi6, ho6, N6, hC6, hv6, hn6⟩
        have HI6 := Lib.hid (HI5.out.swap.go HF.out hC6 hv6)
        have q4 : IS w6 (.slice p4 L1.length c4) L1 := RS.keep HX45.out fun g hg hlt => hv6.block g hlt fun hm => by have := HX4.out.2.1 g hg; have := HF.out.lt HI.out.two g hm; omega
        have q5 : IS w6 (.slice p5 L2.length c5) L2 := RS.keep HX5.out.1 fun g hg hlt => hv6.block g hlt fun hm => by have := HX5.out.2 g hg; have := HF.out.lt HI.out.two g hm; have := Z4.out; omega
        obtain ⟨p7, n7, c7, w7, p8, c8, w8, r7, r8, hi8, hb8⟩ := own_two15 w6 q4 q5 (by have := HL.out.1; omega) (by have := HL.out.2; omega)
        have HR7 := Lib.hid r7
        have HR8 := Lib.hid r8
        have hlL : (L1 ++ L2).length ≤ 1000000 := by have := HL.out; simp; omega
        have HNU := Lib.hid (numbers_any (L1 ++ L2) (L1 ++ L2) p8 p6 c8 c6 w8 hi8 (hi6.below hb8) hlL hlL)
        have HI8 := Lib.hid (HI6.out.to HF.out hb8)
        clear hi6 ho6 hC6 hv6 hn6 q4 q5 r7 r8 hi8 hb8 hlL HI5 HI6 HX45 HX4 HX5 HH3 HA2 HA3
        obtain ⟨nn, hnn⟩ : ∃ nn, (L1 ++ L2).length = nn := ⟨_, rfl⟩
        rw [hnn] at HR8 HNU ⊢
        rw [decide_eq_true rfl] at HNU
        have HNN := Lib.hid hnn
        clear hnn
        go_wp2_with (at_builtin; first | refine wpList_append_wanted rfl (.tmp 76) (.tmp 77) 37 rfl _ _ _ _ rfl rfl HR7.out ?_ | refine wpList_append_wanted rfl (.tmp 78) (.tmp 79) 37 rfl _ _ _ _ rfl rfl HR8.out ?_)
        refine HNU.out.mono ?_
        rintro e w9 ⟨rfl, hb9⟩
        have HI9 := Lib.hid (HI8.out.to HF.out hb9)
        have HNA := Lib.hid (HF.out.now w9 HI9.out.two)
        have HNB := Lib.hid (HF.out.now w9 HI9.out.one)
        rw [HNW.out] at HNA
        clear hb9 HNU
        go_wp2_with fail
        refine HNA.out.mono ?_
        rintro e w' ⟨rfl, rfl⟩
        go_wp2_with fail
        refine HNB.out.mono ?_
        rintro e w' ⟨rfl, rfl⟩
        go_wp2_with fail
        go_ret
        exact ⟨by simp, HI9.out.below⟩

end Go.Proofs.Ytcmkdeejofoibaa
