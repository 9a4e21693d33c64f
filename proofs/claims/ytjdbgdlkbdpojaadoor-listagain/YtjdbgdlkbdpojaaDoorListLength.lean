/- What list.Length answers. -/
import Derived.Test.YtjdbgdlkbdpojaaDoorListHas
import Derived.Test.YtjdbgdlkbdpojaaDoorListNumber
import Derived.Test.YtjdbgdlkbdpojaaDoorRoundRegion
namespace Go.Proofs.YtjdbgdlkbdpojaaDoor
open Go.ChangeShapes Go.WideShapes Go.ChangeAt Go.RowKit
open Go.Shelf
open Oc Fl Ls
set_option linter.unusedVariables false
attribute [local go_sem] Oper.semAt_some

/-- The three cells. -/
def Cs (w : World) (t : St) : List (Nat × Obj) := [(w.heap.size, B1 (.int .u64 (t.lo : Nat)) 31), (w.heap.size + 1, B1 (.int .u64 (t.hi : Nat)) 31), (w.heap.size + 2, B1 (.int .i64 (t.e : Nat)) 32)]

def Cs4 (w : World) (t : St) (S : Nat) (b : Bool) : List (Nat × Obj) := (S, B1 (.bool b) 4) :: Cs w t
theorem cs4_lt {w : World} {t : St} {S : Nat} {b : Bool} (h : w.heap.size + 2 < S) {q : Nat × Obj} (hq : q ∈ Cs4 w t S b) : q.1 < S + 2 := by
  simp only [Cs4, Cs, List.mem_cons, List.not_mem_nil, or_false] at hq
  rcases hq with rfl | rfl | rfl | rfl <;> (dsimp only; omega)
/-- Numbers that fit. -/
def Fits (t : St) : Prop := t.lo ≤ 18446744073709551615 ∧ t.hi ≤ 18446744073709551615 ∧ (t.e = 0 ∨ t.e = 3)

/-- What a round leaves. -/
theorem len_last {w X W2 : World} {t t0 : St} {S D j x1 : Nat} {b : Bool} {ds : List Nat} {s : ByteArray} {m M : Int} (hK : Kpt w (Cs4 w t S b) ds X) (hS : w.heap.size + 2 < S)
    (hm : m = min (t.lo : Int) (x1 : Int)) (hM : M = max (t.hi : Int) (x1 : Int)) (h0 : X.heap[D]? = W2.heap[D]?) (h1 : X.heap[D + 1]? = W2.heap[D + 1]?) (hz : W2.heap.size ≤ X.heap.size) (hc : X.cell? ⟨S + 1, 0, none⟩ = some (.string s) ∧ S + 2 ≤ X.heap.size)
    (hg : goI t0 ((itmB s).take (j + 1)) = some ⟨min t.lo x1, max t.hi x1, t.e⟩) (hF : Fits t) (hx : x1 ≤ 4611686018427387903) (hD : D = S + 2 := by rfl) :
    Held D False W2 (((X.setCell ⟨w.heap.size, 0, none⟩ (.int .u64 m)).setCell ⟨w.heap.size + 1, 0, none⟩ (.int .u64 M)).setCell ⟨S, 0, none⟩ (.bool true)).drew ∧
    ∃ t', Kpt w (Cs4 w t' S (decide (j + 1 ≠ 0))) ds (((X.setCell ⟨w.heap.size, 0, none⟩ (.int .u64 m)).setCell ⟨w.heap.size + 1, 0, none⟩ (.int .u64 M)).setCell ⟨S, 0, none⟩ (.bool true)).drew ∧
      (((X.setCell ⟨w.heap.size, 0, none⟩ (.int .u64 m)).setCell ⟨w.heap.size + 1, 0, none⟩ (.int .u64 M)).setCell ⟨S, 0, none⟩ (.bool true)).drew.cell? ⟨S + 1, 0, none⟩ = some (.string s) ∧
      S + 2 ≤ (((X.setCell ⟨w.heap.size, 0, none⟩ (.int .u64 m)).setCell ⟨w.heap.size + 1, 0, none⟩ (.int .u64 M)).setCell ⟨S, 0, none⟩ (.bool true)).drew.heap.size ∧ goI t0 ((itmB s).take (j + 1)) = some t' ∧ Fits t' := by
  subst hD
  have hm' : m = ((min t.lo x1 : Nat) : Int) := by omega
  have hM' : M = ((max t.hi x1 : Nat) : Int) := by omega
  subst hm' hM'
  clear hm hM
  have k1 : Kpt w (Cs4 w ⟨min t.lo x1, t.hi, t.e⟩ S b) ds (X.setCell ⟨w.heap.size, 0, none⟩ (.int .u64 (min t.lo x1 : Nat))) := hK.put (u := .int .u64 (t.lo : Nat)) (t := 31) _ (by simp [Cs4, Cs, B1]) (fun q hq => by
    simp only [Cs4, Cs, List.mem_cons, List.not_mem_nil, or_false] at hq
    rcases hq with rfl | rfl | rfl | rfl
    · exact .inr ⟨by dsimp only; omega, by simp [Cs4]⟩
    · exact .inl rfl
    · exact .inr ⟨by simp, by simp [Cs4, Cs]⟩
    · exact .inr ⟨by simp, by simp [Cs4, Cs]⟩)
  have k2 : Kpt w (Cs4 w ⟨min t.lo x1, max t.hi x1, t.e⟩ S b) ds ((X.setCell ⟨w.heap.size, 0, none⟩ (.int .u64 (min t.lo x1 : Nat))).setCell ⟨w.heap.size + 1, 0, none⟩ (.int .u64 (max t.hi x1 : Nat))) := k1.put (u := .int .u64 (t.hi : Nat)) (t := 31) _ (by simp [Cs4, Cs, B1]) (fun q hq => by
    simp only [Cs4, Cs, List.mem_cons, List.not_mem_nil, or_false] at hq
    rcases hq with rfl | rfl | rfl | rfl
    · exact .inr ⟨by dsimp only; omega, by simp [Cs4]⟩
    · exact .inr ⟨by simp, by simp [Cs4, Cs]⟩
    · exact .inl rfl
    · exact .inr ⟨by simp, by simp [Cs4, Cs]⟩)
  have k3 : Kpt w (Cs4 w ⟨min t.lo x1, max t.hi x1, t.e⟩ S true) ds (((X.setCell ⟨w.heap.size, 0, none⟩ (.int .u64 (min t.lo x1 : Nat))).setCell ⟨w.heap.size + 1, 0, none⟩ (.int .u64 (max t.hi x1 : Nat))).setCell ⟨S, 0, none⟩ (.bool true)) := k2.put (u := .bool b) (t := 4) _ (by simp [Cs4, Cs, B1]) (fun q hq => by
    simp only [Cs4, Cs, List.mem_cons, List.not_mem_nil, or_false] at hq
    rcases hq with rfl | rfl | rfl | rfl
    · exact .inl rfl
    · exact .inr ⟨by dsimp only; omega, by simp [Cs4, Cs]⟩
    · exact .inr ⟨by dsimp only; omega, by simp [Cs4, Cs]⟩
    · exact .inr ⟨by dsimp only; omega, by simp [Cs4, Cs]⟩)
  have hO : ∀ r, r ≠ w.heap.size → r ≠ w.heap.size + 1 → r ≠ S → (((X.setCell ⟨w.heap.size, 0, none⟩ (.int .u64 (min t.lo x1 : Nat))).setCell ⟨w.heap.size + 1, 0, none⟩ (.int .u64 (max t.hi x1 : Nat))).setCell ⟨S, 0, none⟩ (.bool true)).heap[r]? = X.heap[r]? := fun r r1 r2 r3 =>
    (Below.heap_setCell _ _ _ _ r3).trans ((Below.heap_setCell _ _ _ _ r2).trans (Below.heap_setCell _ _ _ _ r1))
  refine ⟨⟨by simp [World.setCell, World.drew]; omega, (hO _ (by omega) (by omega) (by omega)).trans h0, (hO _ (by omega) (by omega) (by omega)).trans h1, fun h => h.elim⟩, _, k3.next (below_drew 1), ?_, by simp [World.setCell, World.drew]; omega, hg, by
    obtain ⟨f1, f2, f3⟩ := hF
    exact ⟨by dsimp only; omega, by dsimp only; omega, f3⟩⟩
  exact (World.cell?_of_block (hO (S + 1) (by omega) (by omega) (by omega))).trans hc.1

set_option maxRecDepth 100000 in
set_option maxHeartbeats 8000000 in
theorem length_any (vs : List ByteArray) (p : Option Addr) (c : Nat) (w : World) (hV : TX w (.slice p vs.length c) vs) (hb : Ls.bulk vs ≤ 100000) :
    Calls Tryd.prog 15 #[.slice p vs.length c] w fun e w' => e = .returned (.tuple #[.int .u64 ((Ls.length vs).1 : Nat), .int .i64 ((Ls.length vs).2 : Nat)]) ∧ Below w.heap.size w w' := by
  have HV := Lib.hid hV
  have hvl := bulk_len vs
  clear hV
  by_cases hv0 : vs.length = 0
  · have hcn : Ls.length vs = (0, 7) := by unfold Ls.length; rw [if_pos (List.eq_nil_of_length_eq_zero hv0)]
    have HCN := Lib.hid hcn
    rw [hv0]
    clear hcn hv0
    refine calls_of_marks Tryd.func15 rfl ?_
    simp only [Tryd.ntmps15, List.size_toArray, List.length_cons, List.length_nil, Nat.reduceAdd, Nat.reduceSub, Array.replicate_succ, Array.replicate_zero, List.push_toArray, List.append_toArray, List.nil_append, List.cons_append]
    go_wp2_with fail
    go_step3
    go_wp2_with fail
    rw [Exit.noGoto_ret]
    refine left_plain rfl (results_tmp2 rfl _ _) ?_ (.inl rfl)
    rw [HCN.out]
    exact ⟨rfl, Below.refl _ _⟩
  have hz0 : ((vs.length : Int) == 0) = false := beq_eq_false_iff_ne.2 (by omega)
  have HNE : Hid (vs ≠ []) := Lib.hid fun e => hv0 (by rw [e]; rfl)
  refine calls_of_marks Tryd.func15 rfl ?_
  simp only [Tryd.ntmps15, List.size_toArray, List.length_cons, List.length_nil, Nat.reduceAdd, Nat.reduceSub, Array.replicate_succ, Array.replicate_zero, List.push_toArray, List.append_toArray, List.nil_append, List.cons_append]
  go_wp2_with fail
  go_step3
  go_wp2_with fail
  go_step3
  go_wp2_with fail
  obtain ⟨I, hI⟩ : ∃ I : Act → World → Prop, I = fun a W => ∃ (k : Nat) (t : St) (u8 u9 u19 u20 u21 u22 u23 u43 u44 u45 : Value) (ds : List Nat),
      a = { tmps := #[.slice p vs.length c, undef, .int .u64 0, .int .i64 0, .pointer (some ⟨w.heap.size, 0, none⟩), .pointer (some ⟨w.heap.size + 1, 0, none⟩), .pointer (some ⟨w.heap.size + 1 + 1, 0, none⟩), undef, u8, u9, undef, undef, undef, .slice p vs.length c, .int .i64 (vs.length : Int), .bool false, .slice p vs.length c, .int .i64 (vs.length : Int), .int .i64 (k : Int), u19, u20, u21, u22, u23, undef, undef, undef, undef, undef, undef, undef, undef, undef, undef, undef, undef, undef, undef, undef, undef, undef, undef, undef, u43, u44, u45, undef, undef, undef, undef, undef, undef, undef, undef, undef], defers := ds.map mk } ∧
      k ≤ vs.length ∧ Kpt w (Cs w t) ds W ∧ goV ⟨18446744073709551615, 0, 0⟩ (vs.take k) = some t ∧ Fits t := ⟨_, rfl⟩
  refine wp_loop I (fun a _ => vs.length - (intOf (a.tmps.getD 18 undef)).toNat) ?_ ?_
  · rw [hI]
    refine ⟨0, ⟨18446744073709551615, 0, 0⟩, _, _, _, _, _, _, _, _, _, _, [], rfl, Nat.zero_le _, ⟨(below_box _ _).trans (((below_box _ _).trans ((below_box _ _).mono (by simp))).mono (by simp)), Marks.nil _ _, ?_⟩, rfl, ⟨by decide, by decide, .inl rfl⟩⟩
    intro q hq
    simp only [Cs, List.mem_cons, List.not_mem_nil, or_false] at hq
    rcases hq with rfl | rfl | rfl
    · exact ⟨Nat.le_refl _, (Below.heap_alloc _ _ _ (by simp; omega)).trans ((Below.heap_alloc _ _ _ (by simp)).trans (new_one _ _ _))⟩
    · refine ⟨by simp, (Below.heap_alloc _ _ _ (by simp)).trans ?_⟩
      have := new_one (w.alloc (.cells #[.int .u64 18446744073709551615] 31)) (.int .u64 0) 31
      rwa [World.size_alloc] at this
    · refine ⟨by simp, ?_⟩
      have := new_one ((w.alloc (.cells #[.int .u64 18446744073709551615] 31)).alloc (.cells #[.int .u64 0] 31)) (.int .i64 0) 32
      rwa [World.size_alloc, World.size_alloc] at this
  · intro a wr hinv
    rw [hI] at hinv
    obtain ⟨k, t, u8, u9, u19, u20, u21, u22, u23, u43, u44, u45, ds, rfl, hk, hT, hA, hF⟩ := hinv
    have hDI := Lib.hid hI
    clear hI
    have HT := Lib.hid hT
    have HA := Lib.hid hA
    have HF := Lib.hid hF
    clear hT hA hF
    by_cases hlt : k < vs.length
    · obtain ⟨s, hs⟩ : ∃ s, vs[k]? = some s := ⟨_, List.getElem?_eq_getElem hlt⟩
      obtain ⟨-, ad, rfl, c0⟩ := (HV.out.below HT.out.below).at hs
      have hsz := bulk_mem (List.mem_of_getElem? hs)
      have HGO : Hid (goV ⟨18446744073709551615, 0, 0⟩ (vs.take (k + 1)) = if itmB s = [] then none else goI t (itmB s)) := Lib.hid (by
        rw [List.take_add_one, hs, Option.toList_some, goV_app, HA.out]
        show goV t [s] = _
        rw [goV_cons]
        split
        · rfl
        · cases goI t (itmB s) <;> rfl)
      have HBAD : Hid (goV ⟨18446744073709551615, 0, 0⟩ (vs.take (k + 1)) = none → Ls.length vs = (0, 2)) := Lib.hid fun h => by
        unfold Ls.length
        rw [if_neg HNE.out]
        conv => lhs; rw [← List.take_append_drop (k + 1) vs, goV_app, h]
        rfl
      clear hs
      have k1 : (0 : Int) ≤ (k : Int) := by omega
      have k2 : (k : Int) < (vs.length : Int) := by omega
      go_wp2_with (go_at_call 21; refine (of_any _ _).mono ?_; rintro e w' ⟨rfl, rfl⟩)
      have hseq := items_seq (wr.heap.size + 1) s (by omega)
      obtain ⟨W0, hW0⟩ : ∃ W0, (wr.alloc (.cells #[.bool false] 4)).alloc (.cells #[.string s] 9) = W0 := ⟨_, rfl⟩
      have s0 : W0.heap.size = wr.heap.size + 2 := by rw [← hW0]; simp
      have bW : Below wr.heap.size wr W0 := by rw [← hW0]; exact (below_box _ _).trans ((below_box _ _).mono (by simp))
      have g0 : W0.heap[wr.heap.size + 1]? = some (.cells #[.string s] 9 (0, 0)) := by
        rw [← hW0]
        have := new_one (wr.alloc (.cells #[.bool false] 4)) (.string s) 9
        rwa [World.size_alloc] at this
      have g1 : W0.heap[wr.heap.size]? = some (.cells #[.bool false] 4 (0, 0)) := by
        rw [← hW0]
        exact (Below.heap_alloc _ _ _ (by simp)).trans (new_one _ _ _)
      rw [hW0]
      clear hW0
      obtain ⟨l1, l2⟩ := HT.out.lt
      have l0 := HT.out.below.size
      have hws : w.heap.size + 2 < wr.heap.size := l1 (w.heap.size + 2, B1 (.int .i64 (t.e : Nat)) 32) (by simp [Cs])
      have hT0 := HT.out.next bW
      have HT0 : Kpt w (Cs4 w t wr.heap.size false) ds W0 := ⟨hT0.below, hT0.marks, fun q hq => by
        rcases List.mem_cons.1 hq with rfl | hq
        · exact ⟨l0, g1⟩
        · exact hT0.at_ q hq⟩
      clear g1 hT0
      refine wp_range (wpIn_rangeR (gf := 32) rfl (enters_of Tryd.func32 (by kernel_rfl) rfl) hseq (fun j x hx => ?_)
        (fun j W => ∃ t', Kpt w (Cs4 w t' wr.heap.size (decide (j ≠ 0))) ds W ∧ W.cell? ⟨wr.heap.size + 1, 0, none⟩ = some (.string s) ∧ wr.heap.size + 2 ≤ W.heap.size ∧ goI t ((itmB s).take j) = some t' ∧ Fits t')
        (fun co j W => co = .exit 0 ∧ Kpt w [(w.heap.size + 2, B1 (.int .i64 2) 32)] ds W ∧ Ls.length vs = (0, 2))
        ?_ ?_ (fun j W h => by obtain ⟨v, _, h, _⟩ := h; exact h) ⟨t, by simpa using HT0, (one_cell g0).1, by omega, rfl, HF.out⟩ ?round ?done ?stop)
      · obtain ⟨y, _, rfl⟩ := its_get hx; rfl
      · rintro j A B ⟨t', i1, i2, i3, i4, i5⟩ hB
        rw [s0] at hB
        exact ⟨t', i1.but hB (by omega) (fun q hq => cs4_lt hws hq) (fun x hx => by have := l2 x hx; omega), hB.cell i2 (by simp) (by simp), by have := hB.size; omega, i4, i5⟩
      · rintro co j A B ⟨i1, i2, i3⟩ hB
        rw [s0] at hB
        refine ⟨i1, i2.but hB (by omega) (fun q hq => ?_) (fun x hx => by have := l2 x hx; omega), i3⟩
        simp only [List.mem_cons, List.not_mem_nil, or_false] at hq
        subst hq
        show w.heap.size + 2 < _
        omega
      case round =>
        rintro j x W hx - -
        obtain ⟨y, hy, rfl⟩ := its_get hx
        have hyt : (itmB s).take (j + 1) = (itmB s).take j ++ [y] := by rw [List.take_add_one, hy]; rfl
        have hym := List.mem_of_getElem? hy
        have hyz := (itmB_size hym).1
        have HYT := Lib.hid hyt
        have HYD : Hid (itmB s = (itmB s).take j ++ y :: (itmB s).drop (j + 1)) := Lib.hid (by
          conv => lhs; rw [← List.take_append_drop (j + 1) (itmB s), hyt]
          simp)
        clear hx hy hyt hym
        gi_wp2_with fail
        refine ⟨trivial, ?_⟩
        rintro W2 ⟨t', i1, i2, i3, i4, i5⟩ hsz2
        rw [s0] at hsz2 ⊢
        have HNM : Hid (∀ W, _) := Lib.hid fun W => number_any y W (by omega)
        have hnl := num_le y.data.toList
        have HGI : Hid (goI t ((itmB s).take (j + 1)) = if (num y.data.toList).2 = 2 then none else some (next t' (num y.data.toList))) := Lib.hid (by
          rw [HYT.out, goI_app, i4]; exact goI_one _ _)
        have HGB : Hid ((num y.data.toList).2 = 2 → Ls.length vs = (0, 2)) := Lib.hid fun h2 => HBAD.out (by
          rw [HGO.out]
          split
          · rfl
          · rw [HYD.out, goI_app, i4]
            show goI t' (y :: _) = none
            rw [goI_cons, if_pos h2])
        generalize num y.data.toList = nx at *
        obtain ⟨x1, x2⟩ := nx
        obtain ⟨hx1, hx2⟩ := hnl
        dsimp only at *
        have I1 := Lib.hid i1
        have I2 := Lib.hid i2
        have I5 := Lib.hid i5
        clear i1 i2 i4 i5 HYD HYT
        unfold top at hx1
        rcases hx2 with rfl | rfl | rfl
        · gi_wp2_with fail
          refine ⟨trivial, rfl, (callsIn_wide.2 (HNM.out _)).mono ?_⟩
          rintro e X ⟨rfl, hb3⟩
          have HN4 : Hid (goI t ((itmB s).take (j + 1)) = some ⟨min t'.lo x1, max t'.hi x1, t'.e⟩) := Lib.hid (by rw [HGI.out]; rfl)
          have HF4 := I5
          have K4 := Lib.hid (I1.out.next hb3)
          have KX : Hid (X.heap[wr.heap.size + 2]? = W2.heap[wr.heap.size + 2]? ∧ X.heap[wr.heap.size + 2 + 1]? = W2.heap[wr.heap.size + 2 + 1]? ∧ W2.heap.size ≤ X.heap.size ∧ X.cell? ⟨wr.heap.size + 1, 0, none⟩ = some (.string s) ∧ wr.heap.size + 2 ≤ X.heap.size) := Lib.hid ⟨hb3.block _ (by omega), hb3.block _ (by omega), hb3.size, cell_below I2.out hb3, by have := hb3.size; omega⟩
          have e1 : X.heap[w.heap.size]? = some (.cells #[.int .u64 (t'.lo : Nat)] 31 (0, 0)) := (K4.out.at_ (w.heap.size, B1 (.int .u64 (t'.lo : Nat)) 31) (by simp [Cs4, Cs])).2
          have e2 : X.heap[w.heap.size + 1]? = some (.cells #[.int .u64 (t'.hi : Nat)] 31 (0, 0)) := (K4.out.at_ (w.heap.size + 1, B1 (.int .u64 (t'.hi : Nat)) 31) (by simp [Cs4, Cs])).2
          have e3 : X.heap[wr.heap.size]? = some (.cells #[.bool (decide (j ≠ 0))] 4 (0, 0)) := (K4.out.at_ (wr.heap.size, B1 (.bool (decide (j ≠ 0))) 4) (by simp [Cs4])).2
          obtain ⟨a1, b1⟩ := one_cell e1
          obtain ⟨a2, b2⟩ := one_cell e2
          obtain ⟨a3, b3⟩ := one_cell e3
          clear e1 e2 e3
          have n1 : ¬ w.heap.size = wr.heap.size := by omega
          have n2 : ¬ w.heap.size + 1 = wr.heap.size := by omega
          have n3 : ¬ wr.heap.size = w.heap.size := by omega
          have n4 : ¬ wr.heap.size = w.heap.size + 1 := by omega
          have HE := Lib.hid (len_last (j := j) (s := s) (D := wr.heap.size + 2) K4.out hws rfl rfl KX.out.1 KX.out.2.1 KX.out.2.2.1 KX.out.2.2.2 HN4.out HF4.out hx1)
          clear hb3
          gi_wp2_with fail
          refine wpIn_region_any (by kernel_rfl) ?_
          refine any_round (by kernel_rfl) _ _ _ _ ?_
          change wpAnyIn _ _ _ _ _ _ _ _ _ (World.drew _)
          refine wpAnyIn_take (i := 1) (v := .int .u64 (x1 : Int)) rfl rfl (by kernel_rfl) (by kernel_rfl) (by kernel_rfl) (fun _ _ _ h => h) ⟨Or.inl ⟨by rfl, fun w => by go_simp⟩, fun _ => rfl⟩ ?_
          refine wpAnyIn_take (i := 4) (v := .int .u64 (x1 : Int)) rfl rfl (by kernel_rfl) (by kernel_rfl) (by kernel_rfl) (fun _ _ _ h => h) ⟨Or.inl ⟨by rfl, fun w => by go_simp⟩, fun _ => rfl⟩ ?_
          refine wpAnyIn_ready (rs := [0, 3]) (by kernel_rfl) (by simp) ?_
          refine AllReadyIn.cons rfl (fun K hK => ?_) ?_
          · go_simp
            refine hK _ _ ?_
            clear hK K
            refine wpAnyIn_take (i := 2) (v := (.int .u64 (min (t'.lo : Int) (x1 : Int)))) rfl rfl (by kernel_rfl) (by kernel_rfl) (by kernel_rfl) (fun _ _ _ h => h) ⟨Or.inl ⟨by rfl, fun w => by go_simp⟩, fun _ => rfl⟩ ?_
            refine wpAnyIn_ready (rs := [3, 6]) (by kernel_rfl) (by simp) ?_
            refine AllReadyIn.cons rfl (fun K hK => ?_) ?_
            · go_simp
              refine hK _ _ ?_
              clear hK K
              refine wpAnyIn_take (i := 5) (v := (.int .u64 (max (t'.hi : Int) (x1 : Int)))) rfl rfl (by kernel_rfl) (by kernel_rfl) (by kernel_rfl) (fun _ _ _ h => h) ⟨Or.inl ⟨by rfl, fun w => by go_simp⟩, fun _ => rfl⟩ ?_
              refine wpAnyIn_ready (rs := [6]) (by kernel_rfl) (by simp) ?_
              refine AllReadyIn.cons rfl (fun K hK => ?_) AllReadyIn.nil
              go_simp
              refine hK _ _ ?_
              clear hK K
              refine wpAnyIn_ready (rs := [7]) (by kernel_rfl) (by simp) ?_
              refine AllReadyIn.cons rfl (fun K hK => ?_) AllReadyIn.nil
              go_simp
              refine hK _ _ ?_
              clear hK K
              refine wpAnyIn_ready (rs := [8]) (by kernel_rfl) (by simp) ?_
              refine AllReadyIn.cons rfl (fun K hK => ?_) AllReadyIn.nil
              go_simp
              refine hK _ _ ?_
              clear hK K
              refine wpAnyIn_done (by kernel_rfl) ?_ _
              exact HE.out
            refine AllReadyIn.cons rfl (fun K hK => ?_) ?_
            · go_simp
              refine hK _ _ ?_
              clear hK K
              refine wpAnyIn_ready (rs := [3]) (by kernel_rfl) (by simp) ?_
              refine AllReadyIn.cons rfl (fun K hK => ?_) AllReadyIn.nil
              go_simp
              refine hK _ _ ?_
              clear hK K
              refine wpAnyIn_take (i := 5) (v := (.int .u64 (max (t'.hi : Int) (x1 : Int)))) rfl rfl (by kernel_rfl) (by kernel_rfl) (by kernel_rfl) (fun _ _ _ h => h) ⟨Or.inl ⟨by rfl, fun w => by go_simp⟩, fun _ => rfl⟩ ?_
              refine wpAnyIn_ready (rs := [7]) (by kernel_rfl) (by simp) ?_
              refine AllReadyIn.cons rfl (fun K hK => ?_) AllReadyIn.nil
              go_simp
              refine hK _ _ ?_
              clear hK K
              refine wpAnyIn_ready (rs := [8]) (by kernel_rfl) (by simp) ?_
              refine AllReadyIn.cons rfl (fun K hK => ?_) AllReadyIn.nil
              go_simp
              refine hK _ _ ?_
              clear hK K
              refine wpAnyIn_done (by kernel_rfl) ?_ _
              exact HE.out
            exact AllReadyIn.nil
          refine AllReadyIn.cons rfl (fun K hK => ?_) ?_
          · go_simp
            refine hK _ _ ?_
            clear hK K
            refine wpAnyIn_take (i := 5) (v := (.int .u64 (max (t'.hi : Int) (x1 : Int)))) rfl rfl (by kernel_rfl) (by kernel_rfl) (by kernel_rfl) (fun _ _ _ h => h) ⟨Or.inl ⟨by rfl, fun w => by go_simp⟩, fun _ => rfl⟩ ?_
            refine wpAnyIn_ready (rs := [0]) (by kernel_rfl) (by simp) ?_
            refine AllReadyIn.cons rfl (fun K hK => ?_) AllReadyIn.nil
            go_simp
            refine hK _ _ ?_
            clear hK K
            refine wpAnyIn_take (i := 2) (v := (.int .u64 (min (t'.lo : Int) (x1 : Int)))) rfl rfl (by kernel_rfl) (by kernel_rfl) (by kernel_rfl) (fun _ _ _ h => h) ⟨Or.inl ⟨by rfl, fun w => by go_simp⟩, fun _ => rfl⟩ ?_
            refine wpAnyIn_ready (rs := [6]) (by kernel_rfl) (by simp) ?_
            refine AllReadyIn.cons rfl (fun K hK => ?_) AllReadyIn.nil
            go_simp
            refine hK _ _ ?_
            clear hK K
            refine wpAnyIn_ready (rs := [7]) (by kernel_rfl) (by simp) ?_
            refine AllReadyIn.cons rfl (fun K hK => ?_) AllReadyIn.nil
            go_simp
            refine hK _ _ ?_
            clear hK K
            refine wpAnyIn_ready (rs := [8]) (by kernel_rfl) (by simp) ?_
            refine AllReadyIn.cons rfl (fun K hK => ?_) AllReadyIn.nil
            go_simp
            refine hK _ _ ?_
            clear hK K
            refine wpAnyIn_done (by kernel_rfl) ?_ _
            exact HE.out
          exact AllReadyIn.nil
        · gi_wp2_with fail
          refine ⟨trivial, rfl, (callsIn_wide.2 (HNM.out _)).mono ?_⟩
          rintro e W3 ⟨rfl, hb3⟩
          have K3 := I1.out.next hb3
          have e4 : W3.heap[w.heap.size + 1 + 1]? = some (.cells #[.int .i64 (t'.e : Nat)] 32 (0, 0)) := (K3.at_ (w.heap.size + 2, B1 (.int .i64 (t'.e : Nat)) 32) (by simp [Cs4, Cs])).2
          obtain ⟨a4, b4⟩ := one_cell e4
          have HB3 := Lib.hid hb3
          have K3 := Lib.hid K3
          clear e4 hb3
          gi_wp2_with fail
          have hz := HB3.out.size
          refine ⟨⟨by simp [World.setCell]; omega, ?_, ?_, fun h => h.elim⟩, rfl, ?_, HGB.out (by first | rfl | trivial)⟩
          · exact (Below.heap_setCell _ _ _ _ (by dsimp only; omega)).trans (HB3.out.block _ (by omega))
          · exact (Below.heap_setCell _ _ _ _ (by dsimp only; omega)).trans (HB3.out.block _ (by omega))
          · exact K3.out.put (r := w.heap.size + 2) (u := .int .i64 (t'.e : Nat)) (t := 32) (.int .i64 2) (by simp [Cs4, Cs, B1]) (fun q hq => by
              simp only [List.mem_cons, List.not_mem_nil, or_false] at hq
              subst hq
              exact .inl rfl)
        · gi_wp2_with fail
          refine ⟨trivial, rfl, (callsIn_wide.2 (HNM.out _)).mono ?_⟩
          rintro e W3 ⟨rfl, hb3⟩
          have K3 := I1.out.next hb3
          have e4 : W3.heap[w.heap.size + 1 + 1]? = some (.cells #[.int .i64 (t'.e : Nat)] 32 (0, 0)) := (K3.at_ (w.heap.size + 2, B1 (.int .i64 (t'.e : Nat)) 32) (by simp [Cs4, Cs])).2
          obtain ⟨a4, b4⟩ := one_cell e4
          have HB3 := Lib.hid hb3
          have K3 := Lib.hid K3
          clear e4 hb3
          gi_wp2_with fail
          obtain ⟨X, hX⟩ : ∃ X, W3.setCell ⟨w.heap.size + 1 + 1, 0, none⟩ (.int .i64 3) = X := ⟨_, rfl⟩
          obtain ⟨t4, ht4⟩ : ∃ t4 : St, t4 = ⟨t'.lo, t'.hi, 3⟩ := ⟨_, rfl⟩
          have HN4 : Hid (goI t ((itmB s).take (j + 1)) = some ⟨min t4.lo x1, max t4.hi x1, t4.e⟩) := Lib.hid (by rw [HGI.out, ht4]; rfl)
          have HF4 : Hid (Fits t4) := Lib.hid (by rw [ht4]; exact ⟨I5.out.1, I5.out.2.1, .inr rfl⟩)
          have K4 : Hid (Kpt w (Cs4 w t4 wr.heap.size (decide (j ≠ 0))) ds X) := Lib.hid (by
            rw [← hX, ht4]
            exact K3.out.put (r := w.heap.size + 2) (u := .int .i64 (t'.e : Nat)) (t := 32) (.int .i64 3) (by simp [Cs4, Cs, B1]) (fun q hq => by
              simp only [Cs4, Cs, List.mem_cons, List.not_mem_nil, or_false] at hq
              rcases hq with rfl | rfl | rfl | rfl
              · exact .inr ⟨by dsimp only; omega, by simp [Cs4]⟩
              · exact .inr ⟨by simp, by simp [Cs4, Cs]⟩
              · exact .inr ⟨by simp, by simp [Cs4, Cs]⟩
              · exact .inl rfl))
          have hz := HB3.out.size
          have KX : Hid (X.heap[wr.heap.size + 2]? = W2.heap[wr.heap.size + 2]? ∧ X.heap[wr.heap.size + 2 + 1]? = W2.heap[wr.heap.size + 2 + 1]? ∧ W2.heap.size ≤ X.heap.size ∧ X.cell? ⟨wr.heap.size + 1, 0, none⟩ = some (.string s) ∧ wr.heap.size + 2 ≤ X.heap.size) := Lib.hid (by
            rw [← hX]
            exact ⟨(Below.heap_setCell _ _ _ _ (by dsimp only; omega)).trans (HB3.out.block _ (by omega)), (Below.heap_setCell _ _ _ _ (by dsimp only; omega)).trans (HB3.out.block _ (by omega)), by simp [World.setCell]; omega, (World.cell?_of_block (Below.heap_setCell _ _ _ _ (by dsimp only; omega))).trans (cell_below I2.out HB3.out), by simp [World.setCell]; omega⟩)
          rw [hX]
          clear hX ht4 hz a4 b4
          have e1 : X.heap[w.heap.size]? = some (.cells #[.int .u64 (t4.lo : Nat)] 31 (0, 0)) := (K4.out.at_ (w.heap.size, B1 (.int .u64 (t4.lo : Nat)) 31) (by simp [Cs4, Cs])).2
          have e2 : X.heap[w.heap.size + 1]? = some (.cells #[.int .u64 (t4.hi : Nat)] 31 (0, 0)) := (K4.out.at_ (w.heap.size + 1, B1 (.int .u64 (t4.hi : Nat)) 31) (by simp [Cs4, Cs])).2
          have e3 : X.heap[wr.heap.size]? = some (.cells #[.bool (decide (j ≠ 0))] 4 (0, 0)) := (K4.out.at_ (wr.heap.size, B1 (.bool (decide (j ≠ 0))) 4) (by simp [Cs4])).2
          obtain ⟨a1, b1⟩ := one_cell e1
          obtain ⟨a2, b2⟩ := one_cell e2
          obtain ⟨a3, b3⟩ := one_cell e3
          clear e1 e2 e3
          have n1 : ¬ w.heap.size = wr.heap.size := by omega
          have n2 : ¬ w.heap.size + 1 = wr.heap.size := by omega
          have n3 : ¬ wr.heap.size = w.heap.size := by omega
          have n4 : ¬ wr.heap.size = w.heap.size + 1 := by omega
          have HE := Lib.hid (len_last (j := j) (s := s) (D := wr.heap.size + 2) K4.out hws rfl rfl KX.out.1 KX.out.2.1 KX.out.2.2.1 KX.out.2.2.2 HN4.out HF4.out hx1)
          refine wpIn_region_any (by kernel_rfl) ?_
          refine any_round (by kernel_rfl) _ _ _ _ ?_
          change wpAnyIn _ _ _ _ _ _ _ _ _ (World.drew _)
          refine wpAnyIn_take (i := 1) (v := .int .u64 (x1 : Int)) rfl rfl (by kernel_rfl) (by kernel_rfl) (by kernel_rfl) (fun _ _ _ h => h) ⟨Or.inl ⟨by rfl, fun w => by go_simp⟩, fun _ => rfl⟩ ?_
          refine wpAnyIn_take (i := 4) (v := .int .u64 (x1 : Int)) rfl rfl (by kernel_rfl) (by kernel_rfl) (by kernel_rfl) (fun _ _ _ h => h) ⟨Or.inl ⟨by rfl, fun w => by go_simp⟩, fun _ => rfl⟩ ?_
          refine wpAnyIn_ready (rs := [0, 3]) (by kernel_rfl) (by simp) ?_
          refine AllReadyIn.cons rfl (fun K hK => ?_) ?_
          · go_simp
            refine hK _ _ ?_
            clear hK K
            refine wpAnyIn_take (i := 2) (v := (.int .u64 (min (t4.lo : Int) (x1 : Int)))) rfl rfl (by kernel_rfl) (by kernel_rfl) (by kernel_rfl) (fun _ _ _ h => h) ⟨Or.inl ⟨by rfl, fun w => by go_simp⟩, fun _ => rfl⟩ ?_
            refine wpAnyIn_ready (rs := [3, 6]) (by kernel_rfl) (by simp) ?_
            refine AllReadyIn.cons rfl (fun K hK => ?_) ?_
            · go_simp
              refine hK _ _ ?_
              clear hK K
              refine wpAnyIn_take (i := 5) (v := (.int .u64 (max (t4.hi : Int) (x1 : Int)))) rfl rfl (by kernel_rfl) (by kernel_rfl) (by kernel_rfl) (fun _ _ _ h => h) ⟨Or.inl ⟨by rfl, fun w => by go_simp⟩, fun _ => rfl⟩ ?_
              refine wpAnyIn_ready (rs := [6]) (by kernel_rfl) (by simp) ?_
              refine AllReadyIn.cons rfl (fun K hK => ?_) AllReadyIn.nil
              go_simp
              refine hK _ _ ?_
              clear hK K
              refine wpAnyIn_ready (rs := [7]) (by kernel_rfl) (by simp) ?_
              refine AllReadyIn.cons rfl (fun K hK => ?_) AllReadyIn.nil
              go_simp
              refine hK _ _ ?_
              clear hK K
              refine wpAnyIn_ready (rs := [8]) (by kernel_rfl) (by simp) ?_
              refine AllReadyIn.cons rfl (fun K hK => ?_) AllReadyIn.nil
              go_simp
              refine hK _ _ ?_
              clear hK K
              refine wpAnyIn_done (by kernel_rfl) ?_ _
              exact HE.out
            refine AllReadyIn.cons rfl (fun K hK => ?_) ?_
            · go_simp
              refine hK _ _ ?_
              clear hK K
              refine wpAnyIn_ready (rs := [3]) (by kernel_rfl) (by simp) ?_
              refine AllReadyIn.cons rfl (fun K hK => ?_) AllReadyIn.nil
              go_simp
              refine hK _ _ ?_
              clear hK K
              refine wpAnyIn_take (i := 5) (v := (.int .u64 (max (t4.hi : Int) (x1 : Int)))) rfl rfl (by kernel_rfl) (by kernel_rfl) (by kernel_rfl) (fun _ _ _ h => h) ⟨Or.inl ⟨by rfl, fun w => by go_simp⟩, fun _ => rfl⟩ ?_
              refine wpAnyIn_ready (rs := [7]) (by kernel_rfl) (by simp) ?_
              refine AllReadyIn.cons rfl (fun K hK => ?_) AllReadyIn.nil
              go_simp
              refine hK _ _ ?_
              clear hK K
              refine wpAnyIn_ready (rs := [8]) (by kernel_rfl) (by simp) ?_
              refine AllReadyIn.cons rfl (fun K hK => ?_) AllReadyIn.nil
              go_simp
              refine hK _ _ ?_
              clear hK K
              refine wpAnyIn_done (by kernel_rfl) ?_ _
              exact HE.out
            exact AllReadyIn.nil
          refine AllReadyIn.cons rfl (fun K hK => ?_) ?_
          · go_simp
            refine hK _ _ ?_
            clear hK K
            refine wpAnyIn_take (i := 5) (v := (.int .u64 (max (t4.hi : Int) (x1 : Int)))) rfl rfl (by kernel_rfl) (by kernel_rfl) (by kernel_rfl) (fun _ _ _ h => h) ⟨Or.inl ⟨by rfl, fun w => by go_simp⟩, fun _ => rfl⟩ ?_
            refine wpAnyIn_ready (rs := [0]) (by kernel_rfl) (by simp) ?_
            refine AllReadyIn.cons rfl (fun K hK => ?_) AllReadyIn.nil
            go_simp
            refine hK _ _ ?_
            clear hK K
            refine wpAnyIn_take (i := 2) (v := (.int .u64 (min (t4.lo : Int) (x1 : Int)))) rfl rfl (by kernel_rfl) (by kernel_rfl) (by kernel_rfl) (fun _ _ _ h => h) ⟨Or.inl ⟨by rfl, fun w => by go_simp⟩, fun _ => rfl⟩ ?_
            refine wpAnyIn_ready (rs := [6]) (by kernel_rfl) (by simp) ?_
            refine AllReadyIn.cons rfl (fun K hK => ?_) AllReadyIn.nil
            go_simp
            refine hK _ _ ?_
            clear hK K
            refine wpAnyIn_ready (rs := [7]) (by kernel_rfl) (by simp) ?_
            refine AllReadyIn.cons rfl (fun K hK => ?_) AllReadyIn.nil
            go_simp
            refine hK _ _ ?_
            clear hK K
            refine wpAnyIn_ready (rs := [8]) (by kernel_rfl) (by simp) ?_
            refine AllReadyIn.cons rfl (fun K hK => ?_) AllReadyIn.nil
            go_simp
            refine hK _ _ ?_
            clear hK K
            refine wpAnyIn_done (by kernel_rfl) ?_ _
            exact HE.out
          exact AllReadyIn.nil
      case done =>
        rintro W ⟨t', i1, i2, i3, i4, i5⟩ hD
        rw [its_len] at i1 i4
        rw [List.take_length] at i4
        rw [s0] at hD ⊢
        have i6 := i1.mark (D := wr.heap.size + 2) (by omega) hD (fun x hx => by have := l2 x hx; omega)
        by_cases hn : itmB s = []
        · have HR := Lib.hid (HBAD.out (by rw [HGO.out, if_pos hn]))
          rw [hn] at i6
          have e3 : W.heap[wr.heap.size]? = some (.cells #[.bool false] 4 (0, 0)) := (i6.at_ (wr.heap.size, B1 (.bool false) 4) (by simp [Cs4])).2
          have e4 : W.heap[w.heap.size + 1 + 1]? = some (.cells #[.int .i64 (t'.e : Nat)] 32 (0, 0)) := (i6.at_ (w.heap.size + 2, B1 (.int .i64 (t'.e : Nat)) 32) (by simp [Cs4, Cs])).2
          obtain ⟨a3, b3⟩ := one_cell e3
          obtain ⟨a4, b4⟩ := one_cell e4
          have I6 := Lib.hid (i6.put (L' := []) (r := w.heap.size + 2) (u := .int .i64 (t'.e : Nat)) (t := 32) (.int .i64 2) (by simp [Cs4, Cs, B1]) (fun q hq => by cases hq))
          clear i1 i2 i3 i4 i5 i6 hD HT0 HT hseq HA e3 e4 hn
          go_wp2_with fail
          refine wp_region_noPanic ?_
          go_region
          all_goals (refine NoPanic.normal ?_)
          all_goals go_wp2_with fail
          all_goals
            have J := I6.out.next (below_drew 1)
            try rw [Exit.noGoto_ret]
            refine left_marks ((wr.heap.size + 2) :: ds) J.below.size rfl J.marks (fun W' => results_tmp2 rfl _ _) (fun W' hW' => ?_) (.inl rfl)
            rw [HR.out]
            exact ⟨rfl, J.below.trans hW'.below⟩
        · have HI4 : Hid (goV ⟨18446744073709551615, 0, 0⟩ (vs.take (k + 1)) = some t') := Lib.hid (by rw [HGO.out, if_neg hn]; exact i4)
          have hdc : decide ((itmB s).length ≠ 0) = true := decide_eq_true (fun e => hn (List.eq_nil_of_length_eq_zero e))
          rw [hdc] at i6
          have e3 : W.heap[wr.heap.size]? = some (.cells #[.bool true] 4 (0, 0)) := (i6.at_ (wr.heap.size, B1 (.bool true) 4) (by simp [Cs4])).2
          obtain ⟨a3, b3⟩ := one_cell e3
          have I6 := Lib.hid (i6.less (L' := Cs w t') (fun q hq => List.mem_cons_of_mem _ hq))
          have I5 := Lib.hid i5
          clear i1 i2 i3 i4 i5 i6 hD HT0 HT hseq HA e3 hn hdc
          go_wp2_with fail
          refine ⟨?_, ?_⟩
          · rw [hDI.out]
            exact ⟨k + 1, t', _, _, _, _, _, _, _, _, _, _, (wr.heap.size + 2) :: ds, rfl, by omega, I6.out, HI4.out, I5.out⟩
          · simp [intOf]; omega
      case stop =>
        rintro co j W _ ⟨rfl, i1, i2⟩ hD
        rw [s0] at hD ⊢
        have i6 := i1.mark (D := wr.heap.size + 2) (by omega) hD (fun x hx => by have := l2 x hx; omega)
        have I6 := Lib.hid i6
        have HR := Lib.hid i2
        have e4 : W.heap[w.heap.size + 1 + 1]? = some (.cells #[.int .i64 2] 32 (0, 0)) := (i6.at_ (w.heap.size + 2, B1 (.int .i64 2) 32) (by simp)).2
        obtain ⟨a4, b4⟩ := one_cell e4
        clear i1 i2 i6 hD HT0 HT hseq HA e4
        refine wpIn_wide.2 ?_
        go_wp2_with fail
        refine wp_region_noPanic ?_
        go_region
        all_goals (refine NoPanic.normal ?_)
        all_goals go_wp2_with fail
        all_goals
          have J := I6.out.next (below_drew 1)
          try rw [Exit.noGoto_ret]
          refine left_marks ((wr.heap.size + 2) :: ds) J.below.size rfl J.marks (fun W' => results_tmp2 rfl _ _) (fun W' hW' => ?_) (.inl rfl)
          rw [HR.out]
          exact ⟨rfl, J.below.trans hW'.below⟩
    · obtain rfl : k = vs.length := by omega
      rw [List.take_length] at HA
      have HR : Hid (Ls.length vs = fin (some t)) := Lib.hid (by unfold Ls.length; rw [if_neg HNE.out, HA.out])
      have e1 : wr.heap[w.heap.size]? = some (.cells #[.int .u64 (t.lo : Nat)] 31 (0, 0)) := (HT.out.at_ (w.heap.size, B1 (.int .u64 (t.lo : Nat)) 31) (by simp [Cs])).2
      have e2 : wr.heap[w.heap.size + 1]? = some (.cells #[.int .u64 (t.hi : Nat)] 31 (0, 0)) := (HT.out.at_ (w.heap.size + 1, B1 (.int .u64 (t.hi : Nat)) 31) (by simp [Cs])).2
      have e4 : wr.heap[w.heap.size + 1 + 1]? = some (.cells #[.int .i64 (t.e : Nat)] 32 (0, 0)) := (HT.out.at_ (w.heap.size + 2, B1 (.int .i64 (t.e : Nat)) 32) (by simp [Cs])).2
      obtain ⟨a1, b1⟩ := one_cell e1
      obtain ⟨a2, b2⟩ := one_cell e2
      obtain ⟨a4, b4⟩ := one_cell e4
      obtain ⟨f1, f2, f3⟩ := HF.out
      obtain ⟨lo, hi, er⟩ := t
      dsimp only at *
      have HTB := Lib.hid HT.out.below
      have HTM := Lib.hid HT.out.marks
      clear e1 e2 e4 HF HA HT
      rcases f3 with rfl | rfl
      · by_cases hlh : lo = hi
        · subst hlh
          have h1 : ((lo : Int) != (lo : Int)) = false := by simp
          have HR2 : Hid (Ls.length vs = (lo, 0)) := Lib.hid (by rw [HR.out]; simp [fin])
          go_wp2_with fail
          refine left_marks ds HTB.out.size rfl HTM.out (fun W' => results_tmp2 rfl _ _) (fun W' hW' => ?_) (.inl rfl)
          rw [HR2.out]
          exact ⟨rfl, HTB.out.trans hW'.below⟩
        · have h1 : ((lo : Int) != (hi : Int)) = true := by simp; omega
          have HR2 : Hid (Ls.length vs = (0, 2)) := Lib.hid (by rw [HR.out]; simp [fin, hlh])
          go_wp2_with fail
          refine left_marks ds HTB.out.size rfl HTM.out (fun W' => results_tmp2 rfl _ _) (fun W' hW' => ?_) (.inl rfl)
          rw [HR2.out]
          exact ⟨rfl, HTB.out.trans hW'.below⟩
      · have HR2 : Hid (Ls.length vs = (0, 3)) := Lib.hid (by rw [HR.out]; simp [fin])
        go_wp2_with fail
        refine wp_region_noPanic ?_
        go_region
        all_goals (refine NoPanic.normal ?_)
        all_goals go_wp2_with fail
        all_goals
          have J := (Kpt.mk HTB.out HTM.out (fun _ h => by cases h) : Kpt w [] ds wr).next (below_drew 1)
          try rw [Exit.noGoto_ret]
          refine left_marks (ds) J.below.size rfl J.marks (fun W' => results_tmp2 rfl _ _) (fun W' hW' => ?_) (.inl rfl)
          rw [HR2.out]
          exact ⟨rfl, J.below.trans hW'.below⟩
end Go.Proofs.YtjdbgdlkbdpojaaDoor
