/- What list.Codings, and the document's Codings, answer. -/
import Derived.Test.YtjdbgdlkbdpojaaDoorListHas
import Derived.Test.YtjdbgdlkbdpojaaDoorOctetKinds
namespace Go.Proofs.YtjdbgdlkbdpojaaDoor
open Go.ChangeShapes Go.WideShapes Go.ChangeAt Go.RowKit
open Go.Shelf
open Oc Fl Ls
set_option linter.unusedVariables false
attribute [local go_sem] Oper.semAt_some

theorem codings_bad {vs : List ByteArray} {t : ByteArray} (h : t ∈ items vs) (hk : tok t = false) : codings vs = ([], 2) := by
  unfold codings
  have h0 : vs ≠ [] := fun e => by rw [e] at h; simp [items] at h
  have h1 : items vs ≠ [] := fun e => by rw [e] at h; simp at h
  have h2 : ¬ (items vs).all tok = true := fun e => by have := List.all_eq_true.1 e t h; rw [hk] at this; cases this
  rw [if_neg h0, if_neg h1, if_neg h2]
theorem codings_ok {vs : List ByteArray} (h0 : vs ≠ []) (h1 : items vs ≠ []) (h : (items vs).all tok = true) : codings vs = ((items vs).map cod, 0) := by
  unfold codings; rw [if_neg h0, if_neg h1, if_pos h]
theorem codings_none {vs : List ByteArray} (h0 : vs ≠ []) (h1 : items vs = []) : codings vs = ([], 2) := by
  unfold codings; rw [if_neg h0, if_pos h1]
/-- A round ends the gathering: the cell holds none. -/
theorem Its.clear {w W : World} {R : Nat} {ds : List Nat} {v : Value} {xs : List ByteArray} (h : Its w R ds W v xs) (hR : w.heap.size ≤ R) : Its w R ds (W.setCell ⟨R, 0, none⟩ (.slice none 0 0)) (.slice none 0 0) [] := by
  refine ⟨h.below.setCell hR _, ⟨fun D hD => ⟨(h.marks.at_ D hD).1, (Below.heap_setCell _ _ _ _ (fun e => ?_)).trans (h.marks.at_ D hD).2⟩, h.marks.once⟩, heap_set _ h.cell, World.ownsRow_nil _ _ _ _⟩
  have := (h.marks.at_ D hD).2
  rw [show D = R from e, h.cell] at this
  cases this

/-- An append whose run is known, as a step of a region that draws its order, in a fence. -/
theorem stepIn_append_run {F : Fence} {n : Nat} {P : Program} {ops : Array Oper} {o : Oper} {a : Act} {w : World} {K : Act → World → Prop} {Q : Exit → Act → World → Prop} {E : Prop}
    (hg : o.guard = none) (s x : Operand) (t : TypeId) (hop : o.op = Op.call { callee := Callee.builtin Builtin.append, args := #[s, x], argTypes := #[t, t] })
    (v u v' : Value) (w' : World) (hs : a.eval s = v) (hx : a.eval x = u) (hrun : (Builtin.append_ #[t, t] o.type #[v, u]).run P w = .ok v' w')
    (hK : K (a.put o.dst v') w') : if Region.wanted o (yielded ops a.tmps) = true then Oper.wpIn F n P o a w K Q else E := by
  have hw : Region.wanted o (yielded ops a.tmps) = true := by simp [Region.wanted, hg]
  rw [if_pos hw]
  unfold Oper.wpIn
  refine ⟨?_, ?_⟩
  · simp [Oper.about, hop, resolve, Target.leads, Sem.run_pure]
  · rw [Oper.semAt_plain F _ _ (by rw [hop]; intro c hc'; cases hc')]
    simp [execOp, hop, resolve, invoke, builtin, hs, hx, hrun, Result.andThen]
    exact hK

set_option maxRecDepth 100000 in
set_option maxHeartbeats 8000000 in
theorem codings_any (vs : List ByteArray) (p : Option Addr) (c : Nat) (w : World) (hV : TX w (.slice p vs.length c) vs) (hb : Ls.bulk vs ≤ 100000) (hsp : Spans w) :
    Calls Tryd.prog 19 #[.slice p vs.length c] w fun e w' => ∃ v, e = .returned (.tuple #[v, .int .i64 ((codings vs).2 : Nat)]) ∧ TX w' v (codings vs).1 ∧ Below w.heap.size w w' := by
  have HV := Lib.hid hV
  have HSP := Lib.hid hsp
  have hvl := bulk_len vs
  clear hV hsp
  by_cases hv0 : vs.length = 0
  · have hcn : codings vs = ([], 7) := by unfold codings; rw [if_pos (List.eq_nil_of_length_eq_zero hv0)]
    have HCN := Lib.hid hcn
    rw [hv0]
    clear hcn hv0
    refine calls_of_marks Tryd.func19 rfl ?_
    simp only [Tryd.ntmps19, List.size_toArray, List.length_cons, List.length_nil, Nat.reduceAdd, Nat.reduceSub, Array.replicate_succ, Array.replicate_zero, List.push_toArray, List.append_toArray, List.nil_append, List.cons_append]
    go_wp2_with fail
    go_step3
    go_wp2_with fail
    rw [Exit.noGoto_ret]
    refine left_plain rfl (results_tmp2 rfl _ _) ?_ (.inl rfl)
    rw [HCN.out]
    exact ⟨.slice none 0 0, rfl, RS.of_own (xs := []) (World.ownsRow_nil _ 0 9 1), Below.refl _ _⟩
  have hz0 : ((vs.length : Int) == 0) = false := beq_eq_false_iff_ne.2 (by omega)
  have HNE : Hid (vs ≠ []) := Lib.hid fun e => hv0 (by rw [e]; rfl)
  refine calls_of_marks Tryd.func19 rfl ?_
  simp only [Tryd.ntmps19, List.size_toArray, List.length_cons, List.length_nil, Nat.reduceAdd, Nat.reduceSub, Array.replicate_succ, Array.replicate_zero, List.push_toArray, List.append_toArray, List.nil_append, List.cons_append]
  go_wp2_with fail
  go_step3
  go_wp2_with fail
  go_step3
  go_wp2_with fail
  obtain ⟨I, hI⟩ : ∃ I : Act → World → Prop, I = fun a W => ∃ (k : Nat) (v u6 u15 u16 u17 u18 u19 u31 : Value) (ds : List Nat),
      a = { tmps := #[.slice p vs.length c, undef, .slice none 0 0, .int .i64 0, .pointer (some ⟨w.heap.size, 0, none⟩), undef, u6, undef, undef, .slice p vs.length c, .int .i64 (vs.length : Int), .bool false, .slice p vs.length c, .int .i64 (vs.length : Int), .int .i64 (k : Int), u15, u16, u17, u18, u19, undef, undef, undef, undef, undef, undef, undef, undef, undef, undef, undef, u31, undef, undef, undef, undef], defers := ds.map mk } ∧
      k ≤ vs.length ∧ Its w w.heap.size ds W v ((items (vs.take k)).map cod) ∧ (items (vs.take k)).all tok = true := ⟨_, rfl⟩
  refine wp_loop I (fun a _ => vs.length - (intOf (a.tmps.getD 14 undef)).toNat) ?_ ?_
  · rw [hI]
    exact ⟨0, .slice none 0 0, _, _, _, _, _, _, _, [], rfl, Nat.zero_le _, ⟨below_box _ _, Marks.nil _ _, new_one _ _ _, World.ownsRow_nil _ _ _ _⟩, by simp [items]⟩
  · intro a wr hinv
    rw [hI] at hinv
    obtain ⟨k, v, u6, u15, u16, u17, u18, u19, u31, ds, rfl, hk, hT, hA⟩ := hinv
    have hDI := Lib.hid hI
    clear hI
    have HT := Lib.hid hT
    have HA := Lib.hid hA
    clear hT hA
    by_cases hlt : k < vs.length
    · obtain ⟨s, hs⟩ : ∃ s, vs[k]? = some s := ⟨_, List.getElem?_eq_getElem hlt⟩
      obtain ⟨-, ad, rfl, c0⟩ := (HV.out.below HT.out.below).at hs
      have hsz := bulk_mem (List.mem_of_getElem? hs)
      have hsz2 := Ls.bulk_succ hs
      have hsz3 := bulk_take vs (k + 1)
      have hil := items_len (vs.take k)
      have HIT := Lib.hid (items_succ hs)
      have HBAD : Hid (∀ y, y ∈ itmB s → tok y = false → codings vs = ([], 2)) := Lib.hid fun y hy ht => codings_bad (List.mem_flatMap.2 ⟨s, List.mem_of_getElem? hs, hy⟩) ht
      clear hs
      have k1 : (0 : Int) ≤ (k : Int) := by omega
      have k2 : (k : Int) < (vs.length : Int) := by omega
      go_wp2_with (go_at_call 21; refine (of_any _ _).mono ?_; rintro e w' ⟨rfl, rfl⟩)
      have hseq := items_seq wr.heap.size s (by omega)
      obtain ⟨W0, hW0⟩ : ∃ W0, wr.alloc (.cells #[.string s] 9) = W0 := ⟨_, rfl⟩
      have s0 : W0.heap.size = wr.heap.size + 1 := by rw [← hW0]; simp
      have bW : Below wr.heap.size wr W0 := by rw [← hW0]; exact below_box _ _
      have g0 : W0.heap[wr.heap.size]? = some (.cells #[.string s] 9 (0, 0)) := by rw [← hW0]; exact new_one _ _ _
      rw [hW0]
      clear hW0
      obtain ⟨l1, l2, l3⟩ := HT.out.lt
      have l0 := HT.out.below.size
      have HT0 := HT.out.next bW
      have hxl : ((items (vs.take k)).map cod).length ≤ Ls.bulk (vs.take k) := by rw [List.length_map]; exact hil
      generalize hxs : (items (vs.take k)).map cod = xs at *
      have HXS := Lib.hid hxs
      clear hxs
      refine wp_range (wpIn_rangeR (gf := 32) rfl (enters_of Tryd.func32 (by kernel_rfl) rfl) hseq (fun j x hx => ?_)
        (fun j W => ∃ v, Its w w.heap.size ds W v (xs ++ ((itmB s).take j).map cod) ∧ W.cell? ⟨wr.heap.size, 0, none⟩ = some (.string s) ∧ Apart wr.heap.size v ∧ wr.heap.size + 1 ≤ W.heap.size ∧ ((itmB s).take j).all tok = true)
        (fun co j W => co = .exit 0 ∧ Its w w.heap.size ds W (.slice none 0 0) [] ∧ codings vs = ([], 2))
        ?_ ?_ (fun j W h => by obtain ⟨v, _, h, _⟩ := h; exact h) ⟨v, by simpa using HT0, (one_cell g0).1, fun g hg => .inl (l3 g hg), by omega, rfl⟩ ?round ?done ?stop)
      · obtain ⟨y, _, rfl⟩ := its_get hx; rfl
      · rintro j A B ⟨v, i1, i2, i3, i4, i5⟩ hB
        rw [s0] at hB
        refine ⟨v, i1.keep (hB.below i1.below (by omega) i1.below.size) fun r hr => ?_, hB.cell i2 (by simp) (by simp; omega), i3, by have := hB.size; omega, i5⟩
        obtain ⟨m1, m2, m3⟩ := i1.lt
        rcases hr with rfl | hr | hr
        · exact hB.block _ m1 (by omega) (by omega)
        · have := l2 r hr; exact hB.block r (m2 r hr) (by omega) (by omega)
        · have := i3 r hr; exact hB.block r (m3 r hr) (by omega) (by omega)
      · rintro co j A B ⟨rfl, i1, i2⟩ hB
        rw [s0] at hB
        refine ⟨rfl, i1.keep (hB.below i1.below (by omega) i1.below.size) fun r hr => ?_, i2⟩
        obtain ⟨m1, m2, m3⟩ := i1.lt
        rcases hr with rfl | hr | hr
        · exact hB.block _ m1 (by omega) (by omega)
        · have := l2 r hr; exact hB.block r (m2 r hr) (by omega) (by omega)
        · cases hr
      case round =>
        rintro j x W hx - -
        obtain ⟨y, hy, rfl⟩ := its_get hx
        have hyt : (itmB s).take (j + 1) = (itmB s).take j ++ [y] := by rw [List.take_add_one, hy]; rfl
        have hym := List.mem_of_getElem? hy
        have hyz := (itmB_size hym).1
        have hjl : (xs ++ ((itmB s).take j).map cod).length ≤ 1000000 := by
          have := itmB_len s
          rw [List.length_append, List.length_map, List.length_take]; omega
        have HYT := Lib.hid hyt
        have HYM := Lib.hid hym
        clear hx hy hyt hym
        gi_wp2_with fail
        refine ⟨trivial, ?_⟩
        rintro W2 ⟨v, i1, i2, i3, i4, i5⟩ hsz2
        rw [s0] at hsz2 ⊢
        have HNM : Hid (∀ W, _) := Lib.hid fun W => name_any y W (by omega)
        have hnz := nm_size y
        have HTK : Hid (∀ W, Spans W → _) := Lib.hid fun W h => token_any (nm y) W (by omega) h
        have HSM : Hid (∀ W, _) := Lib.hid fun W => small_any (nm y) W (by omega)
        have hty : token (nm y).data.toList = tok y := rfl
        have hcy : (⟨(small (nm y).data.toList).toArray⟩ : ByteArray) = cod y := rfl
        rw [hty] at HTK
        rw [hcy] at HSM
        generalize nm y = ny at *
        clear hty hcy hnz
        have I5 := Lib.hid i5
        have I2 := Lib.hid i2
        have I3 := Lib.hid i3
        clear i5 i2 i3
        cases hty : tok y
        · rw [hty] at HTK
          have HBD := Lib.hid (HBAD.out y HYM.out hty)
          clear hty
          have I1 := Lib.hid i1
          clear i1
          gi_wp2_with fail
          refine ⟨trivial, rfl, (callsIn_wide.2 (HNM.out _)).mono ?_⟩
          rintro e W3 ⟨rfl, hb3⟩
          gi_wp2_with fail
          refine ⟨trivial, rfl, (callsIn_wide.2 (HTK.out _ (HSP.out.below (I1.out.next hb3).below))).mono ?_⟩
          rintro e W4 ⟨rfl, hb4⟩
          have hb := ahead hb3 hb4
          have hz4 := hb.size
          have K4 := I1.out.next hb
          obtain ⟨c4, f4⟩ := one_cell K4.cell
          have K4 := Lib.hid K4
          have HB := Lib.hid hb
          clear hb hb3 hb4
          gi_wp2_with fail
          refine ⟨⟨by simp [World.setCell]; omega, ?_, ?_, fun h => h.elim⟩, rfl, K4.out.clear (Nat.le_refl _), HBD.out⟩
          · exact (Below.heap_setCell _ _ _ _ (by dsimp only; omega)).trans (HB.out.block _ (by omega))
          · exact (Below.heap_setCell _ _ _ _ (by dsimp only; omega)).trans (HB.out.block _ (by omega))
        · rw [hty] at HTK
          have HTY := Lib.hid hty
          clear hty
          have I1 := Lib.hid i1
          clear i1
          gi_wp2_with fail
          refine ⟨trivial, rfl, (callsIn_wide.2 (HNM.out _)).mono ?_⟩
          rintro e W3 ⟨rfl, hb3⟩
          gi_wp2_with fail
          refine ⟨trivial, rfl, (callsIn_wide.2 (HTK.out _ (HSP.out.below (I1.out.next hb3).below))).mono ?_⟩
          rintro e W4 ⟨rfl, hb4⟩
          have hb := ahead hb3 hb4
          have hz4 := hb.size
          have K4 := I1.out.next hb
          obtain ⟨c4, f4⟩ := one_cell K4.cell
          have HB := Lib.hid hb
          clear hb hb3 hb4 K4
          gi_wp2_with fail
          refine wpIn_region_any (by kernel_rfl) ?_
          change wpAnyIn _ _ _ _ _ _ _ _ _ (World.drew _)
          refine wpAnyIn_ready (rs := [0, 1]) (by kernel_rfl) (by simp) ?_
          refine AllReadyIn.cons rfl (fun K hK => ?_) ?_
          · go_simp
            refine hK _ _ ?_
            clear hK K
            refine wpAnyIn_ready (rs := [1]) (by kernel_rfl) (by simp) ?_
            refine AllReadyIn.cons rfl (fun K hK => ?_) AllReadyIn.nil
            go_simp
            refine hK _ _ ?_
            clear hK K
            refine wpAnyIn_ready (rs := [2]) (by kernel_rfl) (by simp) ?_
            refine AllReadyIn.cons rfl (fun K hK => ?_) AllReadyIn.nil
            go_simp
            gi_wp2_with fail
            refine ⟨trivial, rfl, (callsIn_wide.2 (HSM.out _)).mono ?_⟩
            rintro e W5 ⟨rfl, hb5⟩
            have hbb := ahead HB.out (undrew hb5)
            obtain ⟨q, n, c', W6, g1, g2, g3, g4, g5, g6, g7⟩ := gatherT (cod y) s 22 I1.out (Nat.le_refl _) l1 l2 (by omega) I2.out I3.out hbb hjl
            obtain ⟨c5, f5⟩ := one_cell (I1.out.next hbb).cell
            obtain ⟨d6, e6⟩ := one_cell g2
            have hlt5 : w.heap.size < W5.heap.size := (I1.out.next hbb).lt.1
            have R0 := Lib.hid g1
            rw [List.append_assoc, show ((itmB s).take j).map cod ++ [cod y] = ((itmB s).take (j + 1)).map cod by rw [HYT.out, List.map_append]; rfl] at g4
            have HE := Lib.hid (And.intro g3 (Exists.intro (p := fun v => Its w w.heap.size ds (W6.setCell ⟨w.heap.size, 0, none⟩ (.slice q n c')) v (xs ++ ((itmB s).take (j + 1)).map cod) ∧ (W6.setCell ⟨w.heap.size, 0, none⟩ (.slice q n c')).cell? ⟨wr.heap.size, 0, none⟩ = some (.string s) ∧ Apart wr.heap.size v ∧ wr.heap.size + 1 ≤ (W6.setCell ⟨w.heap.size, 0, none⟩ (.slice q n c')).heap.size ∧ ((itmB s).take (j + 1)).all tok = true) _ ⟨g4, g5, g6, by omega, by rw [HYT.out, List.all_append, I5.out]; simp [HTY.out]⟩))
            clear g1 g2 g3 g4 g5 g6 g7 hb5 hbb
            gi_wp2_with fail
            refine wpAnyIn_ready (rs := [3]) (by kernel_rfl) (by simp) ?_
            refine AllReadyIn.cons rfl (fun K hK => ?_) AllReadyIn.nil
            go_simp
            refine hK _ _ ?_
            clear hK K
            refine wpAnyIn_ready (rs := [4]) (by kernel_rfl) (by simp) ?_
            refine AllReadyIn.cons rfl (fun K hK => ?_) AllReadyIn.nil
            refine stepIn_append_run rfl (.tmp 26) (.tmp 29) 22 rfl _ _ _ _ rfl rfl R0.out ?_
            refine hK _ _ ?_
            clear hK K
            refine wpAnyIn_ready (rs := [5]) (by kernel_rfl) (by simp) ?_
            refine AllReadyIn.cons rfl (fun K hK => ?_) AllReadyIn.nil
            go_simp
            refine hK _ _ ?_
            clear hK K
            refine wpAnyIn_done (by kernel_rfl) ?_ _
            gi_wp2_with fail
            exact HE.out
          refine AllReadyIn.cons rfl (fun K hK => ?_) ?_
          · go_simp
            refine hK _ _ ?_
            clear hK K
            refine wpAnyIn_ready (rs := [0, 2]) (by kernel_rfl) (by simp) ?_
            refine AllReadyIn.cons rfl (fun K hK => ?_) ?_
            · go_simp
              refine hK _ _ ?_
              clear hK K
              refine wpAnyIn_ready (rs := [2]) (by kernel_rfl) (by simp) ?_
              refine AllReadyIn.cons rfl (fun K hK => ?_) AllReadyIn.nil
              go_simp
              gi_wp2_with fail
              refine ⟨trivial, rfl, (callsIn_wide.2 (HSM.out _)).mono ?_⟩
              rintro e W5 ⟨rfl, hb5⟩
              have hbb := ahead HB.out (undrew hb5)
              obtain ⟨q, n, c', W6, g1, g2, g3, g4, g5, g6, g7⟩ := gatherT (cod y) s 22 I1.out (Nat.le_refl _) l1 l2 (by omega) I2.out I3.out hbb hjl
              obtain ⟨c5, f5⟩ := one_cell (I1.out.next hbb).cell
              obtain ⟨d6, e6⟩ := one_cell g2
              have hlt5 : w.heap.size < W5.heap.size := (I1.out.next hbb).lt.1
              have R0 := Lib.hid g1
              rw [List.append_assoc, show ((itmB s).take j).map cod ++ [cod y] = ((itmB s).take (j + 1)).map cod by rw [HYT.out, List.map_append]; rfl] at g4
              have HE := Lib.hid (And.intro g3 (Exists.intro (p := fun v => Its w w.heap.size ds (W6.setCell ⟨w.heap.size, 0, none⟩ (.slice q n c')) v (xs ++ ((itmB s).take (j + 1)).map cod) ∧ (W6.setCell ⟨w.heap.size, 0, none⟩ (.slice q n c')).cell? ⟨wr.heap.size, 0, none⟩ = some (.string s) ∧ Apart wr.heap.size v ∧ wr.heap.size + 1 ≤ (W6.setCell ⟨w.heap.size, 0, none⟩ (.slice q n c')).heap.size ∧ ((itmB s).take (j + 1)).all tok = true) _ ⟨g4, g5, g6, by omega, by rw [HYT.out, List.all_append, I5.out]; simp [HTY.out]⟩))
              clear g1 g2 g3 g4 g5 g6 g7 hb5 hbb
              gi_wp2_with fail
              refine wpAnyIn_ready (rs := [3]) (by kernel_rfl) (by simp) ?_
              refine AllReadyIn.cons rfl (fun K hK => ?_) AllReadyIn.nil
              go_simp
              refine hK _ _ ?_
              clear hK K
              refine wpAnyIn_ready (rs := [4]) (by kernel_rfl) (by simp) ?_
              refine AllReadyIn.cons rfl (fun K hK => ?_) AllReadyIn.nil
              refine stepIn_append_run rfl (.tmp 26) (.tmp 29) 22 rfl _ _ _ _ rfl rfl R0.out ?_
              refine hK _ _ ?_
              clear hK K
              refine wpAnyIn_ready (rs := [5]) (by kernel_rfl) (by simp) ?_
              refine AllReadyIn.cons rfl (fun K hK => ?_) AllReadyIn.nil
              go_simp
              refine hK _ _ ?_
              clear hK K
              refine wpAnyIn_done (by kernel_rfl) ?_ _
              gi_wp2_with fail
              exact HE.out
            refine AllReadyIn.cons rfl (fun K hK => ?_) ?_
            · go_simp
              gi_wp2_with fail
              refine ⟨trivial, rfl, (callsIn_wide.2 (HSM.out _)).mono ?_⟩
              rintro e W5 ⟨rfl, hb5⟩
              have hbb := ahead HB.out (undrew hb5)
              obtain ⟨q, n, c', W6, g1, g2, g3, g4, g5, g6, g7⟩ := gatherT (cod y) s 22 I1.out (Nat.le_refl _) l1 l2 (by omega) I2.out I3.out hbb hjl
              obtain ⟨c5, f5⟩ := one_cell (I1.out.next hbb).cell
              obtain ⟨d6, e6⟩ := one_cell g2
              have hlt5 : w.heap.size < W5.heap.size := (I1.out.next hbb).lt.1
              have R0 := Lib.hid g1
              rw [List.append_assoc, show ((itmB s).take j).map cod ++ [cod y] = ((itmB s).take (j + 1)).map cod by rw [HYT.out, List.map_append]; rfl] at g4
              have HE := Lib.hid (And.intro g3 (Exists.intro (p := fun v => Its w w.heap.size ds (W6.setCell ⟨w.heap.size, 0, none⟩ (.slice q n c')) v (xs ++ ((itmB s).take (j + 1)).map cod) ∧ (W6.setCell ⟨w.heap.size, 0, none⟩ (.slice q n c')).cell? ⟨wr.heap.size, 0, none⟩ = some (.string s) ∧ Apart wr.heap.size v ∧ wr.heap.size + 1 ≤ (W6.setCell ⟨w.heap.size, 0, none⟩ (.slice q n c')).heap.size ∧ ((itmB s).take (j + 1)).all tok = true) _ ⟨g4, g5, g6, by omega, by rw [HYT.out, List.all_append, I5.out]; simp [HTY.out]⟩))
              clear g1 g2 g3 g4 g5 g6 g7 hb5 hbb
              gi_wp2_with fail
              refine wpAnyIn_ready (rs := [0, 3]) (by kernel_rfl) (by simp) ?_
              refine AllReadyIn.cons rfl (fun K hK => ?_) ?_
              · go_simp
                refine hK _ _ ?_
                clear hK K
                refine wpAnyIn_ready (rs := [3]) (by kernel_rfl) (by simp) ?_
                refine AllReadyIn.cons rfl (fun K hK => ?_) AllReadyIn.nil
                go_simp
                refine hK _ _ ?_
                clear hK K
                refine wpAnyIn_ready (rs := [4]) (by kernel_rfl) (by simp) ?_
                refine AllReadyIn.cons rfl (fun K hK => ?_) AllReadyIn.nil
                refine stepIn_append_run rfl (.tmp 26) (.tmp 29) 22 rfl _ _ _ _ rfl rfl R0.out ?_
                refine hK _ _ ?_
                clear hK K
                refine wpAnyIn_ready (rs := [5]) (by kernel_rfl) (by simp) ?_
                refine AllReadyIn.cons rfl (fun K hK => ?_) AllReadyIn.nil
                go_simp
                refine hK _ _ ?_
                clear hK K
                refine wpAnyIn_done (by kernel_rfl) ?_ _
                gi_wp2_with fail
                exact HE.out
              refine AllReadyIn.cons rfl (fun K hK => ?_) ?_
              · go_simp
                refine hK _ _ ?_
                clear hK K
                refine wpAnyIn_ready (rs := [0]) (by kernel_rfl) (by simp) ?_
                refine AllReadyIn.cons rfl (fun K hK => ?_) AllReadyIn.nil
                go_simp
                refine hK _ _ ?_
                clear hK K
                refine wpAnyIn_ready (rs := [4]) (by kernel_rfl) (by simp) ?_
                refine AllReadyIn.cons rfl (fun K hK => ?_) AllReadyIn.nil
                refine stepIn_append_run rfl (.tmp 26) (.tmp 29) 22 rfl _ _ _ _ rfl rfl R0.out ?_
                refine hK _ _ ?_
                clear hK K
                refine wpAnyIn_ready (rs := [5]) (by kernel_rfl) (by simp) ?_
                refine AllReadyIn.cons rfl (fun K hK => ?_) AllReadyIn.nil
                go_simp
                refine hK _ _ ?_
                clear hK K
                refine wpAnyIn_done (by kernel_rfl) ?_ _
                gi_wp2_with fail
                exact HE.out
              exact AllReadyIn.nil
            exact AllReadyIn.nil
          exact AllReadyIn.nil
      case done =>
        rintro W ⟨v', i1, i2, i3, i4, i5⟩ hD
        rw [its_len, List.take_length] at i1 i5
        rw [← HXS.out, ← List.map_append, ← HIT.out] at i1
        rw [s0] at hD ⊢
        have i6 : Its w w.heap.size ((wr.heap.size + 1) :: ds) W v' ((items (vs.take (k + 1))).map cod) := ⟨i1.below, i1.marks.cons (by omega) hD (fun D' hD' => by have := l2 D' hD'; omega), i1.cell, i1.own⟩
        have I6 := Lib.hid i6
        have A6 : Hid ((items (vs.take (k + 1))).all tok = true) := Lib.hid (by rw [HIT.out, List.all_append, HA.out, i5]; rfl)
        clear i1 i2 i3 i4 i5 i6 hD HT0 HT hseq HA
        go_wp2_with fail
        refine ⟨?_, ?_⟩
        · rw [hDI.out]
          exact ⟨k + 1, v', _, _, _, _, _, _, _, (wr.heap.size + 1) :: ds, rfl, by omega, I6.out, A6.out⟩
        · simp [intOf]; omega
      case stop =>
        rintro co j W _ ⟨rfl, i1, i2⟩ hD
        rw [s0] at hD ⊢
        have i6 : Its w w.heap.size ((wr.heap.size + 1) :: ds) W (.slice none 0 0) [] := ⟨i1.below, i1.marks.cons (by omega) hD (fun D' hD' => by have := l2 D' hD'; omega), i1.cell, i1.own⟩
        have I6 := Lib.hid i6
        have HR := Lib.hid i2
        obtain ⟨c5, f5⟩ := one_cell i6.cell
        clear i1 i2 i6 hD HT0 HT hseq HA
        refine wpIn_wide.2 ?_
        go_wp2_with fail
        rw [Exit.noGoto_ret]
        refine left_marks ((wr.heap.size + 1) :: ds) I6.out.below.size rfl I6.out.marks (fun W' => results_tmp2 rfl _ _) (fun W' hW' => ?_) (.inl rfl)
        rw [HR.out]
        exact ⟨_, rfl, RS.of_own (hW'.own I6.out.own), I6.out.below.trans hW'.below⟩
    · obtain rfl : k = vs.length := by omega
      rw [List.take_length] at HT HA
      obtain ⟨pu, cu, rfl, -, -⟩ := RS.slice (RS.of_own HT.out.own)
      obtain ⟨c5, f5⟩ := one_cell HT.out.cell
      by_cases hn : ((items vs).map cod).length = 0
      · have hi0 : items vs = [] := List.eq_nil_of_length_eq_zero (by rwa [List.length_map] at hn)
        have HR := Lib.hid (codings_none HNE.out hi0)
        rw [hn] at c5
        have HTT := Lib.hid HT.out.below
        have HTM := Lib.hid HT.out.marks
        clear HT hn hi0
        go_wp2_with fail
        refine left_marks ds HTT.out.size rfl HTM.out (fun W' => results_tmp2 rfl _ _) (fun W' hW' => ?_) (.inl rfl)
        rw [HR.out]
        exact ⟨.slice none 0 0, rfl, RS.of_own (xs := []) (World.ownsRow_nil _ 0 9 1), HTT.out.trans hW'.below⟩
      · have hi0 : items vs ≠ [] := fun e => hn (by rw [e]; rfl)
        have HR := Lib.hid (codings_ok HNE.out hi0 HA.out)
        have hn0 : ((((items vs).map cod).length : Int) == 0) = false := beq_eq_false_iff_ne.2 (by omega)
        generalize (items vs).map cod = xs at *
        clear hi0
        go_wp2_with fail
        refine left_marks ds HT.out.below.size rfl HT.out.marks (fun W' => results_tmp2 rfl _ _) (fun W' hW' => ?_) (.inl rfl)
        rw [HR.out]
        exact ⟨_, rfl, RS.of_own (hW'.own HT.out.own), HT.out.below.trans hW'.below⟩

set_option maxRecDepth 100000 in
set_option maxHeartbeats 4000000 in
theorem rcodings_any (vs : List ByteArray) (p : Option Addr) (c : Nat) (w : World) (hV : TX w (.slice p vs.length c) vs) (hb : Ls.bulk vs ≤ 100000) :
    Calls Tryd.prog 20 #[.slice p vs.length c] w fun e w' => ∃ v, e = .returned (.tuple #[v, .int .i64 ((codings vs).2 : Nat)]) ∧ TX w' v (codings vs).1 ∧ Below w.heap.size w w' := by
  have HI := Lib.hid (ritems_any vs p c w hV hb)
  have hvl := bulk_len vs
  clear hV
  by_cases hv0 : vs.length = 0
  · have hcn : codings vs = ([], 7) := by unfold codings; rw [if_pos (List.eq_nil_of_length_eq_zero hv0)]
    have HCN := Lib.hid hcn
    rw [hv0]
    clear hcn hv0
    go_enter Tryd.func20, Tryd.ntmps20
    go_wp2_with fail
    go_ret2
    rw [HCN.out]
    exact ⟨.slice none 0 0, rfl, RS.of_own (xs := []) (World.ownsRow_nil _ 0 9 1), Below.refl _ _⟩
  have hz0 : ((vs.length : Int) == 0) = false := beq_eq_false_iff_ne.2 (by omega)
  have hne : vs ≠ [] := fun e => hv0 (by rw [e]; rfl)
  have HBAD : Hid (∀ y, y ∈ items vs → tok y = false → codings vs = ([], 2)) := Lib.hid fun y hy ht => codings_bad hy ht
  have HNO : Hid (items vs = [] → codings vs = ([], 2)) := Lib.hid fun h => codings_none hne h
  have HOK : Hid (items vs ≠ [] → (items vs).all tok = true → codings vs = ((items vs).map cod, 0)) := Lib.hid fun h1 h2 => codings_ok hne h1 h2
  have hil := items_len vs
  have HSZ : Hid (∀ t, t ∈ items vs → t.size ≤ 100000) := Lib.hid fun t ht => by have := items_size ht; omega
  have hil2 : (items vs).length ≤ 100000 := by omega
  generalize items vs = l at *
  clear hb hil hv0 hne
  go_enter Tryd.func20, Tryd.ntmps20
  go_wp2_with fail
  refine HI.out.mono ?_
  rintro e w1 ⟨v, rfl, hT⟩
  obtain ⟨pu, cu, rfl, -, -⟩ := RS.slice (RS.of_own hT.own)
  have H2 : Hid (Two w w1 (.slice none 0 0) ([].map cod) (.slice pu l.length cu) l) := Lib.hid ⟨⟨World.ownsRow_nil _ _ _ _, hT.below⟩, RS.of_own hT.own, fun g hg => (hT.own.lt g hg).2, fun g hg => by cases hg⟩
  clear hT HI
  go_wp2_with fail
  go_loopw [4, 6] (fun v i wr => ∃ (k : Nat), k ≤ l.length ∧ i = .int .i64 k ∧ Hid (Two w wr v ((l.take k).map cod) (.slice pu l.length cu) l) ∧ Hid ((l.take k).all tok = true)) (fun _ i _ => l.length - (intOf i).toNat)
  case atStart => exact ⟨0, Nat.zero_le _, rfl, H2, Lib.hid (by simp)⟩
  case round =>
    clear H2
    obtain ⟨k, hk, rfl, H2, HA⟩ := hrel
    by_cases hlt : k < l.length
    · obtain ⟨y, hy⟩ : ∃ y, l[k]? = some y := ⟨_, List.getElem?_eq_getElem hlt⟩
      obtain ⟨-, ad, rfl, c0⟩ := H2.out.tx.at hy
      have hym := List.mem_of_getElem? hy
      have hyz := HSZ.out y hym
      have hnz := nm_size y
      have HYT : Hid (l.take (k + 1) = l.take k ++ [y]) := Lib.hid (by rw [List.take_add_one, hy, Option.toList_some])
      have HNM : Hid (∀ W, _) := Lib.hid fun W => rword_any y W hyz
      have HTK : Hid (∀ W, _) := Lib.hid fun W => rtoken_any (nm y) W (by omega)
      have HSM : Hid (∀ W, _) := Lib.hid fun W => rsmall_any (nm y) W (by omega)
      have hty : token (nm y).data.toList = tok y := rfl
      have hcy : (⟨(small (nm y).data.toList).toArray⟩ : ByteArray) = cod y := rfl
      rw [hty] at HTK
      rw [hcy] at HSM
      have HB : Hid (tok y = false → codings vs = ([], 2)) := Lib.hid (HBAD.out y hym)
      have hkl : ((l.take k).map cod).length ≤ 1000000 := by rw [List.length_map, List.length_take]; omega
      generalize nm y = ny at *
      clear hy hym hty hcy hnz
      have k1 : (0 : Int) ≤ (k : Int) := by omega
      have k2 : (k : Int) < (l.length : Int) := by omega
      cases hty : tok y
      · rw [hty] at HTK
        have HR := Lib.hid (HB.out hty)
        clear hty
        go_wp2_with fail
        refine (HNM.out _).mono ?_
        rintro e w2 ⟨rfl, hb2⟩
        have H3 := Lib.hid (H2.out.next hb2)
        go_wp2_with (go_at_call 31; refine (HTK.out _).mono ?_; rintro e w' ⟨rfl, rfl⟩)
        go_ret2
        rw [HR.out]
        exact ⟨.slice none 0 0, rfl, RS.of_own (xs := []) (World.ownsRow_nil _ 0 9 1), H3.out.told.below⟩
      · rw [hty] at HTK
        have HTY := Lib.hid hty
        clear hty
        go_wp2_with fail
        refine (HNM.out _).mono ?_
        rintro e w2 ⟨rfl, hb2⟩
        have H3 := Lib.hid (H2.out.next hb2)
        clear hb2 c0
        go_wp2_with (go_at_call 31; refine (HTK.out _).mono ?_; rintro e w' ⟨rfl, rfl⟩)
        refine (HSM.out _).mono ?_
        rintro e w3 ⟨rfl, hb3⟩
        have H4 := Lib.hid (H3.out.next hb3)
        obtain ⟨v', w4, r0, r1⟩ := H4.out.more (cod y) 22 hkl
        rw [show (l.take k).map cod ++ [cod y] = (l.take (k + 1)).map cod by rw [HYT.out, List.map_append]; rfl] at r1
        have R0 := Lib.hid r0
        have R1 := Lib.hid r1
        have A1 : Hid ((l.take (k + 1)).all tok = true) := Lib.hid (by rw [HYT.out, List.all_append, HA.out]; simp [HTY.out])
        generalize cod y = cy at *
        clear r0 r1 hb3 H2 H3 H4 HNM HTK HSM
        go_wp2_with (at_builtin; refine wpList_append_is rfl (.tmp 27) (.tmp 30) 22 rfl _ _ _ _ rfl rfl R0.out ?_)
        go_roundw
        case rel => exact ⟨k + 1, by omega, by go_num, R1, A1⟩
        case measure => simp [intOf]; omega
    · obtain rfl : k = l.length := by omega
      rw [List.take_length] at H2 HA
      obtain ⟨pv, cv, rfl, -, -⟩ := RS.slice (RS.of_own H2.out.told.own)
      by_cases hn : (l.map cod).length = 0
      · have hi0 : l = [] := List.eq_nil_of_length_eq_zero (by rwa [List.length_map] at hn)
        have HR := Lib.hid (HNO.out hi0)
        have HBW := Lib.hid H2.out.told.below
        rw [hn]
        clear hi0 H2 hn
        go_wp2_with fail
        go_ret2
        rw [HR.out]
        exact ⟨.slice none 0 0, rfl, RS.of_own (xs := []) (World.ownsRow_nil _ 0 9 1), HBW.out⟩
      · have hi0 : l ≠ [] := fun e => hn (by rw [e]; rfl)
        have HR := Lib.hid (HOK.out hi0 HA.out)
        have hn0 : (((l.map cod).length : Int) == 0) = false := beq_eq_false_iff_ne.2 (by omega)
        generalize l.map cod = xs at *
        clear hi0
        go_wp2_with fail
        go_ret2
        rw [HR.out]
        exact ⟨_, rfl, RS.of_own H2.out.told.own, H2.out.told.below⟩

end Go.Proofs.YtjdbgdlkbdpojaaDoor
