/- The law BlockLines. -/
import Derived.Test.YtdimobigdkmcbaaDoorBlockRefLines
namespace Go.Proofs.YtdimobigdkmcbaaDoor
open Go.ChangeShapes Go.WideShapes Go.ChangeAt Go.RowKit
open Go.Shelf
open Oc Fl Bk
set_option linter.unusedVariables false
attribute [local go_sem] Oper.semAt_some

/-- A result that lies in a cell of its own. -/
theorem results_bool {fn : Func} {p : Tmp} (h : fn.results = #[.cell p 4]) (tmps : Array Value) (w : World) (g : Nat) (b : Bool) (hp : tmps.getD p undef = .pointer (some ⟨g, 0, none⟩)) (hg : w.cell? ⟨g, 0, none⟩ = some (.bool b)) :
    (results fn tmps).run Tryd.prog w = .ok (.bool b) w := by
  have hp' : tmps[p]?.getD undef = .pointer (some ⟨g, 0, none⟩) := by simpa using hp
  simp [results, h, hp', asAddr, loadVar, isAgg, run_underlying Tryd.underlying4, hg, go_sem]
set_option maxRecDepth 100000 in
theorem neq_fn (f : Fn) (a b : Array Value) (w : World) : (binOp .neq 44 (.func f a b) Value.nilFunc).run Tryd.prog w = .ok (.bool true) w := by
  rfl

set_option maxRecDepth 20000 in
set_option maxHeartbeats 4000000 in
theorem lines6_walk (s : ByteArray) (S : Nat) (hS : S ≤ 255) (w : World) (hsp : Spans w) (hbd : Bound w) :
    Calls Tryd.prog 6 #[.string s, .int .u8 (S : Int)] w fun e w' => e = .returned (.bool true) ∧ Below w.heap.size w w' := by
  obtain ⟨w0, hw0⟩ : ∃ w0, (w.alloc (.cells #[.int .u8 (S : Int)] 5)).alloc (.cells #[.bool false] 4) = w0 := ⟨_, rfl⟩
  have s0 : w0.heap.size = w.heap.size + 2 := by rw [← hw0]; simp
  have B0 : Below w.heap.size w w0 := by rw [← hw0]; exact ahead (below_box _ _) (below_box _ _)
  have f0 : w0.heap[w.heap.size]? = some (.cells #[.int .u8 (S : Int)] 5 (0, 0)) := by rw [← hw0, Below.heap_alloc _ _ _ (by simp)]; exact new_one _ _ _
  have f1 : w0.heap[w.heap.size + 1]? = some (.cells #[.bool false] 4 (0, 0)) := by rw [← hw0]; exact heap_alloc2_new _ _ _
  have hW := Lib.hid (wakes6 w0 (hsp.below B0) (hbd.below B0))
  have HBD := Lib.hid hbd
  have HW0 := Lib.hid hw0
  have HF0 := Lib.hid f0
  have HF1 := Lib.hid f1
  have HB0 := Lib.hid B0
  clear hsp hbd hw0 f0 f1 B0
  refine calls_of_marks Tryd.func6 rfl ?_
  simp only [Tryd.ntmps6, List.size_toArray, List.length_cons, List.length_nil, Nat.reduceAdd, Nat.reduceSub, Array.replicate_succ, Array.replicate_zero, List.push_toArray, List.append_toArray, List.nil_append, List.cons_append]
  go_wp2_with fail
  rw [HW0.out]
  refine hW.out.mono ?_
  rintro e w1 ⟨rfl, hb1⟩
  have z1 := hb1.size
  have f0 := (hb1.block _ (by omega)).trans HF0.out
  have f1 := (hb1.block _ (by omega)).trans HF1.out
  obtain ⟨x1, y1⟩ := one_cell f1
  replace HB0 := Lib.hid (ahead HB0.out hb1)
  replace HF0 := Lib.hid f0
  replace HF1 := Lib.hid f1
  clear hW HW0 hb1 f0 f1
  have hz1 : w.heap.size + 2 ≤ w1.heap.size := by omega
  by_cases hl : (1000 : Int) < (s.size : Int)
  · clear HBD HF0
    go_wp2_with fail
    refine left_plain rfl (results_bool rfl _ _ (w.heap.size + 1) true rfl (one_cell (heap_set _ HF1.out)).1) ?_ (.inl rfl)
    exact ⟨rfl, HB0.out.setCell (by simp) _⟩
  · have hR := Lib.hid (rlines_any s w1 (by omega))
    clear x1 y1
    go_wp2_with fail
    refine hR.out.mono ?_
    rintro e w2 ⟨v2, rfl, hL, hb2⟩
    obtain ⟨p2, c2, rfl, -, -⟩ := RS.slice hL
    have z2 := hb2.size
    have f0 := (hb2.block _ (by omega)).trans HF0.out
    have f1 := (hb2.block _ (by omega)).trans HF1.out
    have B2 := ahead HB0.out hb2
    have hseq := lines_seq (w2.heap.size + 2) s (by omega)
    have hpl : (prs s.data.toList).length = (lns 0 s.data.toList).length := prs_len _
    have hz2 : w.heap.size + 2 ≤ w2.heap.size := by omega
    unfold prs at hseq hpl
    generalize hP : lns 0 s.data.toList = P at *
    have HL2 := Lib.hid hL
    replace HF0 := Lib.hid f0
    replace HF1 := Lib.hid f1
    have HB2 := Lib.hid B2
    have HSEQ := Lib.hid hseq
    have HPL := Lib.hid hpl
    clear hR hL hb2 f0 f1 B2 HB0 hseq hpl hP z1 z2 s0
    have hnf := neq_fn
    go_wp2_with (go_at_call 18; refine (lines_any _ _).mono ?_; rintro e w' ⟨rfl, rfl⟩)
    clear hnf
    obtain ⟨W0, hW0⟩ : ∃ W0, ((w2.alloc (.cells #[.slice p2 P.length c2] 41)).alloc (.cells #[.int .i64 0] 3)).alloc (.cells #[.string s] 9) = W0 := ⟨_, rfl⟩
    have s0 : W0.heap.size = w2.heap.size + 3 := by rw [← hW0]; simp
    have bW : Below w2.heap.size w2 W0 := by rw [← hW0]; exact ahead (ahead (below_box _ _) (below_box _ _)) (below_box _ _)
    have g0 : W0.heap[w2.heap.size]? = some (.cells #[.slice p2 P.length c2] 41 (0, 0)) := by
      rw [← hW0, Below.heap_alloc _ _ _ (by simp; omega), Below.heap_alloc _ _ _ (by simp)]; exact new_one w2 _ _
    have g1 : W0.heap[w2.heap.size + 1]? = some (.cells #[.int .i64 0] 3 (0, 0)) := by
      rw [← hW0, Below.heap_alloc _ _ _ (by simp)]; exact heap_alloc2_new w2 _ _
    have g2 : W0.heap[w2.heap.size + 2]? = some (.cells #[.string s] 9 (0, 0)) := by
      have := World.alloc_heap_new ((w2.alloc (.cells #[.slice p2 P.length c2] 41)).alloc (.cells #[.int .i64 0] 3)) (.cells #[.string s] 9)
      rw [hW0] at this
      rw [← this]; simp
    have f0 := (bW.block _ (by omega)).trans HF0.out
    have f1 := (bW.block _ (by omega)).trans HF1.out
    have hv := RS.below HL2.out bW
    have BW := ahead HB2.out bW
    have hvl : ∀ g, (Value.slice p2 P.length c2).ownBlock = some g → P ≠ [] → g < w2.heap.size := fun g hg hne => by
      obtain ⟨h0, p', c', e, h1, h2, h3, h4⟩ := HL2.out
      cases e
      cases p2 with
      | none => cases hg
      | some ad =>
        cases hg
        have hlen : 0 < P.length := by cases P with
          | nil => exact absurd rfl hne
          | cons => simp
        have hc := h4 ad rfl 0 _ (lv_get (List.getElem?_eq_getElem hlen)).1
        have := World.block_lt_of_cell? w2 _ hc
        rwa [add_block] at this
    rw [hW0]
    clear hW0 bW
    obtain ⟨Stay, hStay⟩ : ∃ Stay : World → Prop, Stay = fun W => (∀ r, r < w2.heap.size + 3 → r ≠ w2.heap.size + 1 → W.heap[r]? = W0.heap[r]?) ∧ W.os = W0.os ∧ W.tape = W0.tape ∧ W.output = W0.output ∧ w2.heap.size + 3 ≤ W.heap.size := ⟨_, rfl⟩
    have st0 : Stay W0 := by rw [hStay]; exact ⟨fun _ _ _ => rfl, rfl, rfl, rfl, by omega⟩
    have stB : ∀ A B, Stay A → But (w2.heap.size + 3) A B → Stay B := by
      rw [hStay]
      exact fun A B hA hB => ⟨fun r h1 h2 => (hB.block r (by have := hA.2.2.2.2; omega) (by omega) (by omega)).trans (hA.1 r h1 h2), hB.os.trans hA.2.1, hB.tape.trans hA.2.2.1, hB.output.trans hA.2.2.2.1, by have := hB.size; have := hA.2.2.2.2; omega⟩
    have stV : ∀ W, Stay W → LS W (.slice p2 P.length c2) P := by
      rw [hStay]
      intro W hW
      cases hp : P with
      | nil =>
        subst hp
        obtain ⟨h0, p', c', e, h1, h2, h3, h4⟩ := hv
        cases e
        exact ⟨h0, _, _, rfl, h1, h2, h3, fun ad _ i u hu => by simp [lv] at hu⟩
      | cons x P' =>
        rw [← hp]
        exact RS.keep hv fun g hg _ => hW.1 g (by have := hvl g hg (by rw [hp]; simp); omega) (by have := hvl g hg (by rw [hp]; simp); omega)
    have stC : ∀ W, Stay W → (W.cell? ⟨w.heap.size, 0, none⟩ = some (.int .u8 (S : Int)) ∧ W.frozen? ⟨w.heap.size, 0, none⟩ = false) ∧ (W.cell? ⟨w.heap.size + 1, 0, none⟩ = some (.bool false) ∧ W.frozen? ⟨w.heap.size + 1, 0, none⟩ = false) ∧
        (W.cell? ⟨w2.heap.size, 0, none⟩ = some (.slice p2 P.length c2) ∧ W.frozen? ⟨w2.heap.size, 0, none⟩ = false) ∧ W.cell? ⟨w2.heap.size + 2, 0, none⟩ = some (.string s) := by
      rw [hStay]
      exact fun W hW => ⟨one_cell ((hW.1 _ (by omega) (by omega)).trans f0), one_cell ((hW.1 _ (by omega) (by omega)).trans f1), one_cell ((hW.1 _ (by omega) (by omega)).trans g0), (one_cell ((hW.1 _ (by omega) (by omega)).trans g2)).1⟩
    have stU : ∀ W, Stay W → Below w.heap.size w W := by
      rw [hStay]
      exact fun W hW => BW.trans ⟨hW.2.1, hW.2.2.1, hW.2.2.2.1, by have := hW.2.2.2.2; omega, fun r hr => hW.1 r (by omega) (by omega)⟩
    have stZ : ∀ W, Stay W → w2.heap.size + 3 ≤ W.heap.size := by rw [hStay]; exact fun W hW => hW.2.2.2.2
    have stN : ∀ W v, Stay W → Stay (W.setCell ⟨w2.heap.size + 1, 0, none⟩ v) := by
      rw [hStay]
      exact fun W v hW => ⟨fun r h1 h2 => (Below.heap_setCell _ _ _ _ h2).trans (hW.1 r h1 h2), hW.2.1, hW.2.2.1, hW.2.2.2.1, by simp [World.setCell]; exact hW.2.2.2.2⟩
    clear hStay hv hvl f0 f1 g0 g2 HF0 HF1 HL2 BW HB2
    refine wp_range (wpIn_rangeR (gf := 29) rfl (enters_of Tryd.func29 (by kernel_rfl) rfl) HSEQ.out (fun j x hx => ?_)
      (fun j W => Stay W ∧ W.heap[w2.heap.size + 1]? = some (.cells #[.int .i64 (j : Int)] 3 (0, 0)) ∧ j ≤ S)
      (fun co j W => co = .exit 0 ∧ Stay W ∧ W.heap[w2.heap.size + 1]? = some (.cells #[.int .i64 (S : Int)] 3 (0, 0)) ∧ S < P.length)
      ?_ ?_ (fun j W h => ⟨(stC W h.1).2.2.2, HBD.out.below (stU W h.1)⟩) ⟨st0, g1, Nat.zero_le _⟩ ?round ?done ?stop)
    · rw [List.getElem?_map] at hx
      cases hp : P[j]? with
      | none => rw [hp] at hx; cases hx
      | some p => rw [hp] at hx; cases hx; rfl
    · rintro j A B ⟨i1, i2, i3⟩ hB
      rw [s0] at hB
      exact ⟨stB A B i1 hB, hB.heap i2 (by omega) (by omega), i3⟩
    · rintro co j A B ⟨i0, i1, i2, i3⟩ hB
      rw [s0] at hB
      exact ⟨i0, stB A B i1 hB, hB.heap i2 (by omega) (by omega), i3⟩
    case round =>
      rintro j x W hx - -
      have hp : ∃ p, P[j]? = some p ∧ x = pr p := by
        rw [List.getElem?_map] at hx
        cases hp : P[j]? with
        | none => rw [hp] at hx; cases hx
        | some p => rw [hp] at hx; cases hx; exact ⟨p, rfl, rfl⟩
      obtain ⟨⟨pa, ln⟩, hp, rfl⟩ := hp
      have hlt := (List.getElem?_eq_some_iff.1 hp).1
      have hcl := fun W2 (i1 : Stay W2) => (stV W2 i1).at hp
      unfold pr
      simp only at hcl ⊢
      generalize arr ln = lb at hcl ⊢
      clear hx hp
      gi_wp2_with fail
      refine ⟨trivial, ?_⟩
      rintro W2 ⟨i1, i2, i3⟩ hsz
      rw [s0] at hsz ⊢
      obtain ⟨⟨x0, y0⟩, ⟨x1, y1⟩, ⟨x2, y2⟩, x3⟩ := stC W2 i1
      obtain ⟨x4, y4⟩ := one_cell i2
      by_cases hs : j < S
      · have hs' : (j : Int) < (S : Int) := by omega
        have hlt' : (j : Int) < (P.length : Int) := by omega
        have j0 : (0 : Int) ≤ (j : Int) := by omega
        have n1 : ¬ (S : Int) ≤ (j : Int) := by omega
        have n2 : ¬ (P.length : Int) ≤ (j : Int) := by omega
        have hwr : IntKind.i64.wrap ((j : Int) + 1) = (j : Int) + 1 := IntWalk.i64_in _ (by omega)
        obtain ⟨ad, rfl, hc0, hc1⟩ := hcl W2 i1
        have hss : (lb.toList == lb.toList) = true := beq_self_eq_true _
        have hend : Held (w2.heap.size + 3) False W2 (W2.setCell ⟨w2.heap.size + 1, 0, none⟩ (.int .i64 ((j : Int) + 1))) ∧ Stay (W2.setCell ⟨w2.heap.size + 1, 0, none⟩ (.int .i64 ((j : Int) + 1))) ∧
            (W2.setCell ⟨w2.heap.size + 1, 0, none⟩ (.int .i64 ((j : Int) + 1))).heap[w2.heap.size + 1]? = some (.cells #[.int .i64 ((j + 1 : Nat) : Int)] 3 (0, 0)) ∧ j + 1 ≤ S := by
          refine ⟨Held.setCell _ (show w2.heap.size + 1 ≠ w2.heap.size + 3 by omega) (show w2.heap.size + 1 ≠ w2.heap.size + 3 + 1 by omega) (fun h => h.elim) _, stN _ _ i1, ?_, by omega⟩
          refine (heap_set _ i2).trans ?_
          simp
        have HE := Lib.hid hend
        clear hend hcl
        gi_wp2_with fail
        exact HE.out
      · obtain rfl : j = S := by omega
        have I1 := Lib.hid i1
        have I2 := Lib.hid i2
        have HLT := Lib.hid hlt
        clear hcl hlt
        gi_wp2_with fail
        exact ⟨Held.refl _ _ _, rfl, I1.out, I2.out, HLT.out⟩
    case done =>
      rintro W ⟨i1, i2, i3⟩ hD
      rw [HPL.out] at i2 i3
      rw [s0] at hD ⊢
      obtain ⟨⟨x0, y0⟩, ⟨x1, y1⟩, ⟨x2, y2⟩, x3⟩ := stC W i1
      obtain ⟨x4, y4⟩ := one_cell i2
      have hmin : min (S : Int) (P.length : Int) = (P.length : Int) := by omega
      have hU := stU W i1
      have hZ := stZ W i1
      have hwS : IntKind.i64.wrap (S : Int) = (S : Int) := IntWalk.i64_in _ (by omega)
      have hU2 := Lib.hid hU
      clear stB stV stC stN stU stZ st0 g1 i1 hU
      go_wp2_with fail
      have hD2 : (W.setCell ⟨w.heap.size + 1, 0, none⟩ (.bool true)).heap[w2.heap.size + 3]? = some (.deferred (some [])) := (Below.heap_setCell _ _ _ _ (by simp; omega)).trans hD
      have hbu : But (w2.heap.size + 3) (W.setCell ⟨w.heap.size + 1, 0, none⟩ (.bool true)) ((W.setCell ⟨w.heap.size + 1, 0, none⟩ (.bool true)).putObj (w2.heap.size + 3) (.deferred none)) := But.putObj _ _ (.inl rfl) _
      have hres : (W.setCell ⟨w.heap.size + 1, 0, none⟩ (.bool true)).cell? ⟨w.heap.size + 1, 0, none⟩ = some (.bool true) := World.cell?_setCell_same' _ _ _ (by rw [x1]; rfl)
      refine left_mark rfl hD2 (results_bool rfl _ _ (w.heap.size + 1) true rfl (hbu.cell hres (by simp; omega) (by simp; omega))) ?_ (.inl rfl)
      have hU3 : Below w.heap.size w (W.setCell ⟨w.heap.size + 1, 0, none⟩ (.bool true)) := hU2.out.setCell (by simp) _
      exact ⟨rfl, hbu.below hU3 (by omega) hU3.size⟩
    case stop =>
      rintro co j W hj ⟨rfl, i1, i2, i3⟩ hD
      rw [s0] at hD ⊢
      refine wpIn_wide.2 ?_
      obtain ⟨⟨x0, y0⟩, ⟨x1, y1⟩, ⟨x2, y2⟩, x3⟩ := stC W i1
      obtain ⟨x4, y4⟩ := one_cell i2
      have hmin : min (S : Int) (P.length : Int) = (S : Int) := by omega
      have hU := stU W i1
      have hZ := stZ W i1
      have hwS : IntKind.i64.wrap (S : Int) = (S : Int) := IntWalk.i64_in _ (by omega)
      have hU2 := Lib.hid hU
      clear stB stV stC stN stU stZ st0 g1 i1 hU
      go_wp2_with fail
      have hD2 : (W.setCell ⟨w.heap.size + 1, 0, none⟩ (.bool true)).heap[w2.heap.size + 3]? = some (.deferred (some [])) := (Below.heap_setCell _ _ _ _ (by simp; omega)).trans hD
      have hbu : But (w2.heap.size + 3) (W.setCell ⟨w.heap.size + 1, 0, none⟩ (.bool true)) ((W.setCell ⟨w.heap.size + 1, 0, none⟩ (.bool true)).putObj (w2.heap.size + 3) (.deferred none)) := But.putObj _ _ (.inl rfl) _
      have hres : (W.setCell ⟨w.heap.size + 1, 0, none⟩ (.bool true)).cell? ⟨w.heap.size + 1, 0, none⟩ = some (.bool true) := World.cell?_setCell_same' _ _ _ (by rw [x1]; rfl)
      refine left_mark rfl hD2 (results_bool rfl _ _ (w.heap.size + 1) true rfl (hbu.cell hres (by simp; omega) (by simp; omega))) ?_ (.inl rfl)
      have hU3 : Below w.heap.size w (W.setCell ⟨w.heap.size + 1, 0, none⟩ (.bool true)) := hU2.out.setCell (by simp) _
      exact ⟨rfl, hbu.below hU3 (by omega) hU3.size⟩

end Go.Proofs.YtdimobigdkmcbaaDoor
