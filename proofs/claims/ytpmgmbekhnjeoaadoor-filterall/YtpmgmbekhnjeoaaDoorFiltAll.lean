/- The law FilterAll. -/
import Derived.Test.YtpmgmbekhnjeoaaDoorFiltRef
namespace Go.Proofs.YtpmgmbekhnjeoaaDoor
open Go.ChangeShapes Go.WideShapes Go.ChangeAt Go.RowKit
open Go.Shelf
open Oc Fl Ft
set_option linter.unusedVariables false
set_option maxRecDepth 100000
attribute [local go_sem] Oper.semAt_some

theorem neq_seq (f : Fn) (a b : Array Value) (w : World) : (binOp .neq 35 (.func f a b) Value.nilFunc).run Tryd.prog w = .ok (.bool true) w := by
  rfl

/-- What the walk has in its own cells: how far one goes, the answer, the document's names, and how many there were. -/
def Cs (w : World) (R S : Nat) (j : Nat) : List (Nat × Obj) :=
  [(w.heap.size, B1 (.int .u8 (S : Int)) 5), (w.heap.size + 1, B1 (.bool false) 4), (R, .cells (tv nms).toArray 9 (0, 0)), (R + 1, B1 (.slice (some ⟨R, 0, none⟩) 28 28) 23), (R + 1 + 1, B1 (.int .i64 (j : Int)) 3)]

theorem Kpt.made {w W : World} {L : List (Nat × Obj)} {ds : List Nat} (h : Kpt w L ds W) (o : Obj) : Kpt w (L ++ [(W.heap.size, o)]) ds (W.alloc o) := by
  have h1 := h.next (below_box W o)
  refine ⟨h1.below, h1.marks, fun q hq => ?_⟩
  rcases List.mem_append.1 hq with hq | hq
  · exact h1.at_ q hq
  · simp only [List.mem_singleton] at hq
    subst hq
    exact ⟨h.below.size, World.alloc_heap_new W o⟩

set_option maxRecDepth 100000 in
set_option maxHeartbeats 8000000 in
theorem all_walk (S : Nat) (hS : S ≤ 255) (w : World) (hT : Tbl w) :
    Calls Tryd.prog 5 #[.int .u8 (S : Int)] w fun e w' => e = .returned (.bool true) ∧ Below w.heap.size w w' := by
  have HT := Lib.hid hT
  clear hT
  refine calls_of_marks Tryd.func5 rfl ?_
  simp only [Tryd.ntmps5, List.size_toArray, List.length_cons, List.length_nil, Nat.reduceAdd, Nat.reduceSub, Array.replicate_succ, Array.replicate_zero, List.push_toArray, List.append_toArray, List.nil_append, List.cons_append]
  go_wp2_with fail
  have K0 := Lib.hid (kpt_two w (.int .u8 (S : Int)) (.bool false) 5 4)
  generalize (w.alloc (.cells #[.int .u8 (S : Int)] 5)).alloc (.cells #[.bool false] 4) = W0 at K0 ⊢
  refine (wakes13 W0 (HT.out.below K0.out.below)).mono ?_
  rintro e w1 ⟨rfl, hb1⟩
  replace K0 := Lib.hid (K0.out.next hb1)
  clear hb1
  have hnf := neq_seq
  go_wp2_with fail
  refine (rnames_any w1).mono ?_
  rintro e w2 ⟨rfl, hw2⟩
  have hw1 : w.heap.size + 1 < w1.heap.size := K0.out.lt.1 (w.heap.size + 1, B1 (.bool false) 4) (by simp)
  have s2 : w2.heap.size = w1.heap.size + 1 := by rw [hw2]; simp
  have K2 := Lib.hid (K0.out.made (.cells (tv nms).toArray 9))
  rw [← hw2] at K2
  clear hw2 K0
  go_wp2_with (go_at_call 17; refine (names_any _).mono ?_; rintro e w' ⟨rfl, rfl⟩)
  clear hnf
  obtain ⟨R, hR⟩ : ∃ R, w1.heap.size = R := ⟨_, rfl⟩
  rw [hR] at s2 hw1 K2 ⊢
  have K3 := (K2.out.made (B1 (.slice (some ⟨R, 0, none⟩) 28 28) 23)).made (B1 (.int .i64 0) 3)
  rw [World.size_alloc, s2] at K3
  replace K3 : Kpt w (Cs w R S 0) [] _ := K3.less fun q hq => by
    simp only [Cs, List.mem_cons, List.not_mem_nil, or_false] at hq
    simp only [List.mem_append, List.mem_cons, List.not_mem_nil, or_false]
    rcases hq with rfl | rfl | rfl | rfl | rfl
    · exact .inl (.inl (.inl (.inl rfl)))
    · exact .inl (.inl (.inl (.inr rfl)))
    · exact .inl (.inl (.inr rfl))
    · exact .inl (.inr rfl)
    · exact .inr rfl
  have s0 : ((w2.alloc (B1 (.slice (some ⟨R, 0, none⟩) 28 28) 23)).alloc (B1 (.int .i64 0) 3)).heap.size = R + 1 + 1 + 1 := by rw [World.size_alloc, World.size_alloc, s2]
  unfold B1 at K3 s0
  generalize (w2.alloc (.cells #[.slice (some ⟨R, 0, none⟩) 28 28] 23 (0, 0))).alloc (.cells #[.int .i64 0] 3 (0, 0)) = W3 at K3 s0 ⊢
  clear K2 s2 hR
  -- a cell of them
  have hat : ∀ {W : World} {ds : List Nat} {j : Nat}, Kpt w (Cs w R S j) ds W → (W.cell? ⟨w.heap.size, 0, none⟩ = some (.int .u8 (S : Int))) ∧ (W.cell? ⟨w.heap.size + 1, 0, none⟩ = some (.bool false) ∧ W.frozen? ⟨w.heap.size + 1, 0, none⟩ = false) ∧
      (∀ (k : Nat) (n : ByteArray), nms[k]? = some n → W.cell? ⟨R, k, none⟩ = some (.string n)) ∧ (W.cell? ⟨R + 1, 0, none⟩ = some (.slice (some ⟨R, 0, none⟩) 28 28)) ∧ (W.cell? ⟨R + 1 + 1, 0, none⟩ = some (.int .i64 (j : Int)) ∧ W.frozen? ⟨R + 1 + 1, 0, none⟩ = false) := by
    intro W ds j h
    refine ⟨(one_cell (h.at_ (w.heap.size, B1 (.int .u8 (S : Int)) 5) (by simp [Cs])).2).1, one_cell (h.at_ (w.heap.size + 1, B1 (.bool false) 4) (by simp [Cs])).2, fun k n hn => ?_,
      (one_cell (h.at_ (R + 1, B1 (.slice (some ⟨R, 0, none⟩) 28 28) 23) (by simp [Cs])).2).1, one_cell (h.at_ (R + 1 + 1, B1 (.int .i64 (j : Int)) 3) (by simp [Cs])).2⟩
    rw [cell_of_row _ _ k _ _ _ (h.at_ (R, .cells (tv nms).toArray 9 (0, 0)) (by simp [Cs])).2]
    simpa using tv_get hn
  have hlt : ∀ (j : Nat), ∀ q ∈ Cs w R S j, q.1 < R + 1 + 1 + 1 := fun j q hq => by
    simp only [Cs, List.mem_cons, List.not_mem_nil, or_false] at hq
    rcases hq with rfl | rfl | rfl | rfl | rfl <;> simp <;> omega
  have hws : w.heap.size ≤ R + 1 + 1 + 1 := by omega
  refine wp_range (wpIn_rangeR (gf := 21) rfl (enters_of Tryd.func21 (by kernel_rfl) rfl) names_seq (fun j x hx => ?_)
    (fun j W => Kpt w (Cs w R S j) [] W ∧ j ≤ S)
    (fun co j W => co = .exit 0 ∧ Kpt w (Cs w R S S) [] W ∧ S < 28)
    ?_ ?_ (fun j W h => HT.out.below h.1.below) ⟨K3, Nat.zero_le _⟩ ?round ?done ?stop)
  · obtain ⟨y, _, rfl⟩ := nmV_of hx; rfl
  · rintro j A B ⟨i1, i2⟩ hB
    rw [s0] at hB
    exact ⟨i1.but hB hws (hlt j) (fun x hx => by cases hx), i2⟩
  · rintro co j A B ⟨i1, i2, i3⟩ hB
    rw [s0] at hB
    exact ⟨i1, i2.but hB hws (hlt S) (fun x hx => by cases hx), i3⟩
  case round =>
    rintro j x W hx - -
    obtain ⟨n, hn, rfl⟩ := nmV_of hx
    have hj : j < 28 := (List.getElem?_eq_some_iff.1 hn).1
    have HN := Lib.hid hn
    clear hx hn K3
    gi_wp2_with fail
    refine ⟨trivial, ?_⟩
    rintro W2 ⟨i1, i2⟩ hsz2
    rw [s0] at hsz2 ⊢
    obtain ⟨c0, ⟨c1, f1⟩, c2, c3, c4, f4⟩ := hat i1
    have I1 := Lib.hid i1
    have HL := Lib.hid hlt
    have d2 := c2 j n HN.out
    clear hat hlt i1 c2
    have hbn : (n.toList != n.toList) = false := by simp
    by_cases hs : j < S
    · have hs' : ¬ (S : Int) ≤ (j : Int) := by omega
      have hj' : ¬ (28 : Int) ≤ (j : Int) := by omega
      have hj0 : (0 : Int) ≤ (j : Int) := by omega
      have hj2 : (j : Int) < 28 := by omega
      have hwr : IntKind.i64.wrap ((j : Int) + 1) = (j : Int) + 1 := IntWalk.i64_in _ (by omega)
      have hwS : IntKind.i64.wrap (S : Int) = (S : Int) := IntWalk.i64_in _ (by omega)
      have hP : Kpt w (Cs w R S (j + 1)) [] (W2.setCell ⟨R + 1 + 1, 0, none⟩ (.int .i64 ((j + 1 : Nat) : Int))) := I1.out.put (r := R + 1 + 1) (u := .int .i64 (j : Int)) (t := 3) (.int .i64 ((j + 1 : Nat) : Int)) (by simp [Cs, B1]) (fun q hq => by
        simp only [Cs, List.mem_cons, List.not_mem_nil, or_false] at hq
        rcases hq with rfl | rfl | rfl | rfl | rfl
        · exact .inr ⟨by simp; omega, by simp [Cs]⟩
        · exact .inr ⟨by simp; omega, by simp [Cs]⟩
        · exact .inr ⟨by simp; omega, by simp [Cs]⟩
        · exact .inr ⟨by simp, by simp [Cs]⟩
        · exact .inl rfl)
      rw [show ((j + 1 : Nat) : Int) = (j : Int) + 1 by omega] at hP
      have HP := Lib.hid hP
      clear hP
      gi_wp2_with fail
      refine ⟨⟨by simp [World.setCell], ?_, ?_, fun h => h.elim⟩, HP.out, by omega⟩
      · exact Below.heap_setCell _ _ _ _ (by dsimp only; omega)
      · exact Below.heap_setCell _ _ _ _ (by dsimp only; omega)
    · obtain rfl : j = S := by omega
      have hwS : IntKind.i64.wrap (j : Int) = (j : Int) := IntWalk.i64_in _ (by omega)
      gi_wp2_with fail
      exact ⟨Held.refl _ _ _, rfl, I1.out, hj⟩
  case done =>
    rintro W ⟨i1, i2⟩ hD
    rw [s0] at hD ⊢
    have i28 : (28 : Nat) ≤ S := i2
    replace i1 : Kpt w (Cs w R S 28) [] W := i1
    obtain ⟨c0, ⟨c1, f1⟩, -, c3, c4, f4⟩ := hat i1
    have I1 := Lib.hid (i1.mark (D := R + 1 + 1 + 1) hws hD (fun x hx => by cases hx))
    have hmin : min (S : Int) 28 = 28 := by omega
    have hwS : IntKind.i64.wrap (S : Int) = (S : Int) := IntWalk.i64_in _ (by omega)
    replace c4 : W.cell? ⟨R + 1 + 1, 0, none⟩ = some (.int .i64 28) := c4
    clear hat hlt i1 i2 hD K3 f4
    go_wp2_with fail
    have hP : Kpt w [(w.heap.size + 1, B1 (.bool true) 4)] [R + 1 + 1 + 1] (W.setCell ⟨w.heap.size + 1, 0, none⟩ (.bool true)) := I1.out.put (r := w.heap.size + 1) (u := .bool false) (t := 4) (.bool true) (by simp [Cs, B1]) (fun q hq => by
      simp only [List.mem_cons, List.not_mem_nil, or_false] at hq
      subst hq
      exact .inl rfl)
    refine left_marks_at [R + 1 + 1 + 1] hP.below.size rfl hP.marks (fun W' hW' => ⟨results_flag rfl _ _ (w.heap.size + 1) true rfl (one_cell (hW'.cells _ _ _ _ (hP.at_ (w.heap.size + 1, B1 (.bool true) 4) (by simp)).2)).1, ?_⟩) (.inl rfl)
    exact ⟨rfl, hP.below.trans hW'.below⟩
  case stop =>
    rintro co j W _ ⟨rfl, i1, i2⟩ hD
    rw [s0] at hD ⊢
    obtain ⟨c0, ⟨c1, f1⟩, -, c3, c4, f4⟩ := hat i1
    have I1 := Lib.hid (i1.mark (D := R + 1 + 1 + 1) hws hD (fun x hx => by cases hx))
    have hmin : min (S : Int) 28 = (S : Int) := by omega
    have hwS : IntKind.i64.wrap (S : Int) = (S : Int) := IntWalk.i64_in _ (by omega)
    clear hat hlt i1 hD K3 f4
    refine wpIn_wide.2 ?_
    go_wp2_with fail
    have hP : Kpt w [(w.heap.size + 1, B1 (.bool true) 4)] [R + 1 + 1 + 1] (W.setCell ⟨w.heap.size + 1, 0, none⟩ (.bool true)) := I1.out.put (r := w.heap.size + 1) (u := .bool false) (t := 4) (.bool true) (by simp [Cs, B1]) (fun q hq => by
      simp only [List.mem_cons, List.not_mem_nil, or_false] at hq
      subst hq
      exact .inl rfl)
    refine left_marks_at [R + 1 + 1 + 1] hP.below.size rfl hP.marks (fun W' hW' => ⟨results_flag rfl _ _ (w.heap.size + 1) true rfl (one_cell (hW'.cells _ _ _ _ (hP.at_ (w.heap.size + 1, B1 (.bool true) 4) (by simp)).2)).1, ?_⟩) (.inl rfl)
    exact ⟨rfl, hP.below.trans hW'.below⟩

end Go.Proofs.YtpmgmbekhnjeoaaDoor
