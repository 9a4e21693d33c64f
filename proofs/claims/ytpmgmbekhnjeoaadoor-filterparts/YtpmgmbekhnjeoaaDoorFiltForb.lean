/- What filter.Forbidden answers. -/
import Derived.Test.YtpmgmbekhnjeoaaDoorFiltSeq
import Derived.Test.YtpmgmbekhnjeoaaDoorKptMem
import Derived.Test.YtpmgmbekhnjeoaaDoorOctetSmall
namespace Go.Proofs.YtpmgmbekhnjeoaaDoor
open Go.ChangeShapes Go.WideShapes Go.ChangeAt Go.RowKit
open Go.Shelf
open Oc Fl Ft
set_option linter.unusedVariables false
set_option maxRecDepth 100000
attribute [local go_sem] Oper.semAt_some

/-- A result that lies in a cell of its own. -/
theorem results_flag {fn : Func} {p : Tmp} (h : fn.results = #[.cell p 4]) (tmps : Array Value) (w : World) (g : Nat) (b : Bool) (hp : tmps.getD p undef = .pointer (some ⟨g, 0, none⟩)) (hg : w.cell? ⟨g, 0, none⟩ = some (.bool b)) :
    (results fn tmps).run Tryd.prog w = .ok (.bool b) w := by
  have hp' : tmps[p]?.getD undef = .pointer (some ⟨g, 0, none⟩) := by simpa using hp
  simp [results, h, hp', asAddr, loadVar, isAgg, run_underlying Tryd.underlying4, hg, go_sem]

/-- Two cells of a call's own, just made. -/
theorem kpt_two (w : World) (u v : Value) (s t : TypeId) : Kpt w [(w.heap.size, B1 u s), (w.heap.size + 1, B1 v t)] [] ((w.alloc (.cells #[u] s)).alloc (.cells #[v] t)) := by
  refine ⟨(below_box _ _).trans ((below_box _ _).mono (by simp)), Marks.nil _ _, ?_⟩
  intro q hq
  simp only [List.mem_cons, List.not_mem_nil, or_false] at hq
  rcases hq with rfl | rfl
  · exact ⟨Nat.le_refl _, (Below.heap_alloc _ _ _ (by simp)).trans (new_one _ _ _)⟩
  · refine ⟨by simp, ?_⟩
    have := new_one (w.alloc (.cells #[u] s)) v t
    rwa [World.size_alloc] at this

set_option maxRecDepth 100000 in
set_option maxHeartbeats 8000000 in
theorem forbidden_any (s : ByteArray) (w : World) (hT : Tbl w) (hs : s.size ≤ 1099511627776) :
    Calls Tryd.prog 9 #[.string s] w fun e w' => e = .returned (.bool (forb s)) ∧ Below w.heap.size w w' := by
  have HT := Lib.hid hT
  clear hT
  refine calls_of_marks Tryd.func9 rfl ?_
  simp only [Tryd.ntmps9, List.size_toArray, List.length_cons, List.length_nil, Nat.reduceAdd, Nat.reduceSub, Array.replicate_succ, Array.replicate_zero, List.push_toArray, List.append_toArray, List.nil_append, List.cons_append]
  go_wp2_with (go_at_call 17; refine (names_any _).mono ?_; rintro e w' ⟨rfl, rfl⟩)
  have K0 := kpt_two w (.string s) (.bool false) 9 4
  have s0 : ((w.alloc (.cells #[.string s] 9)).alloc (.cells #[.bool false] 4)).heap.size = w.heap.size + 2 := by simp
  generalize (w.alloc (.cells #[.string s] 9)).alloc (.cells #[.bool false] 4) = W0 at K0 s0 ⊢
  refine wp_range (wpIn_rangeR (gf := 21) rfl (enters_of Tryd.func21 (by kernel_rfl) rfl) names_seq (fun j x hx => ?_)
    (fun j W => Kpt w [(w.heap.size, B1 (.string s) 9), (w.heap.size + 1, B1 (.bool false) 4)] [] W ∧ (nms.take j).any (fun n => alike s.data.toList n.data.toList) = false)
    (fun co j W => co = .ret ∧ Kpt w [(w.heap.size + 1, B1 (.bool true) 4)] [] W ∧ forb s = true)
    ?_ ?_ (fun j W h => HT.out.below h.1.below) ⟨K0, rfl⟩ ?round ?done ?stop)
  · obtain ⟨y, _, rfl⟩ := nmV_of hx; rfl
  · rintro j A B ⟨i1, i2⟩ hB
    rw [s0] at hB
    exact ⟨i1.but hB (by omega) (fun q hq => by simp only [List.mem_cons, List.not_mem_nil, or_false] at hq; rcases hq with rfl | rfl <;> simp) (fun x hx => by cases hx), i2⟩
  · rintro co j A B ⟨i1, i2, i3⟩ hB
    rw [s0] at hB
    exact ⟨i1, i2.but hB (by omega) (fun q hq => by simp only [List.mem_cons, List.not_mem_nil, or_false] at hq; subst hq; simp) (fun x hx => by cases hx), i3⟩
  case round =>
    rintro j x W hx - -
    obtain ⟨n, hn, rfl⟩ := nmV_of hx
    have hnz := nms_size n (List.mem_of_getElem? hn)
    have HAL : Hid (∀ W, _) := Lib.hid fun W => alike_any s n W hs (by omega)
    have HN := Lib.hid hn
    clear hx hn
    gi_wp2_with fail
    refine ⟨trivial, ?_⟩
    rintro W2 ⟨i1, i2⟩ hsz2
    rw [s0] at hsz2 ⊢
    obtain ⟨c2, f2⟩ := one_cell (i1.at_ (w.heap.size, B1 (.string s) 9) (by simp)).2
    have I1 := Lib.hid i1
    have I2 := Lib.hid i2
    clear i1 i2 f2
    simp only at c2
    cases hal : alike s.data.toList n.data.toList
    · rw [hal] at HAL
      have HA := Lib.hid hal
      clear hal
      gi_wp2_with fail
      refine ⟨trivial, rfl, (callsIn_wide.2 (HAL.out _)).mono ?_⟩
      rintro e W3 ⟨rfl, hb3⟩
      replace hb3 := Lib.hid hb3
      gi_wp2_with fail
      exact ⟨Held.of_below hsz2 hb3.out, I1.out.next hb3.out, by rw [any_snoc HN.out, I2.out, HA.out]; rfl⟩
    · rw [hal] at HAL
      have HA := Lib.hid hal
      clear hal
      gi_wp2_with fail
      refine ⟨trivial, rfl, (callsIn_wide.2 (HAL.out _)).mono ?_⟩
      rintro e W3 ⟨rfl, hb3⟩
      have hK := I1.out.next hb3
      obtain ⟨c3, f3⟩ := one_cell (hK.at_ (w.heap.size + 1, B1 (.bool false) 4) (by simp)).2
      have hz3 := hb3.size
      have HB3 := Lib.hid hb3
      have HK := Lib.hid hK
      clear hb3 hK
      simp only at c3 f3
      gi_wp2_with fail
      have hP : Kpt w [(w.heap.size + 1, B1 (.bool true) 4)] [] (W3.setCell ⟨w.heap.size + 1, 0, none⟩ (.bool true)) := HK.out.put (r := w.heap.size + 1) (u := .bool false) (t := 4) (.bool true) (by simp [B1]) (fun q hq => by
        simp only [List.mem_cons, List.not_mem_nil, or_false] at hq
        subst hq
        exact .inl rfl)
      refine ⟨⟨by simp [World.setCell]; omega, ?_, ?_, fun h => h.elim⟩, rfl, hP, any_here HN.out HA.out⟩
      · exact (Below.heap_setCell _ _ _ _ (by dsimp only; omega)).trans (HB3.out.block _ (by omega))
      · exact (Below.heap_setCell _ _ _ _ (by dsimp only; omega)).trans (HB3.out.block _ (by omega))
  case done =>
    rintro W ⟨i1, i2⟩ hD
    rw [s0] at hD ⊢
    obtain ⟨c2, f2⟩ := one_cell (i1.at_ (w.heap.size + 1, B1 (.bool false) 4) (by simp)).2
    have I1 := Lib.hid (i1.mark (D := w.heap.size + 2) (by omega) hD (fun x hx => by cases hx))
    have HR := Lib.hid (show forb s = false from i2)
    clear i1 i2 hD
    simp only at c2 f2
    go_wp2_with fail
    have hP : Kpt w [(w.heap.size + 1, B1 (.bool false) 4)] [w.heap.size + 2] (W.setCell ⟨w.heap.size + 1, 0, none⟩ (.bool false)) := I1.out.put (r := w.heap.size + 1) (u := .bool false) (t := 4) (.bool false) (by simp [B1]) (fun q hq => by
      simp only [List.mem_cons, List.not_mem_nil, or_false] at hq
      subst hq
      exact .inl rfl)
    refine left_marks_at [w.heap.size + 2] hP.below.size rfl hP.marks (fun W' hW' => ⟨results_flag rfl _ _ (w.heap.size + 1) false rfl (one_cell (hW'.cells _ _ _ _ (hP.at_ (w.heap.size + 1, B1 (.bool false) 4) (by simp)).2)).1, ?_⟩) (.inl rfl)
    exact ⟨by rw [HR.out], hP.below.trans hW'.below⟩
  case stop =>
    rintro co j W _ ⟨rfl, i1, i2⟩ hD
    rw [s0] at hD ⊢
    have I1 := Lib.hid (i1.mark (D := w.heap.size + 2) (by omega) hD (fun x hx => by cases hx))
    have HR := Lib.hid i2
    clear i1 i2 hD
    refine wpIn_wide.2 ?_
    go_wp2_with fail
    refine left_marks_at [w.heap.size + 2] I1.out.below.size rfl I1.out.marks (fun W' hW' => ⟨results_flag rfl _ _ (w.heap.size + 1) true rfl (one_cell (hW'.cells _ _ _ _ (I1.out.at_ (w.heap.size + 1, B1 (.bool true) 4) (by simp)).2)).1, ?_⟩) (.inl rfl)
    exact ⟨by rw [HR.out], I1.out.below.trans hW'.below⟩

end Go.Proofs.YtpmgmbekhnjeoaaDoor
