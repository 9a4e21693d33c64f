/- Bodies that are the same: body.Same, the law's same and of. -/
import Derived.Test.YtdbignianpkofaaDoorByteSame
import Derived.Test.YtdbignianpkofaaDoorBodyPay
namespace Go.Proofs.YtdbignianpkofaaDoor
open Go.ChangeShapes Go.WideShapes Go.ChangeAt Go.RowKit
open Go.Shelf
open Oc Fl Bk Bd
set_option linter.unusedVariables false
set_option maxRecDepth 100000

abbrev obBd (dv gv : Value) (n : Nat) : Obj := .cells #[dv, gv, .int .i64 (n : Int)] 28
/-- Two bodies in boxes of a call's own. -/
theorem two_boxes (w : World) (x y : Obj) : Below w.heap.size w ((w.alloc x).alloc y) ∧ ((w.alloc x).alloc y).heap[w.heap.size]? = some x ∧ ((w.alloc x).alloc y).heap[w.heap.size + 1]? = some y ∧ ((w.alloc x).alloc y).heap.size = w.heap.size + 2 := by
  refine ⟨ahead (below_box _ _) (below_box _ _), ?_, ?_, by simp⟩
  · rw [Below.heap_alloc _ _ _ (by simp)]; exact World.alloc_heap_new w _
  · have := World.alloc_heap_new (w.alloc x) y; simpa using this

set_option maxHeartbeats 2000000 in
theorem lsame_true {dv gv dv' gv' : Value} {D : List UInt8} {fs : List Fld} {n : Nat} (w : World) (h1 : RD w dv D) (h2 : FS w gv fs) (h3 : RD w dv' D) (h4 : FS w gv' fs) (hl : fs.length ≤ 1000000) :
    Calls Tryd.prog 13 #[bodyv dv gv n, bodyv dv' gv' n] w fun e w' => e = .returned (.bool true) ∧ Below w.heap.size w w' := by
  obtain ⟨hb, g0, g1, hz⟩ := two_boxes w (obBd dv gv n) (obBd dv' gv' n)
  have HS := Lib.hid (rsame8_any _ dv dv' D D (h1.below hb) (h3.below hb))
  rw [decide_eq_true rfl] at HS
  have HF : Hid (∀ m, _) := Lib.hid fun m => fields_any fs fs gv gv' _ ((h2.below hb).below (drewN_below _ m)) ((h4.below hb).below (drewN_below _ m)) hl hl rfl
  obtain ⟨pd, cd, rfl, -⟩ := h1
  obtain ⟨pf, cf, rfl, -⟩ := RS.slice h2
  obtain ⟨pd', cd', rfl, -⟩ := h3
  obtain ⟨pf', cf', rfl, -⟩ := RS.slice h4
  unfold bodyv
  obtain ⟨w0, hw0⟩ : ∃ w0, (w.alloc (obBd (.slice pd D.length cd) (.slice pf fs.length cf) n)).alloc (obBd (.slice pd' D.length cd') (.slice pf' fs.length cf') n) = w0 := ⟨_, rfl⟩
  rw [hw0] at HS HF hb g0 g1 hz
  have W0 := Lib.hid hw0
  clear h2 h4 hw0
  go_enter Tryd.func13, Tryd.ntmps13
  go_wp2_with fail
  rw [W0.out]
  refine HS.out.mono ?_
  rintro e w1 ⟨rfl, m, rfl⟩
  obtain ⟨⟨a0, a1, a2⟩, -⟩ := three_cells8 (A := w0.drewN m) g0
  obtain ⟨⟨b0, b1, b2⟩, -⟩ := three_cells8 (A := w0.drewN m) g1
  go_wp2_with fail
  refine (HF.out m).mono ?_
  rintro e w2 ⟨rfl, hb2⟩
  have g0' := (hb2.block w.heap.size (by show w.heap.size < w0.heap.size; omega)).trans g0
  have g1' := (hb2.block (w.heap.size + 1) (by show w.heap.size + 1 < w0.heap.size; omega)).trans g1
  obtain ⟨⟨c0, c1, c2⟩, -⟩ := three_cells8 g0'
  obtain ⟨⟨d0, d1, d2⟩, -⟩ := three_cells8 g1'
  have HB := Lib.hid (ahead (ahead hb (drewN_below w0 m)) hb2)
  clear hb2 g0 g1 g0' g1' hb HF HS W0 a0 a1 a2 b0 b1 b2
  go_wp2_with fail
  go_ret
  exact ⟨rfl, HB.out⟩

set_option maxHeartbeats 2000000 in
theorem lsame_none {dv gv : Value} {D : List UInt8} {fs : List Fld} {n : Nat} (w : World) (h1 : RD w dv D) (h2 : FS w gv fs) (hn : n ≠ 0) :
    Calls Tryd.prog 13 #[bodyv dv gv n, .agg zbody] w fun e w' => e = .returned (.bool false) ∧ Below w.heap.size w w' := by
  obtain ⟨hb, g0, g1, hz⟩ := two_boxes w (obBd dv gv n) (.cells zbody 28)
  have HS := Lib.hid (rsame8_any _ dv (.slice none 0 0) D [] (h1.below hb) (RD.nil _))
  have hnn : ((n : Int) == 0) = false := beq_eq_false_iff_ne.2 (by omega)
  have HF1 : Hid (∀ m, fs ≠ [] → _) := Lib.hid fun m h0 => fields_none fs gv (((w.alloc (obBd dv gv n)).alloc (.cells zbody 28)).drewN m) ((h2.below hb).below (drewN_below _ m)) h0
  have HF0 : Hid (∀ m, fs = [] → _) := Lib.hid fun m h0 => fields_any fs [] gv (.slice none 0 0) _ ((h2.below hb).below (drewN_below _ m)) (RS.nil _ _) (by rw [h0]; decide) (by decide) h0
  obtain ⟨pd, cd, rfl, -⟩ := h1
  obtain ⟨pf, cf, rfl, -⟩ := RS.slice h2
  unfold bodyv
  obtain ⟨w0, hw0⟩ : ∃ w0, (w.alloc (obBd (.slice pd D.length cd) (.slice pf fs.length cf) n)).alloc (.cells zbody 28) = w0 := ⟨_, rfl⟩
  rw [hw0] at HS HF0 HF1 hb g0 g1 hz
  have W0 := Lib.hid hw0
  clear h2 hw0
  by_cases hD : D = []
  case neg =>
    rw [decide_eq_false hD] at HS
    go_enter Tryd.func13, Tryd.ntmps13
    go_wp2_with fail
    rw [W0.out]
    refine HS.out.mono ?_
    rintro e w1 ⟨rfl, m, rfl⟩
    have HB := Lib.hid (ahead hb (drewN_below w0 m))
    clear g0 g1 hb HF0 HF1 HS W0
    go_wp2_with fail
    go_ret
    exact ⟨rfl, HB.out⟩
  rw [decide_eq_true hD] at HS
  clear hD
  by_cases hF : fs = []
  case neg =>
    go_enter Tryd.func13, Tryd.ntmps13
    go_wp2_with fail
    rw [W0.out]
    refine HS.out.mono ?_
    rintro e w1 ⟨rfl, m, rfl⟩
    obtain ⟨⟨a0, a1, a2⟩, -⟩ := three_cells8 (A := w0.drewN m) g0
    obtain ⟨⟨b0, b1, b2⟩, -⟩ := three_cells8 (A := w0.drewN m) g1
    have HB := Lib.hid (ahead hb (drewN_below w0 m))
    clear g0 g1 hb HF0 HS W0
    go_wp2_with fail
    refine (HF1.out m hF).mono ?_
    rintro e w2 ⟨rfl, rfl⟩
    go_wp2_with fail
    go_ret
    exact ⟨rfl, HB.out⟩
  have HFE := Lib.hid hF
  clear hF
  go_enter Tryd.func13, Tryd.ntmps13
  go_wp2_with fail
  rw [W0.out]
  refine HS.out.mono ?_
  rintro e w1 ⟨rfl, m, rfl⟩
  obtain ⟨⟨a0, a1, a2⟩, -⟩ := three_cells8 (A := w0.drewN m) g0
  obtain ⟨⟨b0, b1, b2⟩, -⟩ := three_cells8 (A := w0.drewN m) g1
  go_wp2_with fail
  refine (HF0.out m HFE.out).mono ?_
  rintro e w2 ⟨rfl, hb2⟩
  have g0' := (hb2.block w.heap.size (by show w.heap.size < w0.heap.size; omega)).trans g0
  have g1' := (hb2.block (w.heap.size + 1) (by show w.heap.size + 1 < w0.heap.size; omega)).trans g1
  obtain ⟨⟨c0, c1, c2⟩, -⟩ := three_cells8 g0'
  obtain ⟨⟨d0, d1, d2⟩, -⟩ := three_cells8 g1'
  have HB := Lib.hid (ahead (ahead hb (drewN_below w0 m)) hb2)
  clear hb2 g0 g1 g0' g1' hb HF0 HF1 HS W0 a0 a1 a2 b0 b1 b2
  go_wp2_with fail
  go_ret
  exact ⟨rfl, HB.out⟩

theorem arr_same {x y : List UInt8} (h : x = y) : (((⟨x.toArray⟩ : ByteArray).toList) == ((⟨y.toArray⟩ : ByteArray).toList)) = true := by rw [h]; exact beq_self_eq_true _
set_option maxHeartbeats 2000000 in
theorem equal_true {u v : Value} {xs ys : List UInt8} (w : World) (h1 : RD w u xs) (h2 : RD w v ys) (h : xs = ys) :
    Calls Tryd.prog 27 #[u, v] w fun e w' => e = .returned (.bool true) ∧ w = w' := by
  have e1 := conv_rd h1
  have e2 := conv_rd h2
  have e3 := arr_same h
  generalize (⟨xs.toArray⟩ : ByteArray) = a at *
  generalize (⟨ys.toArray⟩ : ByteArray) = b at *
  clear h1 h2 h
  go_enter Tryd.func27, Tryd.ntmps27
  go_wp2_with fail
  go_ret
  exact ⟨rfl, rfl⟩

set_option maxHeartbeats 2000000 in
theorem fequal_true (a : List Fld) (u v : Value) (w : World) (ha : FS w u a) (hb : FS w v a) (hla : a.length ≤ 1000000) :
    Calls Tryd.prog 28 #[u, v] w fun e w' => e = .returned (.bool true) ∧ Below w.heap.size w w' := by
  obtain ⟨p, c, rfl, -, -⟩ := RS.slice ha
  obtain ⟨q, d, rfl, -, -⟩ := RS.slice hb
  have HA := Lib.hid ha
  have HB := Lib.hid hb
  clear ha hb
  go_enter Tryd.func28, Tryd.ntmps28
  go_wp2_with fail
  go_loopw [5, 13] (fun _ i wr => ∃ (k : Nat), k ≤ a.length ∧ i = .int .i64 k ∧ Below w.heap.size w wr) (fun _ i _ => a.length - (intOf i).toNat)
  case atStart => exact ⟨0, Nat.zero_le _, rfl, Below.refl _ _⟩
  case round =>
    obtain ⟨k, hk, rfl, hT⟩ := hrel
    have HT := Lib.hid hT
    clear hT
    by_cases hlt : k < a.length
    · obtain ⟨s, hs⟩ : ∃ s, a[k]? = some s := ⟨_, List.getElem?_eq_getElem hlt⟩
      obtain ⟨-, ad, rfl, c0, c1⟩ := (HA.out.below HT.out).at hs
      obtain ⟨-, bd, rfl, d0, d1⟩ := (HB.out.below HT.out).at hs
      clear hs
      obtain ⟨x, y⟩ := s
      simp only at c0 c1 d0 d1
      have hxx : (x.toList == x.toList) = true := beq_self_eq_true _
      have hyy : (y.toList == y.toList) = true := beq_self_eq_true _
      have k1 : (0 : Int) ≤ (k : Int) := by omega
      have k2 : (k : Int) < (a.length : Int) := by omega
      go_wp2_with fail
      go_quiet (fail)
      go_wp2_with fail
      go_roundw
      case rel => exact ⟨k + 1, by omega, by go_num, by first | exact below_drewN HT.out _ | exact HT.out.drew⟩
      case measure => simp [intOf]; omega
    · go_wp2_with fail
      go_ret
      exact ⟨rfl, HT.out⟩

set_option maxHeartbeats 2000000 in
theorem bsame_true {dv gv dv' gv' : Value} {D : List UInt8} {fs : List Fld} {n : Nat} (w : World) (h1 : RD w dv D) (h2 : FS w gv fs) (h3 : RD w dv' D) (h4 : FS w gv' fs) (hl : fs.length ≤ 1000000) :
    Calls Tryd.prog 17 #[bodyv dv gv n, bodyv dv' gv' n] w fun e w' => e = .returned (.bool true) ∧ Below w.heap.size w w' := by
  obtain ⟨hb, g0, g1, hz⟩ := two_boxes w (obBd dv gv n) (obBd dv' gv' n)
  have HS := Lib.hid (equal_true _ (h1.below hb) (h3.below hb) rfl)
  have HF := Lib.hid (fequal_true fs gv gv' _ (h2.below hb) (h4.below hb) hl)
  obtain ⟨pd, cd, rfl, -⟩ := h1
  obtain ⟨pf, cf, rfl, -⟩ := RS.slice h2
  obtain ⟨pd', cd', rfl, -⟩ := h3
  obtain ⟨pf', cf', rfl, -⟩ := RS.slice h4
  unfold bodyv
  obtain ⟨w0, hw0⟩ : ∃ w0, (w.alloc (obBd (.slice pd D.length cd) (.slice pf fs.length cf) n)).alloc (obBd (.slice pd' D.length cd') (.slice pf' fs.length cf') n) = w0 := ⟨_, rfl⟩
  rw [hw0] at HS HF hb g0 g1 hz
  have W0 := Lib.hid hw0
  clear h2 h4 hw0
  go_enter Tryd.func17, Tryd.ntmps17
  go_wp2_with fail
  rw [W0.out]
  refine HS.out.mono ?_
  rintro e w1 ⟨rfl, rfl⟩
  obtain ⟨⟨a0, a1, a2⟩, -⟩ := three_cells8 g0
  obtain ⟨⟨b0, b1, b2⟩, -⟩ := three_cells8 g1
  have HB := Lib.hid hb
  clear hb g0 g1 W0 HS
  go_wp2_with fail
  refine HF.out.mono ?_
  rintro e w2 ⟨rfl, hb2⟩
  clear a0 a1 a2 b0 b1 b2 HF
  go_wp2_with fail
  go_ret
  exact ⟨rfl, ahead HB.out hb2⟩

set_option maxHeartbeats 2000000 in
theorem bsame_size {dv gv dv' gv' : Value} {D D' : List UInt8} {fs fs' : List Fld} {n m : Nat} (w : World) (h1 : RD w dv D) (h2 : FS w gv fs) (h3 : RD w dv' D') (h4 : FS w gv' fs') (hn : n ≠ m) :
    Calls Tryd.prog 17 #[bodyv dv gv n, bodyv dv' gv' m] w fun e w' => e = .returned (.bool false) ∧ Below w.heap.size w w' := by
  obtain ⟨hb, -⟩ := two_boxes w (obBd dv gv n) (obBd dv' gv' m)
  have HB := Lib.hid hb
  obtain ⟨pd, cd, rfl, -⟩ := h1
  obtain ⟨pf, cf, rfl, -⟩ := RS.slice h2
  obtain ⟨pd', cd', rfl, -⟩ := h3
  obtain ⟨pf', cf', rfl, -⟩ := RS.slice h4
  have hnm : ((n : Int) == (m : Int)) = false := beq_eq_false_iff_ne.2 (by omega)
  unfold bodyv
  clear h2 h4 hb
  go_enter Tryd.func17, Tryd.ntmps17
  go_wp2_with fail
  go_ret
  exact ⟨rfl, HB.out⟩

end Go.Proofs.YtdbignianpkofaaDoor
