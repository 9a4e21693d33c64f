/- Cells that loops over iterators keep; what list.Has, and the document's Has, answer. -/
import Derived.Test.YtjdbgdlkbdpojaaDoorListGo
import Derived.Test.YtjdbgdlkbdpojaaDoorListRef
import Derived.Test.YtjdbgdlkbdpojaaDoorOctetSmall
import Derived.Stop.RegionWithIn
namespace Go.Proofs.YtjdbgdlkbdpojaaDoor
open Go.ChangeShapes Go.WideShapes Go.ChangeAt Go.RowKit
open Go.Shelf
open Oc Fl Ls
set_option linter.unusedVariables false
attribute [local go_sem] Oper.semAt_some

/-- Blocks of a call's own, behind the loops ds. -/
structure Kpt (w : World) (L : List (Nat × Obj)) (ds : List Nat) (W : World) : Prop where
  below : Below w.heap.size w W
  marks : Marks w.heap.size ds W
  at_ : ∀ p ∈ L, w.heap.size ≤ p.1 ∧ W.heap[p.1]? = some p.2
theorem Kpt.lt {w W : World} {L : List (Nat × Obj)} {ds : List Nat} (h : Kpt w L ds W) : (∀ p ∈ L, p.1 < W.heap.size) ∧ ∀ D ∈ ds, D < W.heap.size :=
  ⟨fun p hp => (Array.getElem?_eq_some_iff.1 (h.at_ p hp).2).1, fun D hD => (Array.getElem?_eq_some_iff.1 (h.marks.at_ D hD).2).1⟩
theorem Kpt.keep {w W W' : World} {L : List (Nat × Obj)} {ds : List Nat} (h : Kpt w L ds W) (hb : Below w.heap.size w W') (hk : ∀ r, (∃ p ∈ L, p.1 = r) ∨ r ∈ ds → W'.heap[r]? = W.heap[r]?) : Kpt w L ds W' :=
  ⟨hb, ⟨fun D hD => ⟨(h.marks.at_ D hD).1, (hk D (.inr hD)).trans (h.marks.at_ D hD).2⟩, h.marks.once⟩, fun p hp => ⟨(h.at_ p hp).1, (hk p.1 (.inl ⟨p, hp, rfl⟩)).trans (h.at_ p hp).2⟩⟩
theorem Kpt.next {w W W' : World} {L : List (Nat × Obj)} {ds : List Nat} (h : Kpt w L ds W) (hb : Below W.heap.size W W') : Kpt w L ds W' :=
  h.keep (ahead h.below hb) fun r hr => hb.block r (by
    obtain ⟨h1, h2⟩ := h.lt
    rcases hr with ⟨p, hp, rfl⟩ | hr
    · exact h1 p hp
    · exact h2 r hr)
theorem Kpt.but {w A B : World} {L : List (Nat × Obj)} {ds : List Nat} {D : Nat} (h : Kpt w L ds A) (hB : But D A B) (hw : w.heap.size ≤ D) (hL : ∀ p ∈ L, p.1 < D) (hd : ∀ x ∈ ds, x < D) : Kpt w L ds B :=
  h.keep (hB.below h.below hw h.below.size) fun r hr => by
    obtain ⟨h1, h2⟩ := h.lt
    rcases hr with ⟨p, hp, rfl⟩ | hr
    · have := hL p hp; exact hB.block _ (h1 p hp) (by omega) (by omega)
    · have := hd r hr; exact hB.block r (h2 r hr) (by omega) (by omega)
/-- One of the blocks, of one cell, is written. -/
theorem Kpt.put {w W : World} {L L' : List (Nat × Obj)} {ds : List Nat} (h : Kpt w L ds W) {r : Nat} {u : Value} {t : TypeId} (v : Value) (hm : (r, .cells #[u] t (0, 0)) ∈ L) (hL : ∀ p ∈ L', p = (r, .cells #[v] t (0, 0)) ∨ p.1 ≠ r ∧ p ∈ L) : Kpt w L' ds (W.setCell ⟨r, 0, none⟩ v) := by
  obtain ⟨hr0, hr⟩ := h.at_ _ hm
  refine ⟨h.below.setCell hr0 _, ⟨fun D hD => ⟨(h.marks.at_ D hD).1, (Below.heap_setCell _ _ _ _ (fun e => ?_)).trans (h.marks.at_ D hD).2⟩, h.marks.once⟩, fun p hp => ?_⟩
  · have := (h.marks.at_ D hD).2
    rw [e] at this
    rw [this] at hr; cases hr
  · rcases hL p hp with rfl | ⟨hne, hp'⟩
    · exact ⟨hr0, heap_set v hr⟩
    · exact ⟨(h.at_ p hp').1, (Below.heap_setCell _ _ _ _ hne).trans (h.at_ p hp').2⟩
theorem Kpt.mark {w W : World} {L : List (Nat × Obj)} {ds : List Nat} {D : Nat} (h : Kpt w L ds W) (hw : w.heap.size ≤ D) (hD : W.heap[D]? = some (.deferred (some []))) (hd : ∀ x ∈ ds, x < D) : Kpt w L (D :: ds) W :=
  ⟨h.below, h.marks.cons hw hD hd, h.at_⟩
theorem Kpt.less {w W : World} {L L' : List (Nat × Obj)} {ds : List Nat} (h : Kpt w L ds W) (hL : ∀ p ∈ L', p ∈ L) : Kpt w L' ds W := ⟨h.below, h.marks, fun p hp => h.at_ p (hL p hp)⟩

theorem undrew {W W' : World} (h : Below W.drew.heap.size W.drew W') : Below W.heap.size W W' := ⟨h.os, h.tape, h.output, h.size, h.block⟩
/-- Does an item say it? -/
def says (wd y : ByteArray) : Bool := alike (nm y).data.toList wd.data.toList
def B1 (v : Value) (t : TypeId) : Obj := .cells #[v] t (0, 0)

set_option maxRecDepth 100000 in
set_option maxHeartbeats 8000000 in
theorem has_any (wd : ByteArray) (vs : List ByteArray) (p : Option Addr) (c : Nat) (w : World) (hV : TX w (.slice p vs.length c) vs) (hb : Ls.bulk vs ≤ 100000) (hwd : wd.size ≤ 100000) :
    Calls Tryd.prog 13 #[.string wd, .slice p vs.length c] w fun e w' => e = .returned (.bool (hasW wd vs)) ∧ Below w.heap.size w w' := by
  have HV := Lib.hid hV
  have hvl := bulk_len vs
  clear hV
  refine calls_of_marks Tryd.func13 rfl ?_
  simp only [Tryd.ntmps13, List.size_toArray, List.length_cons, List.length_nil, Nat.reduceAdd, Nat.reduceSub, Array.replicate_succ, Array.replicate_zero, List.push_toArray, List.append_toArray, List.nil_append, List.cons_append]
  go_wp2_with fail
  go_step3
  go_wp2_with fail
  go_step3
  go_wp2_with fail
  obtain ⟨I, hI⟩ : ∃ I : Act → World → Prop, I = fun a W => ∃ (k : Nat) (u7 u12 u13 u14 u15 u16 u23 : Value) (ds : List Nat),
      a = { tmps := #[.string wd, .slice p vs.length c, .pointer (some ⟨w.heap.size, 0, none⟩), undef, .bool false, .pointer (some ⟨w.heap.size + 1, 0, none⟩), undef, u7, undef, .slice p vs.length c, .int .i64 (vs.length : Int), .int .i64 (k : Int), u12, u13, u14, u15, u16, undef, undef, undef, undef, undef, undef, u23, undef], defers := ds.map mk } ∧
      k ≤ vs.length ∧ Kpt w [(w.heap.size, B1 (.string wd) 9), (w.heap.size + 1, B1 (.bool false) 4)] ds W ∧ (items (vs.take k)).any (says wd) = false := ⟨_, rfl⟩
  refine wp_loop I (fun a _ => vs.length - (intOf (a.tmps.getD 11 undef)).toNat) ?_ ?_
  · rw [hI]
    refine ⟨0, _, _, _, _, _, _, _, [], rfl, Nat.zero_le _, ⟨(below_box _ _).trans ((below_box _ _).mono (by simp)), Marks.nil _ _, ?_⟩, by simp [items]⟩
    intro q hq
    simp only [List.mem_cons, List.not_mem_nil, or_false] at hq
    rcases hq with rfl | rfl
    · exact ⟨Nat.le_refl _, (Below.heap_alloc _ _ _ (by simp)).trans (new_one _ _ _)⟩
    · refine ⟨by simp, ?_⟩
      have := new_one (w.alloc (.cells #[.string wd] 9)) (.bool false) 4
      rwa [World.size_alloc] at this
  · intro a wr hinv
    rw [hI] at hinv
    obtain ⟨k, u7, u12, u13, u14, u15, u16, u23, ds, rfl, hk, hT, hA⟩ := hinv
    have hDI := Lib.hid hI
    clear hI
    have HT := Lib.hid hT
    have HA := Lib.hid hA
    clear hT hA
    by_cases hlt : k < vs.length
    · obtain ⟨s, hs⟩ : ∃ s, vs[k]? = some s := ⟨_, List.getElem?_eq_getElem hlt⟩
      obtain ⟨-, ad, rfl, c0⟩ := (HV.out.below HT.out.below).at hs
      have hsz := bulk_mem (List.mem_of_getElem? hs)
      have HIT := Lib.hid (items_succ hs)
      have HHT : Hid (∀ y, y ∈ itmB s → says wd y = true → hasW wd vs = true) := Lib.hid fun y hy ht => by
        unfold hasW
        rw [List.any_eq_true]
        exact ⟨y, List.mem_flatMap.2 ⟨s, List.mem_of_getElem? hs, hy⟩, ht⟩
      clear hs
      have k1 : (0 : Int) ≤ (k : Int) := by omega
      have k2 : (k : Int) < (vs.length : Int) := by omega
      go_wp2_with (go_at_call 21; refine (of_any _ _).mono ?_; rintro e w' ⟨rfl, rfl⟩)
      have hseq := items_seq wr.heap.size s (by omega)
      obtain ⟨W0, hW0⟩ : ∃ W0, wr.alloc (.cells #[.string s] 9) = W0 := ⟨_, rfl⟩
      have s0 : W0.heap.size = wr.heap.size + 1 := by rw [← hW0]; simp
      have bW : Below wr.heap.size wr W0 := by rw [← hW0]; exact below_box _ _
      have g0 : W0.heap[wr.heap.size]? = some (.cells #[.string s] 9 (0, 0)) := by rw [← hW0]; exact new_one _ _ _
      rw [hW0]
      clear hW0
      obtain ⟨l1, l2⟩ := HT.out.lt
      have l0 := HT.out.below.size
      have HT0 := HT.out.next bW
      refine wp_range (wpIn_rangeR (gf := 32) rfl (enters_of Tryd.func32 (by kernel_rfl) rfl) hseq (fun j x hx => ?_)
        (fun j W => Kpt w [(w.heap.size, B1 (.string wd) 9), (w.heap.size + 1, B1 (.bool false) 4)] ds W ∧ W.cell? ⟨wr.heap.size, 0, none⟩ = some (.string s) ∧ wr.heap.size + 1 ≤ W.heap.size ∧ ((itmB s).take j).any (says wd) = false)
        (fun co j W => co = .exit 0 ∧ Kpt w [(w.heap.size + 1, B1 (.bool true) 4)] ds W ∧ hasW wd vs = true)
        ?_ ?_ (fun j W h => h.2.1) ⟨HT0, (one_cell g0).1, by omega, rfl⟩ ?round ?done ?stop)
      · obtain ⟨y, _, rfl⟩ := its_get hx; rfl
      · rintro j A B ⟨i1, i2, i3, i4⟩ hB
        rw [s0] at hB
        exact ⟨i1.but hB (by omega) (fun q hq => by have := l1 q hq; omega) (fun x hx => by have := l2 x hx; omega), hB.cell i2 (by simp) (by simp; omega), by have := hB.size; omega, i4⟩
      · rintro co j A B ⟨i1, i2, i3⟩ hB
        rw [s0] at hB
        refine ⟨i1, i2.but hB (by omega) (fun q hq => ?_) (fun x hx => by have := l2 x hx; omega), i3⟩
        simp only [List.mem_cons, List.not_mem_nil, or_false] at hq
        subst hq
        have := l1 (w.heap.size + 1, B1 (.bool false) 4) (by simp)
        simp at this ⊢; omega
      case round =>
        rintro j x W hx - -
        obtain ⟨y, hy, rfl⟩ := its_get hx
        have hyt : (itmB s).take (j + 1) = (itmB s).take j ++ [y] := by rw [List.take_add_one, hy]; rfl
        have hym := List.mem_of_getElem? hy
        have hyz := (itmB_size hym).1
        have HYT := Lib.hid hyt
        have HYM := Lib.hid hym
        clear hx hy hyt hym
        gi_wp2_with fail
        refine ⟨trivial, ?_⟩
        rintro W2 ⟨i1, i2, i3, i4⟩ hsz2
        rw [s0] at hsz2 ⊢
        have g2 : W2.heap[w.heap.size]? = some (.cells #[.string wd] 9 (0, 0)) := (i1.at_ (w.heap.size, B1 (.string wd) 9) (by simp)).2
        obtain ⟨c2, f2⟩ := one_cell g2
        have HNM : Hid (∀ W, _) := Lib.hid fun W => name_any y W (by omega)
        have hnz := nm_size y
        have HAL : Hid (∀ W, _) := Lib.hid fun W => alike_any (nm y) wd W (by omega) (by omega)
        have hsy : alike (nm y).data.toList wd.data.toList = says wd y := rfl
        rw [hsy] at HAL
        generalize nm y = ny at *
        clear hsy hnz g2 f2
        have I1 := Lib.hid i1
        have I4 := Lib.hid i4
        have I2 := Lib.hid i2
        clear i1 i4 i2
        have hws : w.heap.size + 1 < wr.heap.size := l1 (w.heap.size + 1, B1 (.bool false) 4) (by simp)
        cases hsy : says wd y
        · rw [hsy] at HAL
          have HSY := Lib.hid hsy
          clear hsy
          gi_wp2_with fail
          gi_region_with (first
            | (refine ⟨trivial, rfl, ?_⟩; gi_at_call 25; refine (callsIn_wide.2 (HNM.out _)).mono ?_; rintro e W3 ⟨rfl, hb3⟩; replace hb3 := Lib.hid (undrew hb3); have c23 := cell_below c2 hb3.out)
            | (refine ⟨trivial, rfl, ?_⟩; gi_at_call 24; refine (callsIn_wide.2 (HAL.out _)).mono ?_; rintro e W4 ⟨rfl, hb4⟩; replace hb4 := Lib.hid (ahead hb3.out hb4);
               have g4 : W4.heap[w.heap.size + 1]? = some (.cells #[.bool false] 4 (0, 0)) := ((I1.out.next hb4.out).at_ (w.heap.size + 1, B1 (.bool false) 4) (by simp)).2;
               obtain ⟨c4, f4⟩ := one_cell g4; replace g4 := Lib.hid g4))
          all_goals
            gi_wp2_with fail
            have hK := (I1.out.next hb4.out)
            have hz4 := hb4.out.size
            have hP : Kpt w [(w.heap.size, B1 (.string wd) 9), (w.heap.size + 1, B1 (.bool false) 4)] ds (W4.setCell ⟨w.heap.size + 1, 0, none⟩ (.bool false)) := hK.put (r := w.heap.size + 1) (u := .bool false) (t := 4) (.bool false) (by simp [B1]) (fun q hq => by
              simp only [List.mem_cons, List.not_mem_nil, or_false] at hq
              rcases hq with rfl | rfl
              · exact .inr ⟨by simp, by simp⟩
              · exact .inl rfl)
            refine ⟨⟨by simp [World.setCell]; omega, ?_, ?_, fun h => h.elim⟩, hP, ?_, by simp [World.setCell]; omega, by rw [HYT.out, List.any_append, I4.out]; simp [HSY.out]⟩
            · exact (Below.heap_setCell _ _ _ _ (by dsimp only; omega)).trans (hb4.out.block _ (by omega))
            · exact (Below.heap_setCell _ _ _ _ (by dsimp only; omega)).trans (hb4.out.block _ (by omega))
            · exact (World.cell?_of_block (Below.heap_setCell _ _ _ _ (by simp; omega))).trans (cell_below I2.out hb4.out)
        · rw [hsy] at HAL
          have HSY := Lib.hid hsy
          clear hsy
          gi_wp2_with fail
          gi_region_with (first
            | (refine ⟨trivial, rfl, ?_⟩; gi_at_call 25; refine (callsIn_wide.2 (HNM.out _)).mono ?_; rintro e W3 ⟨rfl, hb3⟩; replace hb3 := Lib.hid (undrew hb3); have c23 := cell_below c2 hb3.out)
            | (refine ⟨trivial, rfl, ?_⟩; gi_at_call 24; refine (callsIn_wide.2 (HAL.out _)).mono ?_; rintro e W4 ⟨rfl, hb4⟩; replace hb4 := Lib.hid (ahead hb3.out hb4);
               have g4 : W4.heap[w.heap.size + 1]? = some (.cells #[.bool false] 4 (0, 0)) := ((I1.out.next hb4.out).at_ (w.heap.size + 1, B1 (.bool false) 4) (by simp)).2;
               obtain ⟨c4, f4⟩ := one_cell g4; replace g4 := Lib.hid g4))
          all_goals
            gi_wp2_with fail
            have hK := (I1.out.next hb4.out)
            have hz4 := hb4.out.size
            have hP : Kpt w [(w.heap.size + 1, B1 (.bool true) 4)] ds (W4.setCell ⟨w.heap.size + 1, 0, none⟩ (.bool true)) := hK.put (r := w.heap.size + 1) (u := .bool false) (t := 4) (.bool true) (by simp [B1]) (fun q hq => by
              simp only [List.mem_cons, List.not_mem_nil, or_false] at hq
              subst hq
              exact .inl rfl)
            refine ⟨⟨by simp [World.setCell]; omega, ?_, ?_, fun h => h.elim⟩, rfl, hP, HHT.out y HYM.out HSY.out⟩
            · exact (Below.heap_setCell _ _ _ _ (by dsimp only; omega)).trans (hb4.out.block _ (by omega))
            · exact (Below.heap_setCell _ _ _ _ (by dsimp only; omega)).trans (hb4.out.block _ (by omega))
      case done =>
        rintro W ⟨i1, i2, i3, i4⟩ hD
        rw [its_len, List.take_length] at i4
        rw [s0] at hD ⊢
        have I5 := Lib.hid (i1.mark (D := wr.heap.size + 1) (by omega) hD (fun x hx => by have := l2 x hx; omega))
        have I4 : Hid ((items (vs.take (k + 1))).any (says wd) = false) := Lib.hid (by rw [HIT.out, List.any_append, HA.out, i4]; rfl)
        clear i1 i2 i3 i4 hD HT0 HT hseq HA
        go_wp2_with fail
        refine ⟨?_, ?_⟩
        · rw [hDI.out]
          exact ⟨k + 1, _, _, _, _, _, _, _, (wr.heap.size + 1) :: ds, rfl, by omega, I5.out, I4.out⟩
        · simp [intOf]; omega
      case stop =>
        rintro co j W _ ⟨rfl, i1, i2⟩ hD
        rw [s0] at hD ⊢
        have I5 := Lib.hid (i1.mark (D := wr.heap.size + 1) (by omega) hD (fun x hx => by have := l2 x hx; omega))
        have HR := Lib.hid i2
        have g5 : W.heap[w.heap.size + 1]? = some (.cells #[.bool true] 4 (0, 0)) := (I5.out.at_ (w.heap.size + 1, B1 (.bool true) 4) (by simp)).2
        obtain ⟨c5, f5⟩ := one_cell g5
        clear i1 i2 hD HT0 HT hseq HA g5
        refine wpIn_wide.2 ?_
        go_wp2_with fail
        rw [Exit.noGoto_ret]
        refine left_marks ((wr.heap.size + 1) :: ds) I5.out.below.size rfl I5.out.marks (fun W' => results_tmp rfl _ _) (fun W' hW' => ?_) (.inl rfl)
        exact ⟨by rw [HR.out]; rfl, I5.out.below.trans hW'.below⟩
    · obtain rfl : k = vs.length := by omega
      rw [List.take_length] at HA
      have g5 : wr.heap[w.heap.size + 1]? = some (.cells #[.bool false] 4 (0, 0)) := (HT.out.at_ (w.heap.size + 1, B1 (.bool false) 4) (by simp)).2
      obtain ⟨c5, f5⟩ := one_cell g5
      clear g5
      go_wp2_with fail
      rw [Exit.noGoto_ret]
      refine left_marks ds HT.out.below.size rfl HT.out.marks (fun W' => results_tmp rfl _ _) (fun W' hW' => ?_) (.inl rfl)
      exact ⟨by rw [show hasW wd vs = false from HA.out]; rfl, HT.out.below.trans hW'.below⟩

theorem alike_small (a b : List UInt8) : alike a b = decide (small a = small b) := by unfold alike; rfl

set_option maxRecDepth 100000 in
set_option maxHeartbeats 4000000 in
theorem rhas_any (wd : ByteArray) (vs : List ByteArray) (p : Option Addr) (c : Nat) (w : World) (hV : TX w (.slice p vs.length c) vs) (hb : Ls.bulk vs ≤ 100000) (hwd : wd.size ≤ 100000) :
    Calls Tryd.prog 14 #[.string wd, .slice p vs.length c] w fun e w' => e = .returned (.bool (hasW wd vs)) ∧ Below w.heap.size w w' := by
  have HI := Lib.hid (ritems_any vs p c w hV hb)
  have hil := items_len vs
  have HSZ : Hid (∀ t, t ∈ items vs → t.size ≤ 100000) := Lib.hid fun t ht => by have := items_size ht; omega
  have HW : hasW wd vs = (items vs).any (says wd) := rfl
  rw [HW]
  have hil2 : (items vs).length ≤ 100000 := by omega
  generalize items vs = l at *
  clear hV hb HW hil
  go_enter Tryd.func14, Tryd.ntmps14
  go_wp2_with fail
  refine HI.out.mono ?_
  rintro e w1 ⟨v, rfl, hT⟩
  obtain ⟨pu, cu, rfl, -, -⟩ := RS.slice (RS.of_own hT.own)
  have HX : Hid (TX w1 (.slice pu l.length cu) l) := Lib.hid (RS.of_own hT.own)
  have HB := Lib.hid hT.below
  clear hT HI
  go_wp2_with fail
  go_loopw [6] (fun i wr => ∃ (k : Nat), k ≤ l.length ∧ i = .int .i64 k ∧ Hid ((l.take k).any (says wd) = false) ∧ Hid (Below w1.heap.size w1 wr)) (fun i _ => l.length - (intOf i).toNat)
  case atStart => exact ⟨0, Nat.zero_le _, rfl, Lib.hid (by simp), Lib.hid (Below.refl _ _)⟩
  case round =>
    obtain ⟨k, hk, rfl, HA, HR⟩ := hrel
    by_cases hlt : k < l.length
    · obtain ⟨y, hy⟩ : ∃ y, l[k]? = some y := ⟨_, List.getElem?_eq_getElem hlt⟩
      obtain ⟨-, ad, rfl, c0⟩ := (HX.out.below HR.out).at hy
      have hyz := HSZ.out y (List.mem_of_getElem? hy)
      have hnz := nm_size y
      have HY : Hid ((l.take (k + 1)).any (says wd) = says wd y) := Lib.hid (by rw [List.take_add_one, hy, Option.toList_some, List.any_append, HA.out]; simp)
      have HYT : Hid (says wd y = true → l.any (says wd) = true) := Lib.hid fun h => List.any_eq_true.2 ⟨y, List.mem_of_getElem? hy, h⟩
      have HNM : Hid (∀ W, _) := Lib.hid fun W => rword_any y W hyz
      have HS1 : Hid (∀ W, _) := Lib.hid fun W => rsmall_any (nm y) W (by omega)
      have HS2 : Hid (∀ W, _) := Lib.hid fun W => rsmall_any wd W (by omega)
      have hsm : says wd y = (((⟨(small (nm y).data.toList).toArray⟩ : ByteArray).toList) == ((⟨(small wd.data.toList).toArray⟩ : ByteArray).toList)) := by
        unfold says; rw [alike_small, ByteArray.toList_eq, ByteArray.toList_eq, Bool.eq_iff_iff]; simp
      generalize (⟨(small (nm y).data.toList).toArray⟩ : ByteArray) = a1 at *
      generalize (⟨(small wd.data.toList).toArray⟩ : ByteArray) = a2 at *
      generalize nm y = ny at *
      clear hy
      have k1 : (0 : Int) ≤ (k : Int) := by omega
      have k2 : (k : Int) < (l.length : Int) := by omega
      generalize says wd y = b at *
      have HSM := hsm.symm
      clear hsm
      cases b
      · go_wp2_with fail
        refine (HNM.out _).mono ?_
        rintro e w2 ⟨rfl, hb2⟩
        go_wp2_with fail
        refine (HS1.out _).mono ?_
        rintro e w3 ⟨rfl, hb3⟩
        go_wp2_with fail
        refine (HS2.out _).mono ?_
        rintro e w4 ⟨rfl, hb4⟩
        have hz := Lib.hid (ahead HR.out (ahead hb2 (ahead hb3 hb4)))
        clear hb2 hb3 hb4
        go_wp2_with fail
        go_roundw
        case rel => exact ⟨k + 1, by omega, by go_num, HY, hz⟩
        case measure => simp [intOf]; omega
      · go_wp2_with fail
        refine (HNM.out _).mono ?_
        rintro e w2 ⟨rfl, hb2⟩
        go_wp2_with fail
        refine (HS1.out _).mono ?_
        rintro e w3 ⟨rfl, hb3⟩
        go_wp2_with fail
        refine (HS2.out _).mono ?_
        rintro e w4 ⟨rfl, hb4⟩
        have hz := Lib.hid (ahead HB.out (ahead HR.out (ahead hb2 (ahead hb3 hb4))))
        clear hb2 hb3 hb4
        go_wp2_with fail
        go_ret
        exact ⟨by rw [HYT.out trivial]; rfl, hz.out⟩
    · obtain rfl : k = l.length := by omega
      rw [List.take_length] at HA
      go_wp2_with fail
      go_ret
      exact ⟨by rw [HA.out]; rfl, ahead HB.out HR.out⟩

end Go.Proofs.YtjdbgdlkbdpojaaDoor
