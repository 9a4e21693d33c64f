/- What block.Scan answers. -/
import Derived.Test.YtilebfpaibajcaaGreatDoorBlockNext
import Derived.Test.YtilebfpaibajcaaGreatDoorBlockLines
import Derived.Test.YtilebfpaibajcaaGreatDoorMC
namespace Go.Proofs.YtilebfpaibajcaaGreatDoor
open Go.ChangeShapes Go.WideShapes Go.ChangeAt Go.RowKit
open Go.Shelf
open Oc Fl Bk
set_option linter.unusedVariables false
set_option maxRecDepth 100000
attribute [local go_sem] Oper.semAt_some

/-- The fields that are told of a text. -/
def told (t : List UInt8) : List Fld := if (run 1 t).2 = 0 then fof t else []

theorem results_slice2 {fn : Func} {p u v : Tmp} (h : fn.results = #[.cell p 38, .tmp u, .tmp v]) (tmps : Array Value) (w : World) (g : Nat) (x : Value) (hp : tmps.getD p undef = .pointer (some ⟨g, 0, none⟩)) (hg : w.cell? ⟨g, 0, none⟩ = some x) :
    (results fn tmps).run Tryz.prog w = .ok (.tuple #[x, tmps.getD u undef, tmps.getD v undef]) w := by
  have hp' : tmps[p]?.getD undef = .pointer (some ⟨g, 0, none⟩) := by simpa using hp
  simp [results, h, hp', asAddr, loadVar, isAgg, run_underlying Tryz.underlying38, hg, go_sem]

theorem fl_take {p : List (Nat × List UInt8)} {k : Nat} {x : Nat × List UInt8} (h : p[k]? = some x) : fl (p.take (k + 1)) = fl (p.take k) ++ (if x.2.isEmpty then [] else [parsed (arr x.2)]) := by
  rw [List.take_add_one, h, Option.toList_some, fl_append]
  obtain ⟨a, y⟩ := x
  rw [fl_cons]
  simp [fl]
theorem fl_len (p : List (Nat × List UInt8)) : (fl p).length ≤ p.length := by
  unfold fl; rw [List.length_map]; exact List.length_filter_le _ _
theorem head_list (s : ByteArray) (k : Nat) : (s.extract 0 k).data.toList = s.data.toList.take k := by
  simp [ByteArray.data_extract, List.extract_eq_take_drop]

set_option maxHeartbeats 4000000 in
theorem scan_no (s : ByteArray) (w : World) (hs : s.size ≤ 100000) (hsp : Spans w) (hr : (run 1 s.data.toList).2 ≠ 0) :
    Calls Tryz.prog 74 #[.string s] w fun e w' => e = .returned (.tuple #[.slice none 0 0, .int .i64 ((run 1 s.data.toList).1 : Nat), .int .i64 ((run 1 s.data.toList).2 : Nat)]) ∧ Below w.heap.size w w' := by
  have hB := below_box w (.cells #[.slice none 0 0] 38)
  have hM := Lib.hid (measure_any s (w.alloc (.cells #[.slice none 0 0] 38)) (by omega) (hsp.below hB))
  have hne : (((run 1 s.data.toList).2 : Int) == 0) = false := beq_eq_false_iff_ne.2 (by omega)
  have hnn : (((run 1 s.data.toList).2 : Int) != 0) = true := by unfold bne; rw [hne]; rfl
  generalize (run 1 s.data.toList).1 = a at *
  generalize (run 1 s.data.toList).2 = b at *
  have HB := Lib.hid hB
  have HC := Lib.hid (new_one w (.slice none 0 0) 38)
  clear hB hsp hr
  refine calls_of_marks Tryz.func74 rfl ?_
  simp only [Tryz.ntmps74, List.size_toArray, List.length_cons, List.length_nil, Nat.reduceAdd, Nat.reduceSub, Array.replicate_succ, Array.replicate_zero, List.push_toArray, List.append_toArray, List.nil_append, List.cons_append]
  go_wp2_with fail
  refine hM.out.mono ?_
  rintro e w1 ⟨rfl, hb1⟩
  have hz := HB.out.size
  have hz1 : w.heap.size < (w.alloc (.cells #[.slice none 0 0] 38)).heap.size := by simp
  have h1 := (hb1.block _ hz1).trans HC.out
  obtain ⟨c0, c1⟩ := one_cell h1
  have H1 := Lib.hid h1
  have HB1 := Lib.hid (ahead HB.out hb1)
  clear hb1 h1 HC HB
  go_wp2_with fail
  refine left_plain rfl (results_slice2 rfl _ _ w.heap.size (.slice none 0 0) rfl (one_cell (heap_set _ H1.out)).1) ?_ (.inl rfl)
  exact ⟨rfl, HB1.out.setCell (by simp) _⟩

/-- One field more onto the list that lies in the cell R, in a round of a loop whose own blocks are D and D + 1. -/
theorem gather {W2 W3 : World} {D R : Nat} {v : Value} {xs : List Fld} (f : Fld) (ty : TypeId) (hR : R < D) (hD : D + 1 < W2.heap.size) (h1 : W2.heap[R]? = some (.cells #[v] 38 (0, 0)))
    (h2 : W2.ownsRow (D + 2) 86 2 v xs.length (fv xs)) (hb : Below W2.heap.size W2 W3) (hl : xs.length ≤ 1000000) :
    ∃ q n c W6, (Builtin.append_ #[38, 38] ty #[v, .slice (some ⟨W3.heap.size + 1, 0, none⟩) 1 1]).run Tryz.prog ((W3.alloc (.cells #[.string f.name, .string f.value] 86)).alloc (.cells #[.string f.name, .string f.value] 86)) = .ok (.slice q n c) W6 ∧
      W6.heap[R]? = some (.cells #[v] 38 (0, 0)) ∧ Held D False W2 (W6.setCell ⟨R, 0, none⟩ (.slice q n c)) ∧ (∀ r, r < D → r ≠ R → (W6.setCell ⟨R, 0, none⟩ (.slice q n c)).heap[r]? = W2.heap[r]?) ∧
      ((W6.setCell ⟨R, 0, none⟩ (.slice q n c)).os = W2.os ∧ (W6.setCell ⟨R, 0, none⟩ (.slice q n c)).tape = W2.tape ∧ (W6.setCell ⟨R, 0, none⟩ (.slice q n c)).output = W2.output ∧ W2.heap.size ≤ (W6.setCell ⟨R, 0, none⟩ (.slice q n c)).heap.size) ∧
      (W6.setCell ⟨R, 0, none⟩ (.slice q n c)).heap[R]? = some (.cells #[.slice q n c] 38 (0, 0)) ∧ (W6.setCell ⟨R, 0, none⟩ (.slice q n c)).ownsRow (D + 2) 86 2 (.slice q n c) (xs ++ [f]).length (fv (xs ++ [f])) := by
  obtain ⟨o, ho⟩ : ∃ o : Obj, .cells #[.string f.name, .string f.value] 86 = o := ⟨_, rfl⟩
  have hb4 : Below W2.heap.size W2 (W3.alloc o) := ahead hb (below_box W3 o)
  have hb5 : Below W2.heap.size W2 ((W3.alloc o).alloc o) := ahead hb4 (below_box (W3.alloc o) o)
  have s4 : (W3.alloc o).heap.size = W3.heap.size + 1 := by simp
  have z3 := hb.size
  have z5 := hb5.size
  have o5 : ((W3.alloc o).alloc o).ownsRow (D + 2) 86 2 v xs.length (fv xs) := own_same h2 (fun k hk => hb5.block k (h2.lt k hk).2)
  have hfs := fs_one (W3.alloc o) f 86
  rw [s4, ho] at hfs
  obtain ⟨v', W6, r0, r1, r2⟩ := run_append_fs ((W3.alloc o).alloc o) ty (D + 2) v _ xs [f] o5 hfs (by simp; omega) (by omega)
  obtain ⟨q, n, c, rfl⟩ := own_slice r1
  have hv : ∀ r, r < D + 2 → v.ownBlock ≠ some r := fun r hr e => by have := (h2.lt r e).1; omega
  have z6 := r2.size
  have hO : ∀ r, r < W2.heap.size → r < D + 2 → W6.heap[r]? = W2.heap[r]? := fun r hr hr2 => (r2.block r (by omega) (Ne.symm (hv r hr2))).trans (hb5.block r hr)
  have hT : ∀ r, r < D + 2 → r ≠ R → (W6.setCell ⟨R, 0, none⟩ (.slice q n c)).heap[r]? = W2.heap[r]? := fun r hr hne => (Below.heap_setCell _ _ _ _ hne).trans (hO r (by omega) hr)
  have h6 := (hO R (by omega) (by omega)).trans h1
  refine ⟨q, n, c, W6, by rw [ho]; exact r0, h6, ⟨by simp [World.setCell]; omega, hT D (by omega) (by omega), hT (D + 1) (by omega) (by omega), fun h => h.elim⟩, fun r h1 h2 => hT r (by omega) h2, ⟨?_, ?_, ?_, ?_⟩, heap_set _ h6, ?_⟩
  · exact r2.os.trans hb5.os
  · exact r2.tape.trans hb5.tape
  · exact r2.output.trans hb5.output
  · simp [World.setCell]; omega
  · exact own_same r1 (fun r e => Below.heap_setCell _ _ _ _ (by have := (r1.lt r e).1; simp; omega))

set_option maxHeartbeats 8000000 in
theorem scan_ok (s : ByteArray) (w : World) (hs : s.size ≤ 100000) (hsp : Spans w) (hbd : Bound w) (hr : (run 1 s.data.toList).2 = 0) :
    Calls Tryz.prog 74 #[.string s] w fun e w' => ∃ v, e = .returned (.tuple #[v, .int .i64 ((run 1 s.data.toList).1 : Nat), .int .i64 0]) ∧ FS w' v (fof s.data.toList) ∧ Below w.heap.size w w' ∧ ∀ g, v.ownBlock = some g → w.heap.size ≤ g := by
  have hB := below_box w (.cells #[.slice none 0 0] 38)
  have hM := Lib.hid (measure_any s (w.alloc (.cells #[.slice none 0 0] 38)) (by omega) (hsp.below hB))
  rw [hr] at hM
  obtain ⟨hwl, hwg, hws, hwn⟩ := whole_lines _ s.data.toList (Nat.le_refl _) hr 0
  have hle : (run 1 s.data.toList).1 ≤ s.size := by have := run_kind 1 s.data.toList; rw [blen'] at this; omega
  have hul : lns 0 (s.extract 0 (run 1 s.data.toList).1).data.toList = lns 0 s.data.toList := by rw [head_list, hwl]
  have husz : (s.extract 0 (run 1 s.data.toList).1).size ≤ 100000 := by rw [← blen', head_list, List.length_take, blen']; omega
  rw [blen'] at hws hwn
  unfold fof
  generalize lns 0 s.data.toList = P at hul hwg hws hwn ⊢
  generalize (run 1 s.data.toList).1 = a at *
  have HSP := Lib.hid hsp
  have HBD := Lib.hid hbd
  have HG := Lib.hid hwg
  have HW := Lib.hid hws
  have HB := Lib.hid hB
  have HC := Lib.hid (new_one w (.slice none 0 0) 38)
  have HU := Lib.hid hul
  clear hB hsp hbd hr hwl hwg hws hul
  have a1 : (0 : Int) ≤ (a : Int) := by omega
  have a2 : (a : Int) ≤ (s.size : Int) := by omega
  refine calls_of_marks Tryz.func74 rfl ?_
  simp only [Tryz.ntmps74, List.size_toArray, List.length_cons, List.length_nil, Nat.reduceAdd, Nat.reduceSub, Array.replicate_succ, Array.replicate_zero, List.push_toArray, List.append_toArray, List.nil_append, List.cons_append]
  go_wp2_with fail
  refine hM.out.mono ?_
  rintro e w1 ⟨rfl, hb1⟩
  have hz1 : w.heap.size < (w.alloc (.cells #[.slice none 0 0] 38)).heap.size := by simp
  have h1 := (hb1.block _ hz1).trans HC.out
  have hzz := hb1.size
  have hz2 : w.heap.size < w1.heap.size := by omega
  have HB1 := Lib.hid (ahead HB.out hb1)
  have H1 := Lib.hid h1
  clear hb1 h1 HC HB hM hz1 hzz
  go_wp2_with (go_at_call 84; refine (lines_any _ _).mono ?_; rintro e w' ⟨rfl, rfl⟩)
  have hseq := lines_seq w1.heap.size (s.extract 0 a) husz
  generalize s.extract 0 a = u at *
  obtain ⟨W0, hW0⟩ : ∃ W0, w1.alloc (.cells #[.string u] 9) = W0 := ⟨_, rfl⟩
  have s0 : W0.heap.size = w1.heap.size + 1 := by rw [← hW0]; simp
  have bW : Below w1.heap.size w1 W0 := by rw [← hW0]; exact below_box _ _
  have g0 : W0.heap[w1.heap.size]? = some (.cells #[.string u] 9 (0, 0)) := by rw [← hW0]; exact new_one _ _ _
  have g1 := (bW.block _ hz2).trans H1.out
  have BW := ahead HB1.out bW
  rw [hW0]
  clear hW0 bW
  obtain ⟨Stay, hStay⟩ : ∃ Stay : World → Prop, Stay = fun W => (∀ r, r < w1.heap.size + 1 → r ≠ w.heap.size → W.heap[r]? = W0.heap[r]?) ∧ W.os = W0.os ∧ W.tape = W0.tape ∧ W.output = W0.output ∧ w1.heap.size + 1 ≤ W.heap.size := ⟨_, rfl⟩
  have st0 : Stay W0 := by rw [hStay]; exact ⟨fun _ _ _ => rfl, rfl, rfl, rfl, by omega⟩
  have stB : ∀ A B, Stay A → But (w1.heap.size + 1) A B → Stay B := by
    rw [hStay]
    exact fun A B hA hB => ⟨fun r h1 h2 => (hB.block r (by have := hA.2.2.2.2; omega) (by omega) (by omega)).trans (hA.1 r h1 h2), hB.os.trans hA.2.1, hB.tape.trans hA.2.2.1, hB.output.trans hA.2.2.2.1, by have := hB.size; have := hA.2.2.2.2; omega⟩
  have stX : ∀ W, Stay W → W.cell? ⟨w1.heap.size, 0, none⟩ = some (.string u) := by
    rw [hStay]
    exact fun W hW => (one_cell ((hW.1 _ (by omega) (by omega)).trans g0)).1
  have stU : ∀ W, Stay W → Below w.heap.size w W := by
    rw [hStay]
    exact fun W hW => BW.trans ⟨hW.2.1, hW.2.2.1, hW.2.2.2.1, by have := hW.2.2.2.2; omega, fun r hr => hW.1 r (by omega) (by omega)⟩
  have stZ : ∀ W, Stay W → w1.heap.size + 1 ≤ W.heap.size := by rw [hStay]; exact fun W hW => hW.2.2.2.2
  have stK : ∀ A B, Stay A → (∀ r, r < w1.heap.size + 1 → r ≠ w.heap.size → B.heap[r]? = A.heap[r]?) → (B.os = A.os ∧ B.tape = A.tape ∧ B.output = A.output ∧ A.heap.size ≤ B.heap.size) → Stay B := by
    rw [hStay]
    exact fun A B hA hB ho => ⟨fun r h1 h2 => (hB r h1 h2).trans (hA.1 r h1 h2), ho.1.trans hA.2.1, ho.2.1.trans hA.2.2.1, ho.2.2.1.trans hA.2.2.2.1, by have := ho.2.2.2; have := hA.2.2.2.2; omega⟩
  clear hStay
  have hpl : (prs u.data.toList).length = P.length := by rw [prs_len, HU.out]
  have HPL := Lib.hid hpl
  clear hpl g0 BW HB1 H1
  refine wp_range (wpIn_rangeR (gf := 89) rfl (enters_of Tryz.func89 (by kernel_rfl) rfl) hseq (fun j x hx => ?_)
    (fun j W => Stay W ∧ ∃ v, W.heap[w.heap.size]? = some (.cells #[v] 38 (0, 0)) ∧ W.ownsRow (w1.heap.size + 1 + 2) 86 2 v (fl (P.take j)).length (fv (fl (P.take j))))
    (fun _ _ _ => False)
    ?_ ?_ (fun j W h => ⟨stX W h.1, HBD.out.below (stU W h.1)⟩) ⟨st0, _, g1, World.ownsRow_nil _ _ _ _⟩ ?round ?done ?stop)
  · rw [prs, List.getElem?_map] at hx
    cases hp : (lns 0 u.data.toList)[j]? with
    | none => rw [hp] at hx; cases hx
    | some p => rw [hp] at hx; cases hx; rfl
  · rintro j A B ⟨i1, v, i2, i3⟩ hB
    rw [s0] at hB
    refine ⟨stB A B i1 hB, v, hB.heap i2 (by omega) (by omega), own_same i3 fun k hk => ?_⟩
    have := i3.lt k hk
    exact hB.block k this.2 (by omega) (by omega)
  · rintro co j A B h hB
    exact h.elim
  case round =>
    rintro j x W hx - -
    have hp : ∃ p, P[j]? = some p ∧ x = pr p := by
      rw [prs, List.getElem?_map, HU.out] at hx
      cases hp : P[j]? with
      | none => rw [hp] at hx; cases hx
      | some p => rw [hp] at hx; cases hx; exact ⟨p, rfl, rfl⟩
    obtain ⟨⟨pa, ln⟩, hp, rfl⟩ := hp
    have hgood := HG.out _ (List.mem_of_getElem? hp)
    have hlsz := HW.out _ (List.mem_of_getElem? hp)
    have hft := fl_take hp
    have hfn : (fl (P.take j)).length ≤ 1000000 := by have := fl_len (P.take j); rw [List.length_take] at this; omega
    simp only at hgood hlsz hft
    unfold pr
    simp only
    clear hx hp
    by_cases he : ln = []
    · subst he
      rw [show ([] : List UInt8).isEmpty = true from rfl, if_pos rfl, List.append_nil] at hft
      rw [show arr [] = ⟨#[]⟩ from rfl]
      have HFT := Lib.hid hft
      clear hft hgood hlsz
      gi_wp2_with fail
      refine ⟨trivial, ?_⟩
      rintro W2 ⟨i1, v, i2, i3⟩ hsz
      rw [s0] at hsz ⊢
      have I1 := Lib.hid i1
      have I2 := Lib.hid i2
      have I3 := Lib.hid i3
      clear i1 i2 i3
      gi_wp2_with fail
      exact ⟨Held.refl _ _ _, I1.out, v, I2.out, by rw [HFT.out]; exact I3.out⟩
    · have hg : good (arr ln) = true := hgood.resolve_left he
      have hie : ln.isEmpty = false := by cases ln with
        | nil => exact absurd rfl he
        | cons => rfl
      rw [hie, if_neg (by decide)] at hft
      have hne := arr_ne he
      have has := arr_size ln
      generalize arr ln = lb at *
      have hnn : (lb.toList != []) = true := by unfold bne; rw [hne]; rfl
      have HFT := Lib.hid hft
      have HP : Hid (∀ W, Stay W → _) := Lib.hid fun W hW => parse_good lb W (by omega) (HSP.out.below (stU W hW)) hg
      generalize parsed lb = f at *
      generalize fl (P.take (j + 1)) = ys at *
      generalize fl (P.take j) = xs at *
      clear hft hgood he hie hg
      gi_wp2_with fail
      refine ⟨trivial, ?_⟩
      rintro W2 ⟨i1, v, i2, i3⟩ hsz
      rw [s0] at hsz ⊢
      have hPW := Lib.hid (HP.out W2 i1)
      have I1 := Lib.hid i1
      have I2 := Lib.hid i2
      have I3 := Lib.hid i3
      clear i1 i2 i3 HP
      obtain ⟨fx, fy⟩ := f
      gi_wp2_with fail
      refine ⟨trivial, rfl, (callsIn_wide.2 hPW.out).mono ?_⟩
      rintro e W3 ⟨rfl, hb3⟩
      obtain ⟨q, n, c, W6, g1, g2, g3, g4, g5, g6, g7⟩ := gather ⟨fx, fy⟩ 38 (by omega) hsz I2.out I3.out hb3 hfn
      obtain ⟨c0, c1⟩ := one_cell ((hb3.block _ (by omega)).trans I2.out)
      obtain ⟨d0, d1⟩ := one_cell g2
      have hlt3 : w.heap.size < W3.heap.size := by have := hb3.size; omega
      have R0 := Lib.hid g1
      have HE := Lib.hid (show Held (w1.heap.size + 1) False W2 (W6.setCell ⟨w.heap.size, 0, none⟩ (.slice q n c)) ∧ Stay (W6.setCell ⟨w.heap.size, 0, none⟩ (.slice q n c)) ∧ ∃ v, (W6.setCell ⟨w.heap.size, 0, none⟩ (.slice q n c)).heap[w.heap.size]? = some (.cells #[v] 38 (0, 0)) ∧ (W6.setCell ⟨w.heap.size, 0, none⟩ (.slice q n c)).ownsRow (w1.heap.size + 1 + 2) 86 2 v ys.length (fv ys) from
        ⟨g3, stK _ _ I1.out g4 g5, _, g6, by rw [HFT.out]; exact g7⟩)
      clear g1 g2 g3 g4 g5 g6 g7 hb3 hPW
      gi_wp2_with (gi_at_builtin; refine wpListIn_append_run rfl (.tmp 31) (.tmp 33) 38 rfl _ _ _ _ rfl rfl R0.out ?_)
      exact HE.out
  case done =>
    rintro W ⟨i1, v, i2, i3⟩ hD
    rw [HPL.out, List.take_length] at i3
    rw [s0] at hD ⊢
    obtain ⟨c0, c1⟩ := one_cell i2
    obtain ⟨q, n, c, rfl⟩ := own_slice i3
    have hU := Lib.hid (stU W i1)
    have hZ := stZ W i1
    have I2 := Lib.hid i2
    have I3 := Lib.hid i3
    clear i1 i2 i3 stB stX stU stZ stK st0 hseq g1
    go_wp2_with fail
    have hD2 : (W.setCell ⟨w.heap.size, 0, none⟩ (.slice q n c)).heap[w1.heap.size + 1]? = some (.deferred (some [])) := (Below.heap_setCell _ _ _ _ (by simp; omega)).trans hD
    have hbu : But (w1.heap.size + 1) (W.setCell ⟨w.heap.size, 0, none⟩ (.slice q n c)) ((W.setCell ⟨w.heap.size, 0, none⟩ (.slice q n c)).putObj (w1.heap.size + 1) (.deferred none)) := But.putObj _ _ (.inl rfl) _
    have hres := (one_cell (heap_set (i := 0) (.slice q n c) I2.out)).1
    refine left_mark rfl hD2 (results_slice2 rfl _ _ w.heap.size (.slice q n c) rfl (hbu.cell hres (by simp; omega) (by simp; omega))) ?_ (.inl rfl)
    have hU2 : Below w.heap.size w (W.setCell ⟨w.heap.size, 0, none⟩ (.slice q n c)) := hU.out.setCell (by simp) _
    have hlt := I3.out.lt
    refine ⟨_, rfl, ?_, hbu.below hU2 (by omega) hU2.size, fun g hg => by have := (hlt g hg).1; omega⟩
    have o1 := own_same (B := W.setCell ⟨w.heap.size, 0, none⟩ (.slice q n c)) I3.out (fun r e => Below.heap_setCell _ _ _ _ (by have := (hlt r e).1; simp; omega))
    have o2 := own_same (B := (W.setCell ⟨w.heap.size, 0, none⟩ (.slice q n c)).putObj (w1.heap.size + 1) (.deferred none)) o1 (fun r e => hbu.block r (o1.lt r e).2 (by have := (hlt r e).1; omega) (by have := (hlt r e).1; omega))
    exact RS.of_own o2
  case stop =>
    rintro co j W _ h _
    exact h.elim

theorem scan_far (s : ByteArray) (w : World) (hs : s.size ≤ 100000) (hsp : Spans w) (hbd : Bound w) :
    Calls Tryz.prog 74 #[.string s] w fun e w' => ∃ v, e = .returned (.tuple #[v, .int .i64 ((run 1 s.data.toList).1 : Nat), .int .i64 ((run 1 s.data.toList).2 : Nat)]) ∧ FS w' v (told s.data.toList) ∧ Below w.heap.size w w' ∧ ∀ g, v.ownBlock = some g → w.heap.size ≤ g := by
  unfold told
  by_cases hr : (run 1 s.data.toList).2 = 0
  · rw [if_pos hr]
    refine (scan_ok s w hs hsp hbd hr).mono ?_
    rintro e w' ⟨v, rfl, h1, h2, h3⟩
    exact ⟨v, by rw [hr]; rfl, h1, h2, h3⟩
  · rw [if_neg hr]
    refine (scan_no s w hs hsp hr).mono ?_
    rintro e w' ⟨rfl, h2⟩
    exact ⟨_, rfl, RS.nil _ _, h2, fun g hg => by cases hg⟩
theorem scan_any (s : ByteArray) (w : World) (hs : s.size ≤ 100000) (hsp : Spans w) (hbd : Bound w) :
    Calls Tryz.prog 74 #[.string s] w fun e w' => ∃ v, e = .returned (.tuple #[v, .int .i64 ((run 1 s.data.toList).1 : Nat), .int .i64 ((run 1 s.data.toList).2 : Nat)]) ∧ FS w' v (told s.data.toList) ∧ Below w.heap.size w w' :=
  (scan_far s w hs hsp hbd).mono fun e w' ⟨v, h0, h1, h2, _⟩ => ⟨v, h0, h1, h2⟩

end Go.Proofs.YtilebfpaibajcaaGreatDoor
