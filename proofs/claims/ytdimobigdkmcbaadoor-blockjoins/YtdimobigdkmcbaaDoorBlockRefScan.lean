/- What the document's Scan answers; the law BlockScans. -/
import Derived.Test.YtdimobigdkmcbaaDoorBlockLaws
namespace Go.Proofs.YtdimobigdkmcbaaDoor
open Go.ChangeShapes Go.WideShapes Go.ChangeAt Go.RowKit
open Oc Fl Bk
set_option linter.unusedVariables false

/-- A block of three cells that lies in a world, above what lay before. -/
def ThreeAt (w W : World) (x y z : Value) : Prop := W.heap[w.heap.size]? = some (.cells #[x, y, z] 28 (0, 0)) ∧ Below w.heap.size w W
theorem three_of {A : World} {R : Nat} {x y z : Value} {t : TypeId} (h : A.heap[R]? = some (.cells #[x, y, z] t (0, 0))) :
    A.cell? ⟨R, 0, none⟩ = some x ∧ A.cell? ⟨R, 1, none⟩ = some y ∧ A.cell? ⟨R, 2, none⟩ = some z ∧ ∀ i, A.frozen? ⟨R, i, none⟩ = false := by
  simp [World.cell?, World.frozen?, h]
theorem ThreeAt.set {w W : World} {x y z : Value} (h : ThreeAt w W x y z) (a b c : Value) :
    ThreeAt w (((W.setCell ⟨w.heap.size, 0, none⟩ a).setCell ⟨w.heap.size, 1, none⟩ b).setCell ⟨w.heap.size, 2, none⟩ c) a b c := by
  refine ⟨?_, ((h.2.setCell (Nat.le_refl _) _).setCell (Nat.le_refl _) _).setCell (Nat.le_refl _) _⟩
  have := h.1
  simp [World.setCell, Array.getElem?_modify, this]
theorem set3_other (W : World) (r k : Nat) (a b c : Value) (h : k ≠ r) : (((W.setCell ⟨r, 0, none⟩ a).setCell ⟨r, 1, none⟩ b).setCell ⟨r, 2, none⟩ c).heap[k]? = W.heap[k]? := by
  rw [Below.heap_setCell _ _ _ _ h, Below.heap_setCell _ _ _ _ h, Below.heap_setCell _ _ _ _ h]
theorem three_start (w : World) (x y z : Value) : ThreeAt w (w.alloc (.cells #[x, y, z] 28)) x y z := ⟨heap_alloc_new w _, below_box w _⟩
theorem ThreeAt.next {w W W' : World} {x y z : Value} (h : ThreeAt w W x y z) (hb : Below W.heap.size W W') : ThreeAt w W' x y z :=
  ⟨(hb.block _ (Array.getElem?_eq_some_iff.1 h.1).1).trans h.1, ahead h.2 hb⟩
/-- Behind the call's own result cell: what has been gathered. -/
structure Got6 (w wr : World) (v : Value) (xs : List Fld) : Prop where
  three : ThreeAt w wr (.slice none 0 0) (.int .i64 0) (.int .i64 0)
  own : wr.ownsRow (w.heap.size + 1) 51 2 v xs.length (fv xs)
  high : w.heap.size + 1 ≤ wr.heap.size
theorem Got6.next {w wr w' : World} {v : Value} {xs : List Fld} (h : Got6 w wr v xs) (hb : Below wr.heap.size wr w') : Got6 w w' v xs :=
  ⟨h.three.next hb, own_same h.own (fun k hk => hb.block k (h.own.lt k hk).2), Nat.le_trans h.high hb.size⟩
theorem Got6.start (w : World) : Got6 w (w.alloc (.cells #[.slice none 0 0, .int .i64 0, .int .i64 0] 28)) (.slice none 0 0) [] :=
  ⟨three_start w _ _ _, World.ownsRow_nil _ _ _ _, by simp⟩
theorem Got6.more {w w3 : World} {v : Value} {xs : List Fld} (h : Got6 w w3 v xs) (f : Fld) (ty : TypeId) (hl : xs.length ≤ 1000000) :
    ∃ v' w', (Builtin.append_ #[23, 23] ty #[v, .slice (some ⟨w3.heap.size + 1, 0, none⟩) 1 1]).run Tryd.prog ((w3.alloc (.cells #[.string f.name, .string f.value] 51)).alloc (.cells #[.string f.name, .string f.value] 51)) = .ok v' w' ∧ Got6 w w' v' (xs ++ [f]) := by
  obtain ⟨o, ho⟩ : ∃ o : Obj, .cells #[.string f.name, .string f.value] 51 = o := ⟨_, rfl⟩
  have h4 := h.next (below_box w3 o)
  have h5 := h4.next (below_box (w3.alloc o) o)
  have s4 : (w3.alloc o).heap.size = w3.heap.size + 1 := by simp
  have hfs := fs_one (w3.alloc o) f 51
  rw [s4, ho] at hfs
  obtain ⟨v', W6, r0, r1, r2⟩ := run_append_fs ((w3.alloc o).alloc o) ty (w.heap.size + 1) v _ xs [f] h5.own hfs (by simp; omega) h5.high
  refine ⟨v', W6, by rw [ho]; exact r0, ⟨?_, ?_⟩, r1, Nat.le_trans h5.high r2.size⟩
  · refine (r2.block _ (Array.getElem?_eq_some_iff.1 h5.three.1).1 (fun e => ?_)).trans h5.three.1
    have := (h5.own.lt _ e.symm).1
    omega
  · exact h5.three.2.grown r2 (Nat.le_of_succ_le h5.high) (fun k hk => by have := (h5.own.lt k hk).1; omega)
theorem Got6.ends {w wr : World} {v : Value} {xs : List Fld} (h : Got6 w wr v xs) (b c : Value) (u : Value) (ys : List Fld) (hu : u = v ∧ ys = xs ∨ u = .slice none 0 0 ∧ ys = []) :
    (((wr.setCell ⟨w.heap.size, 0, none⟩ u).setCell ⟨w.heap.size, 1, none⟩ b).setCell ⟨w.heap.size, 2, none⟩ c).heap[w.heap.size]? = some (.cells #[u, b, c] 28 (0, 0)) ∧
      FS (((wr.setCell ⟨w.heap.size, 0, none⟩ u).setCell ⟨w.heap.size, 1, none⟩ b).setCell ⟨w.heap.size, 2, none⟩ c) u ys ∧ Below w.heap.size w (((wr.setCell ⟨w.heap.size, 0, none⟩ u).setCell ⟨w.heap.size, 1, none⟩ b).setCell ⟨w.heap.size, 2, none⟩ c) := by
  have hs := h.three.set u b c
  refine ⟨hs.1, ?_, hs.2⟩
  rcases hu with ⟨rfl, rfl⟩ | ⟨rfl, rfl⟩
  · exact RS.of_own (own_same h.own (fun k hk => set3_other _ _ _ _ _ _ (by have := (h.own.lt k hk).1; omega)))
  · exact RS.nil _ _

theorem ret_got {v : Value} {a b c d : Int} (h : a = c) (h2 : b = d) : Ending.returned (.agg #[v, .int .i64 a, .int .i64 b]) = .returned (.agg #[v, .int .i64 c, .int .i64 d]) := by rw [h, h2]
theorem toList13 {u : ByteArray} (h : u.size ≠ 1) : (u.toList == [13]) = false := by
  rw [ByteArray.toList_eq, beq_eq_false_iff_ne]
  intro e
  exact h (by rw [← blen', e]; rfl)
theorem toList13' {u : ByteArray} (h : 0 < u.size) (h2 : u[0] ≠ 13) : (u.toList == [13]) = false := by
  rw [ByteArray.toList_eq, beq_eq_false_iff_ne]
  intro e
  have := at_list u 0 h
  rw [e] at this
  exact h2 (Option.some.inj this).symm
theorem cons0 {u : ByteArray} (h : 0 < u.size) : u.data.toList = u[0] :: u.data.toList.drop 1 := by
  have := drop_at u 0 h
  rwa [List.drop_zero] at this
theorem cons1 {u : ByteArray} (h : 1 < u.size) : u.data.toList = u[0] :: u[1] :: u.data.toList.drop 2 := by
  rw [cons0 (by omega), drop_at u 1 h]
  rfl
theorem one13 {u : ByteArray} (h : u.size = 1) (h2 : 0 < u.size) (h3 : u[0] = 13) : u.data.toList = [13] := by
  rw [cons0 h2, h3, List.drop_of_length_le (by rw [blen']; omega)]

set_option maxHeartbeats 1000000 in
theorem rscan_any (s : ByteArray) (w : World) (hs : s.size ≤ 100000) :
    Calls Tryd.prog 11 #[.string s] w fun e w' => ∃ v, e = .returned (.agg #[v, .int .i64 ((run 1 s.data.toList).1 : Nat), .int .i64 ((run 1 s.data.toList).2 : Nat)]) ∧ FS w' v (told s.data.toList) ∧ Below w.heap.size w w' := by
  have h0 := Lib.hid (Got6.start w)
  go_enter Tryd.func11, Tryd.ntmps11
  go_wp2_with fail
  go_loopw [3, 4] (fun v i wr => ∃ (k : Nat) (xs : List Fld), k ≤ s.size ∧ i = .int .i64 k ∧ xs.length ≤ k ∧ Hid (run 1 s.data.toList = (k + (run 1 (s.data.toList.drop k)).1, (run 1 (s.data.toList.drop k)).2)) ∧ Hid (fof s.data.toList = xs ++ fof (s.data.toList.drop k)) ∧ Hid (Got6 w wr v xs)) (fun _ i _ => s.size - (intOf i).toNat)
  case atStart => exact ⟨0, [], Nat.zero_le _, rfl, Nat.zero_le _, Lib.hid (by simp), Lib.hid (by simp), h0⟩
  case round =>
    clear h0
    obtain ⟨k, xs, hk, rfl, hxk, HR, HO, HT⟩ := hrel
    have hul := tail_list s k
    have husz : (s.extract k s.size).size = s.size - k := by rw [← blen', hul, List.length_drop, blen']
    rw [← hul] at HR HO
    have HUL := Lib.hid hul
    have hcut : ∀ W : World, (Instr.slice 9 (.string s) (some (.int .i64 (k : Int))) none none).run Tryd.prog W = .ok (.string (s.extract k s.size)) W := fun W => by
      rw [run_slice_string_l W 9 s Tryd.underlying9 .i64 (k : Int) (by omega) (by omega)]; rfl
    clear hul
    obtain ⟨c0, c1, c2, c3⟩ := three_of HT.out.three.1
    generalize s.extract k s.size = u at *
    have hku : k + u.size = s.size := by omega
    have HKU := Lib.hid hku
    have HK := Lib.hid hk
    have hsu : u.size ≤ 100000 := by omega
    have hk5 : k ≤ 100000 := by omega
    clear husz hku hk
    by_cases hu0 : u.size = 0
    · have t0 : ((u.size : Int) == 0) = true := beq_iff_eq.2 (by omega)
      have hnil : u.data.toList = [] := List.eq_nil_of_length_eq_zero (by rw [blen']; exact hu0)
      rw [hnil, run1_nil] at HR
      clear hu0 hnil
      go_wp2_with fail
      obtain ⟨e1, e2, e3⟩ := HT.out.ends (.int .i64 (s.size : Int)) (.int .i64 4) (.slice none 0 0) [] (.inr ⟨rfl, rfl⟩)
      refine bodyPost_ret (results_cell_row rfl _ _ w.heap.size 28 _ (0, 0) _ rfl e1 Tryd.underlying28 rfl (by kernel_rfl)) rfl ?_
      refine ⟨_, ret_got (by rw [HR.out, ← HKU.out]; simp; have := beq_iff_eq.1 t0; omega) (by rw [HR.out]; rfl), ?_, e3⟩
      unfold told; rw [HR.out]; exact e2
    · have t0 : ((u.size : Int) == 0) = false := beq_eq_false_iff_ne.2 (by omega)
      have hp : 0 < u.size := by omega
      by_cases h13 : u[0] = 13
      · by_cases hu1 : u.size = 1
        · have hl := one13 hu1 hp h13
          have t1 : (u.toList == [13]) = true := by rw [ByteArray.toList_eq, hl]; rfl
          rw [hl, run1_one] at HR
          clear hl h13 hu0
          have HZ := Lib.hid (show s.size = k + 1 by have := HKU.out; omega)
          have h1s : (u.size : Int) ≤ 1 := by omega
          clear hu1
          go_wp2_with fail
          obtain ⟨e1, e2, e3⟩ := HT.out.ends (.int .i64 (s.size : Int)) (.int .i64 4) (.slice none 0 0) [] (.inr ⟨rfl, rfl⟩)
          refine bodyPost_ret (results_cell_row rfl _ _ w.heap.size 28 _ (0, 0) _ rfl e1 Tryd.underlying28 rfl (by kernel_rfl)) rfl ?_
          refine ⟨_, ret_got (by rw [HR.out, HZ.out]) (by rw [HR.out]; rfl), ?_, e3⟩
          unfold told; rw [HR.out]; exact e2
        · have hp1 : 1 < u.size := by omega
          have t1 := toList13 hu1
          have hl := cons1 hp1
          rw [h13] at hl
          have t13 := is13 h13
          by_cases h10 : u[1] = 10
          · have t10 := is10 h10
            have n10 := isn10 h10
            rw [h10] at hl
            rw [hl, run1_end] at HR
            rw [hl, fof_last (eol_hit _), List.append_nil] at HO
            clear hl h13 h10 hu0 hu1
            obtain ⟨q, n, c, rfl⟩ := own_slice HT.out.own
            go_wp2_with fail
            obtain ⟨e1, e2, e3⟩ := HT.out.ends (.int .i64 ((k : Int) + 2)) (.int .i64 0) _ xs (.inl ⟨rfl, rfl⟩)
            refine bodyPost_ret (results_cell_row rfl _ _ w.heap.size 28 _ (0, 0) _ rfl e1 Tryd.underlying28 rfl (by kernel_rfl)) rfl ?_
            refine ⟨_, ret_got (by rw [HR.out]; rfl) (by rw [HR.out]; rfl), ?_, e3⟩
            unfold told; rw [HR.out, if_pos rfl, HO.out]; exact e2
          · have t10 := no10 h10
            have n10 := non10 h10
            rw [hl, run1_bad _ h10] at HR
            clear hl h13 h10 hu0 hu1
            go_wp2_with fail
            obtain ⟨e1, e2, e3⟩ := HT.out.ends (.int .i64 ((k : Int) + 1)) (.int .i64 2) (.slice none 0 0) [] (.inr ⟨rfl, rfl⟩)
            refine bodyPost_ret (results_cell_row rfl _ _ w.heap.size 28 _ (0, 0) _ rfl e1 Tryd.underlying28 rfl (by kernel_rfl)) rfl ?_
            refine ⟨_, ret_got (by rw [HR.out]; rfl) (by rw [HR.out]; rfl), ?_, e3⟩
            unfold told; rw [HR.out]; exact e2
      · have t1 := toList13' hp h13
        have t13 := no13 h13
        have hl := cons0 hp
        have HW := Lib.hid (wrong_any u wr (by omega))
        have HE := Lib.hid (end_any u wr (by omega))
        rcases wrong_run u[0] (u.data.toList.drop 1) h13 with ⟨m, q1, q2⟩ | ⟨q1, q2, q3⟩ | ⟨q1, j, q2, q3, q4, q5⟩
        · rw [← hl] at q1 q2
          rw [q1] at HW
          rw [q2] at HR
          have hm := run_kind 1 u.data.toList
          rw [q2, blen'] at hm
          simp only at hm
          have hm2 : m ≤ 100000 := by omega
          have m0 : (0 : Int) ≤ (m : Int) := by omega
          clear hl h13 q1 q2 hm hu0 HE
          go_wp2_with (go_at_call 23; refine HW.out.mono ?_; rintro e w' ⟨rfl, rfl⟩)
          obtain ⟨e1, e2, e3⟩ := HT.out.ends (.int .i64 ((k : Int) + (m : Int))) (.int .i64 2) (.slice none 0 0) [] (.inr ⟨rfl, rfl⟩)
          refine bodyPost_ret (results_cell_row rfl _ _ w.heap.size 28 _ (0, 0) _ rfl e1 Tryd.underlying28 rfl (by kernel_rfl)) rfl ?_
          refine ⟨_, ret_got (by rw [HR.out]; simp) (by rw [HR.out]; rfl), ?_, e3⟩
          unfold told; rw [HR.out]; exact e2
        · rw [← hl] at q1 q2 q3
          rw [q1] at HW
          have he : endI u.data.toList = -1 := by unfold endI; rw [q2]
          rw [he] at HE
          rw [q3, blen'] at HR
          have HZ := HKU
          clear hl h13 q1 q2 q3 he hu0
          go_wp2_with (first | (go_at_call 23; refine HW.out.mono ?_; rintro e w' ⟨rfl, rfl⟩) | (go_at_call 24; refine HE.out.mono ?_; rintro e w' ⟨rfl, rfl⟩))
          obtain ⟨e1, e2, e3⟩ := HT.out.ends (.int .i64 (s.size : Int)) (.int .i64 4) (.slice none 0 0) [] (.inr ⟨rfl, rfl⟩)
          refine bodyPost_ret (results_cell_row rfl _ _ w.heap.size 28 _ (0, 0) _ rfl e1 Tryd.underlying28 rfl (by kernel_rfl)) rfl ?_
          refine ⟨_, ret_got (by rw [HR.out, HZ.out]) (by rw [HR.out]; rfl), ?_, e3⟩
          unfold told; rw [HR.out]; exact e2
        · rw [← hl] at q1 q2 q4 q5
          rw [q1] at HW
          have he : endI u.data.toList = (j : Int) + 2 := by unfold endI; rw [q2]
          rw [he] at HE
          have hle := eol_le q2
          rw [blen'] at hle
          have hd : (u.data.toList.drop (j + 2)) = s.data.toList.drop (k + (j + 2)) := by rw [HUL.out, List.drop_drop]
          rw [q5, hd] at HR
          rw [fof_some q2 (by omega), hd] at HO
          have hln : arr (u.data.toList.take j) = u.extract 0 j := b_ext (by rw [arr_list, head_list])
          have hcut2 : ∀ W : World, (Instr.slice 9 (.string u) none (some (.int .i64 (j : Int))) none).run Tryd.prog W = .ok (.string (u.extract 0 j)) W := fun W => by
            rw [run_slice_string_h W 9 u Tryd.underlying9 .i64 (j : Int) (by omega) (by omega)]; rfl
          rw [hln] at HO q4
          have hlz : (u.extract 0 j).size ≤ 1099511627776 := by rw [← blen', head_list, List.length_take, blen']; omega
          have HP : Hid (∀ W, _) := Lib.hid fun W => rparse_good (u.extract 0 j) W hlz q4
          clear hl h13 q1 q2 q4 q5 he hu0 hd hln hlz
          generalize parsed (u.extract 0 j) = f at *
          generalize u.extract 0 j = lb at *
          obtain ⟨fx, fy⟩ := f
          have j3 : (j : Int) + 2 - 2 = (j : Int) := by omega
          have HJ := Lib.hid hle
          have hj5 : j ≤ 100000 := by omega
          clear hle
          go_wp2_with (first | (go_at_call 23; refine HW.out.mono ?_; rintro e w' ⟨rfl, rfl⟩) | (go_at_call 24; refine HE.out.mono ?_; rintro e w' ⟨rfl, rfl⟩))
          refine (HP.out _).mono ?_
          rintro e w3 ⟨rfl, hb3⟩
          replace HT := Lib.hid (HT.out.next hb3)
          clear hb3 c0 c1 c2 c3 HW HE HP
          obtain ⟨v', w4, r0, r1⟩ := HT.out.more ⟨fx, fy⟩ 23 (by omega)
          have R0 := Lib.hid r0
          have R1 := Lib.hid r1
          clear r0 r1
          go_wp2_with (at_builtin; refine wpList_append_is rfl (.tmp 59) (.tmp 61) 23 rfl _ _ _ _ rfl rfl R0.out ?_)
          clear R0
          go_roundw
          case rel =>
            refine ⟨k + (j + 2), xs ++ [⟨fx, fy⟩], by have := HKU.out; have := HJ.out; omega, by go_num, by simp; omega, Lib.hid ?_, Lib.hid ?_, R1⟩
            · rw [HR.out]; congr 1; omega
            · rw [HO.out]; simp
          case measure => simp [intOf]; have := HKU.out; have := HJ.out; omega

set_option maxHeartbeats 4000000 in
theorem scans6_walk (s : ByteArray) (w : World) (hsp : Spans w) (hbd : Bound w) :
    Calls Tryd.prog 3 #[.string s] w fun e w' => e = .returned (.bool true) ∧ Below w.heap.size w w' := by
  have hW := Lib.hid (wakes6 w hsp hbd)
  by_cases hl : (1000 : Int) < (s.size : Int)
  · clear hsp hbd
    go_enter Tryd.func3, Tryd.ntmps3
    go_wp2_with (go_at_call 9; refine hW.out.mono ?_; rintro e w' ⟨rfl, hb⟩)
    go_ret
    exact ⟨rfl, hb⟩
  · have hS : Hid (∀ W, Below w.heap.size w W → _) := Lib.hid fun W hb => scan_is s _ _ W (by omega) (hsp.below hb) (hbd.below hb) rfl
    have hR : Hid (∀ W, _) := Lib.hid fun W => rscan_any s W (by omega)
    have hk := run_kind 1 s.data.toList
    rw [blen'] at hk
    have htl : (told s.data.toList).length ≤ 1000000 := by
      unfold told
      split
      · rename_i h0
        have := (whole_lines _ s.data.toList (Nat.le_refl _) h0 0).2.2.2
        rw [blen'] at this
        have h2 := fl_len (lns 0 s.data.toList)
        unfold fof
        omega
      · simp
    clear hsp hbd
    have ha : (run 1 s.data.toList).1 ≤ 100000 := by omega
    have hb : (run 1 s.data.toList).2 ≤ 4 := by omega
    generalize (run 1 s.data.toList).1 = a at *
    generalize (run 1 s.data.toList).2 = b at *
    generalize told s.data.toList = t at *
    clear hk
    go_enter Tryd.func3, Tryd.ntmps3
    go_wp2_with fail
    refine hW.out.mono ?_
    rintro e w1 ⟨rfl, hb1⟩
    have HB := Lib.hid hb1
    clear hb1 hW
    go_wp2_with fail
    refine (hS.out _ HB.out).mono ?_
    rintro e w2 ⟨p2, c2, rfl, hf2, hb2⟩
    replace HB := Lib.hid (ahead HB.out hb2)
    have HF2 := Lib.hid hf2
    clear hb2 hS hf2
    go_wp2_with fail
    refine (hR.out _).mono ?_
    rintro e w3 ⟨v3, rfl, hf3, hb3⟩
    obtain ⟨p3, c3, rfl, -, -⟩ := RS.slice hf3
    replace HB := Lib.hid (ahead HB.out hb3)
    have HF2' := HF2.out.below hb3
    clear HF2 hb3 hR
    obtain ⟨W4, hW4⟩ : ∃ W4, w3.alloc (.cells #[.slice p3 t.length c3, .int .i64 (a : Int), .int .i64 (b : Int)] 28) = W4 := ⟨_, rfl⟩
    have hb4 : Below w3.heap.size w3 W4 := by rw [← hW4]; exact below_box _ _
    have hc4 : W4.heap[w3.heap.size]? = some (.cells #[.slice p3 t.length c3, .int .i64 (a : Int), .int .i64 (b : Int)] 28 (0, 0)) := by rw [← hW4]; exact heap_alloc_new _ _
    have HE := Lib.hid (fields_any t t (.slice p2 t.length c2) (.slice p3 t.length c3) W4 (HF2'.below hb4) (hf3.below hb4) htl htl rfl)
    replace HB := Lib.hid (ahead HB.out hb4)
    have HC4 := Lib.hid hc4
    have HW4 := Lib.hid hW4
    clear hW4 hc4 hb4 hf3 HF2'
    go_wp2_with fail
    rw [HW4.out]
    clear HW4
    refine HE.out.mono ?_
    rintro e w5 ⟨rfl, hb5⟩
    obtain ⟨d0, d1, d2, d3⟩ := three_of ((hb5.block _ (Array.getElem?_eq_some_iff.1 HC4.out).1).trans HC4.out)
    replace HB := Lib.hid (ahead HB.out hb5)
    clear HE HC4 hb5
    go_wp2_with fail
    go_ret
    exact ⟨ret_bool (by simp), HB.out⟩

end Go.Proofs.YtdimobigdkmcbaaDoor
