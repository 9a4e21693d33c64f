/- What filter.part answers. -/
import Derived.Test.YtpmgmbekhnjeoaaDoorFiltMem
import Derived.Deep.RegionHeld3
namespace Go.Proofs.YtpmgmbekhnjeoaaDoor
open Go.ChangeShapes Go.WideShapes Go.ChangeAt Go.RowKit
open Go.Shelf
open Oc Fl Ft
set_option linter.unusedVariables false
set_option maxRecDepth 100000
attribute [local go_sem] Oper.semAt_some

/-- Two results, the second one in a cell. -/
theorem results_tmp_cell {fn : Func} {p q : Tmp} (h : fn.results = #[.tmp p, .cell q 27]) (tmps : Array Value) (w : World) (g : Nat) (v u : Value) (hp : tmps.getD p undef = v) (hq : tmps.getD q undef = .pointer (some ⟨g, 0, none⟩)) (hg : w.cell? ⟨g, 0, none⟩ = some u) :
    (results fn tmps).run Tryd.prog w = .ok (.tuple #[v, u]) w := by
  have hq' : tmps[q]?.getD undef = .pointer (some ⟨g, 0, none⟩) := by simpa using hq
  have hp' : tmps[p]?.getD undef = v := by simpa using hp
  simp [results, h, hp', hq', asAddr, loadVar, isAgg, run_underlying Tryd.underlying27, hg, go_sem]

set_option maxRecDepth 100000 in
set_option maxHeartbeats 8000000 in
theorem part_any (l : List Fld) (p : Option Addr) (c : Nat) (w : World) (hT : Tbl w) (hF : FS w (.slice p l.length c) l) (hl : l.length ≤ 1000000) (hfs : ∀ f ∈ l, f.name.size ≤ 1099511627776) :
    Calls Tryd.prog 20 #[.slice p l.length c] w fun e w' => ∃ v u, e = .returned (.tuple #[v, u]) ∧ FS w' v (sel false l) ∧ FS w' u (sel true l) ∧ Below w.heap.size w w' := by
  have HT := Lib.hid hT
  have HF := Lib.hid hF
  have HFS := Lib.hid hfs
  clear hT hF hfs
  refine calls_of_marks Tryd.func20 rfl ?_
  simp only [Tryd.ntmps20, List.size_toArray, List.length_cons, List.length_nil, Nat.reduceAdd, Nat.reduceSub, Array.replicate_succ, Array.replicate_zero, List.push_toArray, List.append_toArray, List.nil_append, List.cons_append]
  go_wp2_with fail
  go_step3
  go_wp2_with fail
  go_step3
  go_wp2_with fail
  obtain ⟨I, hI⟩ : ∃ I : Act → World → Prop, I = fun a W => ∃ (k : Nat) (v u u5 u10 u11 u12 u13 u22 u23 u24 u25 u26 : Value) (ds : List Nat),
      a = { tmps := #[.slice p l.length c, undef, v, .pointer (some ⟨w.heap.size, 0, none⟩), undef, u5, undef, .slice p l.length c, .int .i64 (l.length : Int), .int .i64 (k : Int), u10, u11, u12, u13, undef, undef, undef, undef, undef, undef, undef, undef, u22, u23, u24, u25, u26, undef, undef], defers := ds.map mk } ∧
      k ≤ l.length ∧ Parted w W ds v u (sel false (l.take k)) (sel true (l.take k)) := ⟨_, rfl⟩
  refine wp_loop I (fun a _ => l.length - (intOf (a.tmps.getD 9 undef)).toNat) ?_ ?_
  · rw [hI]
    exact ⟨0, _, _, _, _, _, _, _, _, _, _, _, _, [], rfl, Nat.zero_le _, Parted.start w⟩
  · intro a wr hinv
    rw [hI] at hinv
    obtain ⟨k, v, u, u5, u10, u11, u12, u13, u22, u23, u24, u25, u26, ds, rfl, hk, hP⟩ := hinv
    have hDI := Lib.hid hI
    clear hI
    have HP := Lib.hid hP
    clear hP
    by_cases hlt : k < l.length
    · obtain ⟨f, hf⟩ : ∃ f, l[k]? = some f := ⟨_, List.getElem?_eq_getElem hlt⟩
      obtain ⟨-, ad, rfl, c0, c1⟩ := ((HF.out).below HP.out.below).at hf
      have hfz := HFS.out f (List.mem_of_getElem? hf)
      have HS0 := Lib.hid (sel_take false hf)
      have HS1 := Lib.hid (sel_take true hf)
      have hx0 := sel_take_len false l k
      have hx1 := sel_take_len true l k
      generalize sel false (l.take k) = xs at *
      generalize sel true (l.take k) = ys at *
      clear hf
      obtain ⟨x, y⟩ := f
      simp only at c0 c1 hfz
      have k1 : (0 : Int) ≤ (k : Int) := by omega
      have k2 : (k : Int) < (l.length : Int) := by omega
      go_wp2_with (go_at_call 17; refine (names_any _).mono ?_; rintro e w' ⟨rfl, rfl⟩)
      obtain ⟨W0, hW0⟩ : ∃ W0, wr.alloc (.cells #[.string x, .string y] 41) = W0 := ⟨_, rfl⟩
      have s0 : W0.heap.size = wr.heap.size + 1 := by rw [← hW0]; simp
      have bW : Below wr.heap.size wr W0 := by rw [← hW0]; exact below_box _ _
      have g0 : W0.heap[wr.heap.size]? = some (.cells #[.string x, .string y] 41 (0, 0)) := by rw [← hW0]; exact box_cells _ _ _ _
      rw [hW0]
      clear hW0 c0 c1
      have HP0 := HP.out.next bW
      have l0 : ∀ r, Parted.Of w ds v u r → r < wr.heap.size := fun r hr => HP.out.lt hr
      have hws : w.heap.size < wr.heap.size := l0 _ (.inl rfl)
      refine wp_range (wpIn_rangeR (gf := 21) rfl (enters_of Tryd.func21 (by kernel_rfl) rfl) names_seq (fun j x hx => ?_)
        (fun j W => Parted w W ds v u xs ys ∧ W.heap[wr.heap.size]? = some (.cells #[.string x, .string y] 41 (0, 0)) ∧ (nms.take j).any (fun n => has n ⟨x, y⟩) = false)
        (fun co j W => co = .exit 1 ∧ bad ⟨x, y⟩ = true ∧ ∃ u', Parted w W ds v u' xs (ys ++ [⟨x, y⟩]) ∧ u'.ownBlock ≠ some (wr.heap.size + 1) ∧ u'.ownBlock ≠ some (wr.heap.size + 2))
        ?_ ?_ (fun j W h => HT.out.below h.1.below) ⟨HP0, g0, rfl⟩ ?round ?done ?stop)
      · obtain ⟨y, _, rfl⟩ := nmV_of hx; rfl
      · rintro j A B ⟨i1, i2, i3⟩ hB
        rw [s0] at hB
        exact ⟨i1.but hB (by omega) (fun r hr => by have := l0 r hr; omega), hB.heap i2 (by omega) (by omega), i3⟩
      · rintro co j A B ⟨i1, i2, u', i3, i4, i5⟩ hB
        rw [s0] at hB
        refine ⟨i1, i2, u', i3.but hB (by omega) (fun r hr => ?_), i4, i5⟩
        rcases hr with hr | hr | hr | hr
        · have := l0 r (.inl hr); omega
        · have := l0 r (.inr (.inl hr)); omega
        · have := l0 r (.inr (.inr (.inl hr))); omega
        · exact ⟨fun e => i4 (e ▸ hr), fun e => i5 (e ▸ hr)⟩
      case round =>
        rintro j x' W hx - -
        obtain ⟨n, hn, rfl⟩ := nmV_of hx
        have hnz := nms_size n (List.mem_of_getElem? hn)
        have HIS : Hid (∀ W, _) := Lib.hid fun W => is_any ⟨x, y⟩ n W hfz (by omega)
        have HN := Lib.hid hn
        clear hx hn HP0 g0 bW
        gi_wp2_with fail
        refine ⟨trivial, ?_⟩
        rintro W2 ⟨i1, i2, i3⟩ hsz2
        rw [s0] at hsz2 ⊢
        obtain ⟨c2, c3, -⟩ := two_cells i2
        have I1 := Lib.hid i1
        have I2 := Lib.hid i2
        have I3 := Lib.hid i3
        have L0 := Lib.hid l0
        clear i1 i2 i3 l0
        cases hal : has n ⟨x, y⟩
        · rw [hal] at HIS
          have HA := Lib.hid hal
          clear hal
          gi_wp2_with fail
          refine ⟨trivial, rfl, (callsIn_wide.2 (HIS.out _)).mono ?_⟩
          rintro e W3 ⟨rfl, hb3⟩
          replace hb3 := Lib.hid hb3
          gi_wp2_with fail
          exact ⟨Held.of_below hsz2 hb3.out, I1.out.next hb3.out, two_below I2.out hb3.out, by rw [any_snoc HN.out, I3.out, HA.out]; rfl⟩
        · rw [hal] at HIS
          have HA := Lib.hid hal
          clear hal
          gi_wp2_with fail
          refine ⟨trivial, rfl, (callsIn_wide.2 (HIS.out _)).mono ?_⟩
          rintro e W3 ⟨rfl, hb3⟩
          have hz3 := hb3.size
          obtain ⟨c23, c33, -⟩ := two_cells (two_below I2.out hb3)
          have I4 := Lib.hid (I1.out.next hb3)
          obtain ⟨c4, f4⟩ := one_cell I4.out.cell
          obtain ⟨u', W4, r0, r1, r2, r3, r4, r5⟩ := I4.out.less ⟨x, y⟩ 27 (by omega)
          obtain ⟨c5, f5⟩ := one_cell r1
          obtain ⟨q, n5, c6, rfl⟩ := own_slice r2.gone
          have HB3 := Lib.hid hb3
          have R0 := Lib.hid r0
          have R2 := Lib.hid r2
          have R3 := Lib.hid r3
          have R4 := Lib.hid r4
          have R5 := Lib.hid r5
          clear hb3 r0 r1 r2 r3 r4 r5 c2 c3
          gi_wp2_with (gi_at_builtin; refine wpListIn_append_run rfl (.tmp 18) (.tmp 20) 27 rfl _ _ _ _ rfl rfl R0.out ?_)
          have hu : ∀ r, u.ownBlock = some r → r < wr.heap.size := fun r hr => L0.out r (.inr (.inr (.inr hr)))
          refine ⟨⟨by have := R3.out; omega, ?_, ?_, fun h => h.elim⟩, rfl, any_here HN.out HA.out, _, R2.out, fun e => ?_, fun e => ?_⟩
          · exact (R4.out _ (by omega) (by omega) (fun e => by have := hu _ e; omega)).trans (HB3.out.block _ (by omega))
          · exact (R4.out _ (by omega) (by omega) (fun e => by have := hu _ e; omega)).trans (HB3.out.block _ (by omega))
          · rcases R5.out with h | h
            · have := hu _ (h ▸ e); omega
            · have := h _ e; omega
          · rcases R5.out with h | h
            · have := hu _ (h ▸ e); omega
            · have := h _ e; omega
      case done =>
        rintro W ⟨i1, i2, i3⟩ hD
        rw [s0] at hD ⊢
        have I1 := i1.mark (D := wr.heap.size + 1) (by omega) hD (fun x hx => by have := l0 x (.inr (.inl hx)); omega)
        obtain ⟨v', W', r0, r1⟩ := I1.more ⟨x, y⟩ 27 (by omega)
        have hb : bad ⟨x, y⟩ = false := i3
        rw [show xs ++ [(⟨x, y⟩ : Fld)] = sel false (l.take (k + 1)) by rw [HS0.out, if_pos hb], show ys = sel true (l.take (k + 1)) by rw [HS1.out, if_neg (by rw [hb]; decide), List.append_nil]] at r1
        obtain ⟨c2, c3, -⟩ := two_cells i2
        have R0 := Lib.hid r0
        have R1 := Lib.hid r1
        clear i1 i2 i3 hD r0 r1 I1 HP0 g0 bW l0 hb
        go_wp2_with (at_builtin; refine wpList_append_run rfl (.tmp 22) (.tmp 24) 27 rfl _ _ _ _ rfl rfl R0.out ?_)
        refine ⟨?_, ?_⟩
        · rw [hDI.out]
          exact ⟨k + 1, v', u, _, _, _, _, _, _, _, _, _, _, (wr.heap.size + 1) :: ds, rfl, by omega, R1.out⟩
        · simp [intOf]; omega
      case stop =>
        rintro co j W _ ⟨rfl, i1, u', i2, i3, i4⟩ hD
        rw [s0] at hD ⊢
        have I1 := i2.mark (D := wr.heap.size + 1) (by omega) hD (fun x hx => by have := l0 x (.inr (.inl hx)); omega)
        rw [show xs = sel false (l.take (k + 1)) by rw [HS0.out, if_neg (by rw [i1]; decide), List.append_nil], show ys ++ [(⟨x, y⟩ : Fld)] = sel true (l.take (k + 1)) by rw [HS1.out, if_pos i1]] at I1
        replace I1 := Lib.hid I1
        clear i1 i2 i3 i4 hD HP0 g0 bW l0
        refine wpIn_wide.2 ?_
        go_wp2_with fail
        refine ⟨?_, ?_⟩
        · rw [hDI.out]
          exact ⟨k + 1, v, u', _, _, _, _, _, _, _, _, _, _, (wr.heap.size + 1) :: ds, rfl, by omega, I1.out⟩
        · simp [intOf]; omega
    · obtain rfl : k = l.length := by omega
      rw [List.take_length] at HP
      obtain ⟨q, n5, c6, rfl⟩ := own_slice HP.out.gone
      obtain ⟨c5, f5⟩ := one_cell HP.out.cell
      go_wp2_with fail
      refine wp_region_noPanic ?_
      go_region_with (fail)
      all_goals (refine NoPanic.normal ?_)
      all_goals go_wp2_with fail
      all_goals
        have I9 := Lib.hid (HP.out.put.next (Below.drew (Below.refl _ _)))
        try rw [Exit.noGoto_ret]
        refine left_marks_at ds I9.out.below.size rfl I9.out.marks (fun W' hW' => ⟨results_tmp_cell rfl _ _ w.heap.size v (.slice q n5 c6) rfl rfl (one_cell (hW'.cells _ _ _ _ I9.out.cell)).1, ?_⟩) (.inl rfl)
        exact ⟨v, _, rfl, RS.of_own (hW'.own I9.out.kept), RS.of_own (hW'.own I9.out.gone), I9.out.below.trans hW'.below⟩

end Go.Proofs.YtpmgmbekhnjeoaaDoor
