/- The reader's within: how many bytes of a section stand ahead of one that is beyond the limits. -/
import Derived.Test.YtilebfpaibajcaaGreatDoorBodyChunk
import Derived.Test.YtilebfpaibajcaaGreatDoorRoundRegion
namespace Go.Proofs.YtilebfpaibajcaaGreatDoor
open Go.ChangeShapes Go.WideShapes Go.ChangeAt Go.RowKit
open Go.Shelf
open Oc Fl Bk Bd
set_option linter.unusedVariables false
set_option maxRecDepth 100000
attribute [local go_sem] Oper.semAt_some

theorem lns_in (n : Nat) : ∀ (t : List UInt8) (a : Nat), t.length ≤ n → ∀ p ∈ lns a t, a ≤ p.1 ∧ p.1 + p.2.length + 2 ≤ a + t.length := by
  induction n with
  | zero => intro t a hn p hp; rw [lns_none (eol_short (by omega))] at hp; cases hp
  | succ n ih =>
    intro t a hn p hp
    cases h : eol t with
    | none => rw [lns_none h] at hp; cases hp
    | some k =>
      have hle := eol_le h
      by_cases hk : k = 0
      · subst hk
        rw [lns_last h] at hp
        simp only [List.mem_cons, List.not_mem_nil, or_false] at hp
        subst hp
        simp only [List.length_nil]; omega
      · rw [lns_some h hk] at hp
        rcases List.mem_cons.1 hp with rfl | hp
        · simp only [List.length_take]; omega
        · have := ih (t.drop (k + 2)) (a + (k + 2)) (by rw [List.length_drop]; omega) p hp
          rw [List.length_drop] at this
          omega
theorem lns_len (n : Nat) : ∀ (t : List UInt8) (a : Nat), t.length ≤ n → (lns a t).length ≤ t.length := by
  induction n with
  | zero => intro t a hn; rw [lns_none (eol_short (by omega))]; simp
  | succ n ih =>
    intro t a hn
    cases h : eol t with
    | none => rw [lns_none h]; simp
    | some k =>
      have hle := eol_le h
      by_cases hk : k = 0
      · subst hk
        rw [lns_last h]
        simp only [List.length_cons, List.length_nil]; omega
      · rw [lns_some h hk]
        have := ih (t.drop (k + 2)) (a + (k + 2)) (by rw [List.length_drop]; omega)
        rw [List.length_drop] at this
        simp only [List.length_cons]; omega

theorem held_drewN {D m : Nat} {up : Prop} {A B : World} (h : Held D up (A.drewN m) B) : Held D up A B := ⟨h.size, h.d0, h.d1, h.high⟩
/-- A result that lies in a cell of its own. -/
theorem results_num {fn : Func} {p : Tmp} (h : fn.results = #[.cell p 3]) (tmps : Array Value) (w : World) (g : Nat) (x : Value) (hp : tmps.getD p undef = .pointer (some ⟨g, 0, none⟩)) (hg : w.cell? ⟨g, 0, none⟩ = some x) :
    (results fn tmps).run Tryz.prog w = .ok x w := by
  have hp' : tmps[p]?.getD undef = .pointer (some ⟨g, 0, none⟩) := by simpa using hp
  simp [results, h, hp', asAddr, loadVar, isAgg, run_underlying Tryz.underlying3, hg, go_sem]

set_option maxHeartbeats 8000000 in
theorem within_any {B R : Nat} {tv : Value} {T : List UInt8} {l : Lim} {k : Nat} {dv : Value} {D : List UInt8} (w : World) (h : RAt B R tv T l k dv D w) (hbd : Bound w) (s : ByteArray) (hs : s.size ≤ 90000) :
    Calls Tryz.prog 75 #[.pointer (some ⟨R, 0, none⟩), .string s] w fun x w' => x = .returned (.int .i64 ((wi l s.size 0 (lns 0 (s.data.toList ++ [13, 10])) : Nat) : Int)) ∧ Below w.heap.size w w' := by
  have hadd : ∀ W, (Op.stringOp .add s ⟨#[13, 10]⟩).run Tryz.prog W = .ok (.string (s ++ ⟨#[13, 10]⟩)) W := fun W => run_string_add_sum (P := Tryz.prog) (w := W) _ _ (by show s.size + 2 ≤ _; omega)
  obtain ⟨u, hu⟩ : ∃ u : ByteArray, s ++ ⟨#[13, 10]⟩ = u := ⟨_, rfl⟩
  rw [hu] at hadd
  have hul : u.data.toList = s.data.toList ++ [13, 10] := by rw [← hu]; simp
  have hus : u.size = s.size + 2 := by rw [← hu, ByteArray.size_append]; rfl
  rw [← hul]
  have hseq : ∀ Bx, _ := fun Bx => lines_seq Bx u (by omega)
  have hin := lns_in _ u.data.toList 0 (Nat.le_refl _)
  have hln := lns_len _ u.data.toList 0 (Nat.le_refl _)
  have hlims := h.lims
  rw [blen'] at hin hln
  unfold prs at hseq
  have hRl : R < w.heap.size := by have := h.base; omega
  have HR := Lib.hid h
  generalize lns 0 u.data.toList = P at *
  have HIN := Lib.hid hin
  have HSEQ := Lib.hid hseq
  have HBD := Lib.hid hbd
  clear hin hseq hbd hul hu h
  refine calls_of_marks Tryz.func75 rfl ?_
  simp only [Tryz.ntmps75, List.size_toArray, List.length_cons, List.length_nil, Nat.reduceAdd, Nat.reduceSub, Array.replicate_succ, Array.replicate_zero, List.push_toArray, List.append_toArray, List.nil_append, List.cons_append]
  go_wp2_with (go_at_call 84; refine (lines_any _ _).mono ?_; rintro e w' ⟨rfl, rfl⟩)
  obtain ⟨W0, hW0⟩ : ∃ W0, ((((w.alloc (.cells #[.pointer (some ⟨R, 0, none⟩)] 125)).alloc (.cells #[.string s] 9)).alloc (.cells #[.int .i64 0] 3)).alloc (.cells #[.int .i64 0] 3)).alloc (.cells #[.string u] 9) = W0 := ⟨_, rfl⟩
  rw [hW0]
  have s0 : W0.heap.size = w.heap.size + 5 := by rw [← hW0]; simp
  have bW : Below w.heap.size w W0 := by rw [← hW0]; exact ahead (ahead (ahead (ahead (below_box _ _) (below_box _ _)) (below_box _ _)) (below_box _ _)) (below_box _ _)
  have g0 : W0.heap[w.heap.size]? = some (.cells #[.pointer (some ⟨R, 0, none⟩)] 125 (0, 0)) := by
    rw [← hW0, Below.heap_alloc _ _ _ (by simp; omega), Below.heap_alloc _ _ _ (by simp; omega), Below.heap_alloc _ _ _ (by simp; omega), Below.heap_alloc _ _ _ (by simp)]; exact new_one w _ _
  have g1 : W0.heap[w.heap.size + 1]? = some (.cells #[.string s] 9 (0, 0)) := by
    rw [← hW0, Below.heap_alloc _ _ _ (by simp), Below.heap_alloc _ _ _ (by simp), Below.heap_alloc _ _ _ (by simp)]; exact heap_alloc2_new w _ _
  have g2 : W0.heap[w.heap.size + 2]? = some (.cells #[.int .i64 0] 3 (0, 0)) := by
    rw [← hW0, Below.heap_alloc _ _ _ (by simp), Below.heap_alloc _ _ _ (by simp)]; exact (by have := World.alloc_heap_new ((w.alloc (.cells #[.pointer (some ⟨R, 0, none⟩)] 125)).alloc (.cells #[.string s] 9)) (.cells #[.int .i64 0] 3); simpa using this)
  have g3 : W0.heap[w.heap.size + 3]? = some (.cells #[.int .i64 0] 3 (0, 0)) := by
    rw [← hW0, Below.heap_alloc _ _ _ (by simp)]
    have := World.alloc_heap_new (((w.alloc (.cells #[.pointer (some ⟨R, 0, none⟩)] 125)).alloc (.cells #[.string s] 9)).alloc (.cells #[.int .i64 0] 3)) (.cells #[.int .i64 0] 3)
    simpa using this
  have g4 : W0.heap[w.heap.size + 4]? = some (.cells #[.string u] 9 (0, 0)) := by
    rw [← hW0]
    have := World.alloc_heap_new ((((w.alloc (.cells #[.pointer (some ⟨R, 0, none⟩)] 125)).alloc (.cells #[.string s] 9)).alloc (.cells #[.int .i64 0] 3)).alloc (.cells #[.int .i64 0] 3)) (.cells #[.string u] 9)
    simpa using this
  have rW : RAt B R tv T l k dv D W0 := HR.out.below bW
  clear hW0 hadd
  obtain ⟨Stay, hStay⟩ : ∃ Stay : World → Prop, Stay = fun W => (∀ r, r < w.heap.size + 5 → r ≠ w.heap.size + 2 → r ≠ w.heap.size + 3 → W.heap[r]? = W0.heap[r]?) ∧ W.os = W0.os ∧ W.tape = W0.tape ∧ W.output = W0.output ∧ w.heap.size + 5 ≤ W.heap.size := ⟨_, rfl⟩
  have st0 : Stay W0 := by rw [hStay]; exact ⟨fun _ _ _ _ => rfl, rfl, rfl, rfl, by omega⟩
  have stB : ∀ A B, Stay A → But (w.heap.size + 5) A B → Stay B := by
    rw [hStay]
    exact fun A B hA hB => ⟨fun r h1 h2 h3 => (hB.block r (by have := hA.2.2.2.2; omega) (by omega) (by omega)).trans (hA.1 r h1 h2 h3), hB.os.trans hA.2.1, hB.tape.trans hA.2.2.1, hB.output.trans hA.2.2.2.1, by have := hB.size; have := hA.2.2.2.2; omega⟩
  have stC : ∀ W, Stay W → (W.cell? ⟨w.heap.size, 0, none⟩ = some (.pointer (some ⟨R, 0, none⟩)) ∧ W.cell? ⟨w.heap.size + 1, 0, none⟩ = some (.string s)) ∧ W.cell? ⟨w.heap.size + 4, 0, none⟩ = some (.string u) ∧ W.cell? ⟨R, 2, none⟩ = some (.int .i64 (l.fields : Int)) ∧ W.cell? ⟨R, 3, none⟩ = some (.int .i64 (l.bytes : Int)) := by
    rw [hStay]
    intro W hW
    have e := (hW.1 R (by omega) (by omega) (by omega)).trans rW.blk
    exact ⟨⟨(one_cell ((hW.1 _ (by omega) (by omega) (by omega)).trans g0)).1, (one_cell ((hW.1 _ (by omega) (by omega) (by omega)).trans g1)).1⟩, (one_cell ((hW.1 _ (by omega) (by omega) (by omega)).trans g4)).1, by simp [World.cell?, e], by simp [World.cell?, e]⟩
  have stU : ∀ W, Stay W → Below w.heap.size w W := by
    rw [hStay]
    exact fun W hW => bW.trans ⟨hW.2.1, hW.2.2.1, hW.2.2.2.1, by have := hW.2.2.2.2; omega, fun r hr => hW.1 r (by omega) (by omega) (by omega)⟩
  have stZ : ∀ W, Stay W → w.heap.size + 5 ≤ W.heap.size := by rw [hStay]; exact fun W hW => hW.2.2.2.2
  have stN : ∀ W v q, q = w.heap.size + 2 ∨ q = w.heap.size + 3 → Stay W → Stay (W.setCell ⟨q, 0, none⟩ v) := by
    rw [hStay]
    exact fun W v q hq hW => ⟨fun r h1 h2 h3 => (Below.heap_setCell _ _ _ _ (by simp; omega)).trans (hW.1 r h1 h2 h3), hW.2.1, hW.2.2.1, hW.2.2.2.1, by simp [World.setCell]; exact hW.2.2.2.2⟩
  have stD : ∀ W m, Stay W → Stay (W.drewN m) := by
    rw [hStay]
    exact fun W m hW => hW
  clear hStay g0 g1 g4 rW bW
  have hPL : (P.map pr).length = P.length := by simp
  refine wp_range (wpIn_rangeR (gf := 89) rfl (enters_of Tryz.func89 (by kernel_rfl) rfl) (HSEQ.out _) (fun j x hx => ?_)
    (fun j W => Stay W ∧ W.heap[w.heap.size + 2]? = some (.cells #[.int .i64 0] 3 (0, 0)) ∧ W.heap[w.heap.size + 3]? = some (.cells #[.int .i64 (j : Int)] 3 (0, 0)) ∧ wi l s.size 0 P = wi l s.size j (P.drop j))
    (fun co j W => co = .ret ∧ Stay W ∧ W.heap[w.heap.size + 2]? = some (.cells #[.int .i64 ((wi l s.size 0 P : Nat) : Int)] 3 (0, 0)))
    ?_ ?_ (fun j W h => ⟨(stC W h.1).2.1, HBD.out.below (stU W h.1)⟩) ⟨st0, g2, g3, rfl⟩ ?round ?done ?stop)
  · rw [List.getElem?_map] at hx
    cases hp : P[j]? with
    | none => rw [hp] at hx; cases hx
    | some p => rw [hp] at hx; cases hx; rfl
  · rintro j A B ⟨i1, i2, i3, i4⟩ hB
    rw [s0] at hB
    exact ⟨stB A B i1 hB, hB.heap i2 (by omega) (by omega), hB.heap i3 (by omega) (by omega), i4⟩
  · rintro co j A B ⟨i0, i1, i2⟩ hB
    rw [s0] at hB
    exact ⟨i0, stB A B i1 hB, hB.heap i2 (by omega) (by omega)⟩
  case round =>
    rintro j x W hx - -
    have hp : ∃ p, P[j]? = some p ∧ x = pr p := by
      rw [List.getElem?_map] at hx
      cases hp : P[j]? with
      | none => rw [hp] at hx; cases hx
      | some p => rw [hp] at hx; cases hx; exact ⟨p, rfl, rfl⟩
    obtain ⟨⟨pa, ln⟩, hp, rfl⟩ := hp
    have hlt := (List.getElem?_eq_some_iff.1 hp).1
    have hsp := (HIN.out _ (List.mem_of_getElem? hp)).2
    have hdr : P.drop j = (pa, ln) :: P.drop (j + 1) := by
      obtain ⟨hlt, e⟩ := List.getElem?_eq_some_iff.1 hp
      rw [List.drop_eq_getElem_cons hlt, e]
    have HWI := Lib.hid (show wi l s.size j (P.drop j) = if ln = [] ∨ ln = [13] then s.size else if j = l.fields then pa else if l.bytes < pa + ln.length + 2 then min l.bytes s.size else wi l s.size (j + 1) (P.drop (j + 1)) by
      rw [hdr]; conv => lhs; unfold wi)
    simp only at hsp
    unfold pr
    simp only
    have has := arr_size ln
    have HEQ := Lib.hid (show (((arr ln).toList == []) = decide (ln = [])) ∧ (((arr ln).toList == [13]) = decide (ln = [13])) by
      rw [ByteArray.toList_eq, arr_list]
      constructor
      · by_cases h : ln = [] <;> simp [h]
      · by_cases h : ln = [13] <;> simp [h])
    generalize arr ln = lb at *
    clear hx hp hdr
    gi_wp2_with fail
    refine ⟨trivial, ?_⟩
    rintro W2 ⟨i1, i2, i3, i4⟩ hsz
    rw [s0] at hsz ⊢
    obtain ⟨⟨x0, x1⟩, x2, x3, x4⟩ := stC W2 i1
    obtain ⟨x5, y5⟩ := one_cell i2
    obtain ⟨x6, y6⟩ := one_cell i3
    have I4 := Lib.hid (i4.trans HWI.out)
    have I1 := Lib.hid i1
    have I2 := Lib.hid i2
    have I3 := Lib.hid i3
    have HX : Hid (∀ (v : Nat) (W' : World), (W' = W2 ∨ ∃ m, W' = W2.drewN m) → wi l s.size 0 P = v → Held (w.heap.size + 5) False W2 (W'.setCell ⟨w.heap.size + 2, 0, none⟩ (.int .i64 (v : Int))) ∧ Stay (W'.setCell ⟨w.heap.size + 2, 0, none⟩ (.int .i64 (v : Int))) ∧ (W'.setCell ⟨w.heap.size + 2, 0, none⟩ (.int .i64 (v : Int))).heap[w.heap.size + 2]? = some (.cells #[.int .i64 ((wi l s.size 0 P : Nat) : Int)] 3 (0, 0))) := Lib.hid fun v W' hW' hv => by
      have e : Held (w.heap.size + 5) False W2 W' ∧ Stay W' ∧ W'.heap[w.heap.size + 2]? = some (.cells #[.int .i64 0] 3 (0, 0)) := by
        rcases hW' with rfl | ⟨m, rfl⟩
        · exact ⟨Held.refl _ _ _, i1, i2⟩
        · exact ⟨held_drewN (Held.refl _ _ _), stD _ m i1, i2⟩
      exact ⟨e.1.trans (Held.setCell W' (show w.heap.size + 2 ≠ w.heap.size + 5 by omega) (show w.heap.size + 2 ≠ w.heap.size + 5 + 1 by omega) (fun h : False => h.elim) _), stN _ _ _ (.inl rfl) e.2.1, by rw [hv]; exact heap_set (A := W') _ e.2.2⟩
    have hwr : IntKind.i64.wrap ((j : Int) + 1) = ((j + 1 : Nat) : Int) := by rw [IntWalk.i64_in _ (by omega)]; omega
    have HZ : Hid (∀ (m : Nat), wi l s.size 0 P = wi l s.size (j + 1) (P.drop (j + 1)) → Held (w.heap.size + 5) False W2 ((W2.drewN m).setCell ⟨w.heap.size + 3, 0, none⟩ (.int .i64 ((j + 1 : Nat) : Int))) ∧ Stay ((W2.drewN m).setCell ⟨w.heap.size + 3, 0, none⟩ (.int .i64 ((j + 1 : Nat) : Int))) ∧ ((W2.drewN m).setCell ⟨w.heap.size + 3, 0, none⟩ (.int .i64 ((j + 1 : Nat) : Int))).heap[w.heap.size + 2]? = some (.cells #[.int .i64 0] 3 (0, 0)) ∧
        ((W2.drewN m).setCell ⟨w.heap.size + 3, 0, none⟩ (.int .i64 ((j + 1 : Nat) : Int))).heap[w.heap.size + 3]? = some (.cells #[.int .i64 ((j + 1 : Nat) : Int)] 3 (0, 0)) ∧ wi l s.size 0 P = wi l s.size (j + 1) (P.drop (j + 1))) := Lib.hid fun m hv =>
      ⟨held_drewN (Held.setCell (W2.drewN m) (show w.heap.size + 3 ≠ w.heap.size + 5 by omega) (show w.heap.size + 3 ≠ w.heap.size + 5 + 1 by omega) (fun h : False => h.elim) _), stN _ _ _ (.inr rfl) (stD _ m i1), (Below.heap_setCell _ _ _ _ (by simp)).trans i2, heap_set (A := W2.drewN m) _ i3, hv⟩
    clear i4 i1 i2 i3 HWI stB stC stU stZ stN stD st0 g2 g3 HSEQ HBD HIN HR hPL I1 I2 I3
    obtain ⟨e1, e2⟩ := HEQ.out
    clear HEQ
    by_cases h0 : ln = []
    · rw [h0] at e1
      have e1' : (lb.toList == []) = true := e1
      have hI := Lib.hid (I4.out.trans (if_pos (.inl h0)))
      clear e1 e2 I4 HZ
      gi_wp2_with fail
      obtain ⟨q1, q2, q3⟩ := HX.out s.size W2 (.inl rfl) hI.out
      exact ⟨q1, rfl, q2, q3⟩
    have e1' : (lb.toList == []) = false := by rw [e1]; exact decide_eq_false h0
    by_cases h1 : ln = [13]
    · rw [h1] at e2
      have e2' : (lb.toList == [13]) = true := e2
      have hI := Lib.hid (I4.out.trans (if_pos (.inr h1)))
      clear e1 e2 I4 HZ
      gi_wp2_with fail
      obtain ⟨q1, q2, q3⟩ := HX.out s.size W2 (.inl rfl) hI.out
      exact ⟨q1, rfl, q2, q3⟩
    have e2' : (lb.toList == [13]) = false := by rw [e2]; exact decide_eq_false h1
    have I5 := Lib.hid (I4.out.trans (if_neg (not_or.2 ⟨h0, h1⟩)))
    clear e1 e2 I4 h0 h1
    by_cases h2 : j = l.fields
    · have hI := Lib.hid (I5.out.trans (if_pos h2))
      have hjl : ((j : Int) == (l.fields : Int)) = true := by rw [beq_iff_eq]; omega
      clear I5 HZ h2
      gi_wp2_with fail
      refine quiet_round (by kernel_rfl) (by kernel_rfl) (by kernel_rfl) ?_
      repeat (gi_big_quiet_step (fail))
      refine wpQuietIn_nil ?_
      rintro _ ⟨nq, rfl⟩
      gi_wp2_with fail
      exact (fun q => ⟨q.1, rfl, q.2.1, q.2.2⟩) (HX.out pa _ (.inr ⟨_, rfl⟩) hI.out)
    have hjl : ((j : Int) == (l.fields : Int)) = false := by rw [beq_eq_false_iff_ne]; omega
    have I6 := Lib.hid (I5.out.trans (if_neg h2))
    clear I5 h2
    have ws : IntKind.i64.wrap ((pa : Int) + (lb.size : Int)) = (pa : Int) + (lb.size : Int) := IntWalk.i64_in _ (by omega)
    have ws2 : IntKind.i64.wrap ((pa : Int) + (lb.size : Int) + 2) = (pa : Int) + (lb.size : Int) + 2 := IntWalk.i64_in _ (by omega)
    by_cases h3 : l.bytes < pa + ln.length + 2
    · have hI := Lib.hid (I6.out.trans (if_pos h3))
      have h3' : (l.bytes : Int) < (pa : Int) + (lb.size : Int) + 2 := by omega
      have hmin : min (l.bytes : Int) (s.size : Int) = ((min l.bytes s.size : Nat) : Int) := by omega
      generalize min l.bytes s.size = mn at *
      clear I6 HZ h3
      gi_wp2_with fail
      refine quiet_round (by kernel_rfl) (by kernel_rfl) (by kernel_rfl) ?_
      repeat (gi_big_quiet_step (fail))
      refine wpQuietIn_nil ?_
      rintro _ ⟨nq, rfl⟩
      gi_wp2_with fail
      gi_region
      all_goals
        gi_wp2_with fail
        exact (fun q => ⟨q.1, rfl, q.2.1, q.2.2⟩) (HX.out mn _ (.inr ⟨nq + 1, rfl⟩) hI.out)
    · have hI := Lib.hid (I6.out.trans (if_neg h3))
      have h3' : ¬ (l.bytes : Int) < (pa : Int) + (lb.size : Int) + 2 := by omega
      clear I6 HX h3
      gi_wp2_with fail
      refine quiet_round (by kernel_rfl) (by kernel_rfl) (by kernel_rfl) ?_
      repeat (gi_big_quiet_step (fail))
      refine wpQuietIn_nil ?_
      rintro _ ⟨nq, rfl⟩
      gi_wp2_with fail
      exact HZ.out _ hI.out
  case done =>
    rintro W ⟨i1, i2, i3, i4⟩ hD
    rw [hPL, List.drop_length] at i4
    have hwi : wi l s.size 0 P = s.size := i4.trans (by simp [wi])
    rw [s0] at hD ⊢
    obtain ⟨⟨x0, x1⟩, x2, x3, x4⟩ := stC W i1
    obtain ⟨x5, y5⟩ := one_cell i2
    have hU := Lib.hid (stU W i1)
    have hZ := stZ W i1
    have I2 := Lib.hid i2
    have HWI := Lib.hid hwi
    clear stB stC stU stZ stN stD st0 g2 g3 i1 i2 i3 i4 hwi HSEQ HBD HIN HR hPL
    go_wp2_with fail
    have hD2 : (W.setCell ⟨w.heap.size + 2, 0, none⟩ (.int .i64 (s.size : Int))).heap[w.heap.size + 5]? = some (.deferred (some [])) := (Below.heap_setCell _ _ _ _ (by simp)).trans hD
    have hbu : But (w.heap.size + 5) (W.setCell ⟨w.heap.size + 2, 0, none⟩ (.int .i64 (s.size : Int))) ((W.setCell ⟨w.heap.size + 2, 0, none⟩ (.int .i64 (s.size : Int))).putObj (w.heap.size + 5) (.deferred none)) := But.putObj _ _ (.inl rfl) _
    have hres := (one_cell (heap_set (i := 0) (.int .i64 (s.size : Int)) I2.out)).1
    refine left_mark rfl hD2 (results_num rfl _ _ (w.heap.size + 2) _ rfl (hbu.cell hres (by simp) (by simp))) ?_ (.inl rfl)
    have hU3 : Below w.heap.size w (W.setCell ⟨w.heap.size + 2, 0, none⟩ (.int .i64 (s.size : Int))) := hU.out.setCell (by simp) _
    exact ⟨by rw [HWI.out], hbu.below hU3 (by omega) hU3.size⟩
  case stop =>
    rintro co j W hj ⟨rfl, i1, i2⟩ hD
    rw [s0] at hD ⊢
    refine wpIn_wide.2 ?_
    have hU := stU W i1
    go_wp2_with fail
    have hbu : But (w.heap.size + 5) W (W.putObj (w.heap.size + 5) (.deferred none)) := But.putObj _ _ (.inl rfl) _
    refine left_mark rfl hD (results_num rfl _ _ (w.heap.size + 2) _ rfl (hbu.cell (one_cell i2).1 (by simp) (by simp))) ?_ (.inl rfl)
    exact ⟨rfl, hbu.below hU (by omega) hU.size⟩

end Go.Proofs.YtilebfpaibajcaaGreatDoor
