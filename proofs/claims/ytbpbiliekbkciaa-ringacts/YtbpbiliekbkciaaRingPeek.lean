/- Peek and Read of the ring. -/
import Derived.Test.YtbpbiliekbkciaaRingParts
namespace Go.Proofs.Ytbpbiliekbkciaa
open Go.ChangeShapes Go.WideShapes Go.ChangeAt Go.RowKit
open Go.Shelf
set_option linter.unusedVariables false
attribute [local go_sem] Oper.semAt_some

theorem peek_own (w : World) (R M N h k : Nat) (cs : List UInt8) (q : Int) (H : RingAt w R M N h k cs) :
    Calls Try.prog 17 #[.pointer (some ⟨R, 0, none⟩), .int .i64 q] w fun e w' => ∃ v, e = .returned v ∧ w'.ownsRow w.heap.size 5 1 v (held cs h (upTo q k)).length (bv (held cs h (upTo q k))) ∧ v.ownBlock = some w.heap.size ∧ Below w.heap.size w w' := by
  have hu : upTo q k ≤ k := by unfold upTo; omega
  have hc := within_any w R M N h k cs q H
  generalize upTo q k = u at hu hc ⊢
  have hk := H.hk
  have hh := H.hh
  have hN := H.hN
  have hRl := H.lt.1
  have hMl := H.lt.2
  have hpa := fun (W : World) (hW : RingAt W R M N h k cs) => partA_rd hW 0 u
  have hpb := fun (W : World) (hW : RingAt W R M N h k cs) => partB_rd hW 0 u (by omega)
  have hAB := parts_held (n := u) cs H.len hh
  generalize (cs.take (pTo N h 0 u)).drop ((h + 0) % N) = A at hpa hAB
  generalize cs.take (pRest N h 0 u) = Bp at hpb hAB
  have hlen : A.length + Bp.length = u := by
    have := held_len cs h u (by rw [H.len]; exact hh) (by rw [H.len]; omega)
    rw [← hAB, List.length_append] at this
    exact this
  have hpar : ∀ j W, j < 2 → RingAt W R M N h k cs → RD W (sel (partA M N h 0 u) (partB M N h 0 u) j) (sel A Bp j) := fun j W hj hW => by
    match j, hj with
    | 0, _ => exact hpa W hW
    | 1, _ => exact hpb W hW
  have hacc : ∀ j, j < 2 → (acc A Bp j).length + (sel A Bp j).length ≤ u := fun j hj => by
    match j, hj with
    | 0, _ => simp [acc, sel]; omega
    | 1, _ => simp [acc, sel]; omega
  have HAB := Lib.hid hAB
  have HPAR := Lib.hid hpar
  have HACC := Lib.hid hacc
  clear hAB hpa hpb hpar hacc
  obtain ⟨i0, hi, hz0, hz1, hz2⟩ := info_parts byte_info
  obtain ⟨w1, hmk, hrow, hg⟩ := run_make_own (P := Try.prog) w w.heap.size 29 5 i0 _ 1 Try.underlying29 hi hz0 hz1 .i64 .i64 u (by rw [hz2]; omega) (by simp only [maxLen]; omega) (Nat.le_refl _)
  have HR := Lib.hid hrow
  have HB : Below w.heap.size w w1 := (Below.refl _ w).grown hg (Nat.le_refl _) (fun k h => by cases h)
  have hBs : w.heap.size < w1.heap.size := (hrow.lt w.heap.size rfl).2
  clear hrow hg
  refine calls_of_marks Try.func17 rfl ?_
  simp only [Try.ntmps17, List.size_toArray, List.length_cons, List.length_nil, Nat.reduceAdd, Nat.reduceSub, Array.replicate_succ, Array.replicate_zero, List.push_toArray, List.append_toArray, List.nil_append, List.cons_append]
  go_wp2_with (first
    | (go_at_call 27; refine hc.mono ?_; rintro e w' ⟨rfl, rfl⟩)
    | (go_at_call 26; refine (parts_any _ R 0 u).mono ?_; rintro e w' ⟨rfl, rfl⟩))
  clear hmk hc
  obtain ⟨B, hB⟩ : ∃ B, w1.heap.size = B := ⟨_, rfl⟩
  rw [hB] at hBs ⊢
  obtain ⟨W0, hW0⟩ : ∃ W0, (((w1.alloc (.cells #[.slice (some ⟨w.heap.size, 0, none⟩) 0 u] 29)).alloc (.cells #[.pointer (some ⟨R, 0, none⟩)] 25)).alloc (.cells #[.int .i64 0] 3)).alloc (.cells #[.int .i64 (u : Int)] 3) = W0 := ⟨_, rfl⟩
  have hs0 : W0.heap.size = B + 4 := by rw [← hW0]; simp [hB]
  have hB0 : Below w1.heap.size w1 W0 := by rw [← hW0]; exact ((((Below.refl _ w1).alloc (Nat.le_refl _) _).alloc (by simp) _).alloc (by simp; omega) _).alloc (by simp; omega) _
  rw [hW0]
  have hb0 : W0.heap[B]? = some (.cells #[.slice (some ⟨w.heap.size, 0, none⟩) 0 u] 29 (0, 0)) := by
    rw [← hW0, ← hB, Below.heap_alloc _ _ _ (by simp; omega), Below.heap_alloc _ _ _ (by simp; omega), Below.heap_alloc _ _ _ (by simp)]
    exact new_one w1 _ _
  have hst : PartsSt (B + 1) R M N h 0 u W0 := by
    have := parts_start ((H.below HB).below ((Below.refl _ w1).alloc (Nat.le_refl _) (.cells #[.slice (some ⟨w.heap.size, 0, none⟩) 0 u] 29))) 0 u
    rw [World.size_alloc, hB] at this
    rw [← hW0]
    exact this
  have hown : W0.ownsRow w.heap.size 5 1 (.slice (some ⟨w.heap.size, 0, none⟩) 0 u) 0 [] := own_same HR.out (fun k hk => hB0.block k (by rw [hB]; cases hk; exact hBs))
  have hRA : RingAt W0 R M N h k cs := H.below (HB.trans (hB0.mono HB.size))
  have hBel : Below w.heap.size w W0 := HB.trans (hB0.mono HB.size)
  clear hW0 hB0
  refine wp_range (wpIn_range (gf := 32) rfl (enters_of Try.func32 (by kernel_rfl) rfl) (parts_seq (B + 1) R M N h 0 u (Nat.zero_le _) (by omega) hN hh) (fun k x hx => ?_)
    (fun j W => W.heap[B]? = some (.cells #[.slice (some ⟨w.heap.size, 0, none⟩) (acc A Bp j).length u] 29 (0, 0)) ∧
      W.ownsRow w.heap.size 5 1 (.slice (some ⟨w.heap.size, 0, none⟩) (acc A Bp j).length u) (acc A Bp j).length (bv (acc A Bp j)) ∧
      PartsSt (B + 1) R M N h 0 u W ∧ RingAt W R M N h k cs ∧ Below w.heap.size w W)
    (fun _ _ _ => False) ?_ (fun _ _ _ _ h _ => h) (fun _ _ h => h.2.2.1) ⟨hb0, hown, hst, hRA, hBel⟩
    (fun j => { tmps := #[.pointer (some ⟨R, 0, none⟩), .int .i64 (u : Int), undef, undef, .slice none 0 0, .pointer (some ⟨B, 0, none⟩), sel (partA M N h 0 u) (partB M N h 0 u) j, .pointer (some ⟨R, 0, none⟩), .int .i64 q, .int .i64 (u : Int), .int .i64 (u : Int), .slice (some ⟨w.heap.size, 0, none⟩) 0 u,
      .pointer (some ⟨R, 0, none⟩), .int .i64 (u : Int), .func (.func 32) #[] #[.pointer (some ⟨B + 1, 0, none⟩), .pointer (some ⟨B + 1 + 1, 0, none⟩), .pointer (some ⟨B + 1 + 2, 0, none⟩)], sel (partA M N h 0 u) (partB M N h 0 u) j, undef, undef, undef, undef], defers := [] }) ?assign ?body ?done ?stop)
  · obtain ⟨rfl, _⟩ := sel_of hx
    match k with
    | 0 => rfl
    | k + 1 => rfl
  · rintro j W W' ⟨h1, h2, h3, h4, h5⟩ hb
    rw [hs0] at hb
    exact ⟨hb.heap h1 (by omega) (by omega), own_same h2 (fun g hk => by obtain rfl : w.heap.size = g := Option.some.inj hk; exact hb.block _ (by have := (h2.lt _ rfl).2; omega) (by omega) (by omega)), h3.but hb (by omega) (by omega),
      h4.kept (hb.block _ h4.lt.1 (by omega) (by omega)) (hb.block _ h4.lt.2 (by omega) (by omega)), hb.below h5 (by omega) h5.size⟩
  case assign =>
    intro j x W K hx hK
    obtain ⟨rfl, hj⟩ := sel_of hx
    have e : sel #[partA M N h 0 u] #[partB M N h 0 u] j = #[sel (partA M N h 0 u) (partB M N h 0 u) j] := by
      match j with
      | 0 => rfl
      | j + 1 => rfl
    rw [e]
    gi_wp2_with fail
    exact hK
  case body =>
    rintro j W ⟨h1, h2, h3, h4, h5⟩ hj hsz
    rw [hs0] at hsz
    obtain ⟨c1, c2⟩ := one_cell h1
    have hrd := HPAR.out j W hj h4
    have hfit := HACC.out j hj
    gi_wp2_with (gi_at_builtin; refine wpListIn_append_fit rfl (.tmp 16) (.tmp 17) rfl w.heap.size w.heap.size u _ (acc A Bp j) (sel A Bp j) rfl rfl h2 hrd hfit ?_; intro w2 ho2 hg2; have d1 := hg2.cell c1 (by simp; omega); have d2 : w2.frozen? ⟨B, 0, none⟩ = false := (World.frozen?_of_block (hg2.block B (by omega) (by simp; omega))).trans c2)
    rw [hs0]
    have hHg : Held (B + 4) False W w2 := Held.grown hg2 hsz (by simp; omega) (by simp; omega) (fun h => h.elim)
    have ho : ∀ r, r < W.heap.size → r ≠ w.heap.size → r ≠ B → (w2.setCell ⟨B, 0, none⟩ (.slice (some ⟨w.heap.size, 0, none⟩) ((acc A Bp j).length + (sel A Bp j).length) u)).heap[r]? = W.heap[r]? := fun r hr h1 h2 =>
      (Below.heap_setCell _ _ _ _ h2).trans (hg2.block r hr (by simpa using h1))
    have hw2 : w.heap.size ≤ w2.heap.size := Nat.le_trans h5.size hg2.size
    have hlt : w.heap.size < W.heap.size := (h2.lt _ rfl).2
    refine ⟨hHg.trans (Held.setCell _ (show B ≠ B + 4 by omega) (show B ≠ B + 4 + 1 by omega) (fun h => h.elim) _), ?_, ?_, ?_, ?_, ?_⟩
    · refine (heap_set _ (hg2.block B (by omega) (by simp; omega) |>.trans h1)).trans ?_
      rw [acc_succ A Bp j hj, List.length_append]; rfl
    · rw [acc_succ A Bp j hj]
      refine own_same ho2 (fun g hk => ?_)
      obtain rfl : w.heap.size = g := Option.some.inj hk
      exact Below.heap_setCell _ _ _ _ (by simp; omega)
    · exact h3.same (ho _ (by omega) (by omega) (by omega)) (ho _ (by omega) (by omega) (by omega)) (ho _ (by omega) (by omega) (by omega)) (ho _ (by omega) (by omega) (by omega))
    · exact h4.kept (ho _ (by omega) (by omega) (by omega)) (ho _ (by omega) (by omega) (by omega))
    · exact (h5.grown hg2 h5.size (fun k hk => by cases hk; exact Nat.le_refl _)).setCell (by simp; omega) _
  case done =>
    rintro W ⟨h1, h2, h3, h4, h5⟩ hD
    rw [hs0] at hD ⊢
    obtain ⟨c1, c2⟩ := one_cell h1
    go_wp2_with fail
    refine left_mark rfl hD (results_tmp rfl _ _ _) ?_ (.inl rfl)
    have hlt : w.heap.size < W.heap.size := (h2.lt _ rfl).2
    have hb : But (B + 4) W (W.putObj (B + 4) (.deferred none)) := But.putObj _ _ (.inl rfl) _
    refine ⟨_, rfl, ?_, rfl, hb.below h5 (by omega) h5.size⟩
    have := own_same (B := W.putObj (B + 4) (.deferred none)) h2 (fun g hk => by obtain rfl : w.heap.size = g := Option.some.inj hk; exact hb.block _ hlt (by omega) (by omega))
    rw [← HAB.out]
    exact this
  case stop =>
    rintro c j W _ h _
    exact h.elim

theorem peek_any (w : World) (R M N h k : Nat) (cs : List UInt8) (q : Int) (H : RingAt w R M N h k cs) :
    Calls Try.prog 17 #[.pointer (some ⟨R, 0, none⟩), .int .i64 q] w fun e w' => ∃ v, e = .returned v ∧ RD w' v (held cs h (upTo q k)) ∧ v.ownBlock = some w.heap.size ∧ Below w.heap.size w w' :=
  (peek_own w R M N h k cs q H).mono fun e w' ⟨v, h1, h2, h3, h4⟩ => ⟨v, h1, RD.of_own h2, h3, h4⟩

theorem read_any (w : World) (R M N h k : Nat) (cs : List UInt8) (q : Int) (H : RingAt w R M N h k cs) :
    Calls Try.prog 16 #[.pointer (some ⟨R, 0, none⟩), .int .i64 q] w fun e w' => ∃ v, e = .returned v ∧ RD w' v (held cs h (upTo q k)) ∧ v.ownBlock = some w.heap.size ∧ RingAt w' R M N ((h + upTo q k) % N) (k - upTo q k) cs ∧ Only R M w w' := by
  have hp := peek_any w R M N h k cs q H
  have HH := Lib.hid H
  have hl := H.lt
  clear H
  go_enter Try.func16, Try.ntmps16
  go_wp2_with fail
  refine hp.mono ?_
  rintro e w1 ⟨v, rfl, hr1, hr2, hr3⟩
  have H1 := HH.out.below hr3
  have hd := drop_any w1 R M N h k cs q H1
  have HR := Lib.hid hr1
  clear hr1 H1 hp
  go_wp2_with fail
  refine hd.mono ?_
  rintro e w2 ⟨rfl, hd1, hd2⟩
  go_wp2_with fail
  go_ret
  exact ⟨v, rfl, hd2.rd HR.out (by rw [hr2]; simp; omega) (by rw [hr2]; simp; omega), hr2, hd1, (Only.of_below hr3).trans hd2⟩

end Go.Proofs.Ytbpbiliekbkciaa
