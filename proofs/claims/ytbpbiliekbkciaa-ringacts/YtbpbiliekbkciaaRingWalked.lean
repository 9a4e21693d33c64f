/- The law's helper walked. -/
import Derived.Test.YtbpbiliekbkciaaRingStops
namespace Go.Proofs.Ytbpbiliekbkciaa
open Go.ChangeShapes Go.WideShapes Go.ChangeAt Go.RowKit
open Go.Shelf
set_option linter.unusedVariables false
attribute [local go_sem] Oper.semAt_some

set_option maxRecDepth 20000 in
set_option maxHeartbeats 2000000 in
theorem walked_any (w : World) (R M N h k : Nat) (cs : List UInt8) (H : RingAt w R M N h k cs) (p : Option Addr) (l c : Nat) (hx : RD w (.slice p l c) (held cs h k)) :
    Calls Try.prog 19 #[.pointer (some ⟨R, 0, none⟩), refV N h (.slice p l c)] w fun e w' => e = .returned (.bool true) ∧ Below w.heap.size w w' := by
  have hlen : (held cs h k).length = k := held_len cs h k (by rw [H.len]; exact H.hh) (by rw [H.len]; exact H.hk)
  have h1 := hx.len
  rw [hlen] at h1
  subst h1
  have hk := H.hk
  have hh := H.hh
  have hN := H.hN
  have hrl := H.lt
  unfold refV
  refine calls_of_marks Try.func19 rfl ?_
  simp only [Try.ntmps19, List.size_toArray, List.length_cons, List.length_nil, Nat.reduceAdd, Nat.reduceSub, Array.replicate_succ, Array.replicate_zero, List.push_toArray, List.append_toArray, List.nil_append, List.cons_append]
  have hnf := neq_fn
  go_wp2_with (go_at_call 22; refine (all_any _ R).mono ?_; rintro e w' ⟨rfl, rfl⟩)
  clear hnf
  obtain ⟨W0, hW0⟩ : ∃ W0, (((w.alloc (.cells #[.int .i64 (N : Int), .int .i64 (h : Int), .slice p l c] 31)).alloc (.cells #[.bool false] 4)).alloc (.cells #[.int .i64 0] 3)).alloc (.cells #[.pointer (some ⟨R, 0, none⟩)] 25) = W0 := ⟨_, rfl⟩
  have s0 : W0.heap.size = w.heap.size + 4 := by rw [← hW0]; simp
  have bW : Below w.heap.size w W0 := by rw [← hW0]; exact ((((Below.refl _ w).alloc (Nat.le_refl _) _).alloc (by simp) _).alloc (by simp; omega) _).alloc (by simp; omega) _
  have g0 : W0.heap[w.heap.size]? = some (.cells #[.int .i64 (N : Int), .int .i64 (h : Int), .slice p l c] 31 (0, 0)) := by
    rw [← hW0, Below.heap_alloc _ _ _ (by simp <;> omega), Below.heap_alloc _ _ _ (by simp <;> omega), Below.heap_alloc _ _ _ (by simp)]; exact World.alloc_heap_new w _
  have g1 : W0.heap[w.heap.size + 1]? = some (.cells #[.bool false] 4 (0, 0)) := by
    rw [← hW0, Below.heap_alloc _ _ _ (by simp <;> omega), Below.heap_alloc _ _ _ (by simp)]; exact heap_alloc2_new w _ _
  have g2 : W0.heap[w.heap.size + 2]? = some (.cells #[.int .i64 0] 3 (0, 0)) := by
    rw [← hW0, Below.heap_alloc _ _ _ (by simp)]
    have := heap_alloc2_new (w.alloc (.cells #[.int .i64 (N : Int), .int .i64 (h : Int), .slice p l c] 31)) (.cells #[.bool false] 4) (.cells #[.int .i64 0] 3)
    rw [World.size_alloc] at this
    exact this
  have g3 : W0.heap[w.heap.size + 3]? = some (.cells #[.pointer (some ⟨R, 0, none⟩)] 25 (0, 0)) := by
    have := World.alloc_heap_new (((w.alloc (.cells #[.int .i64 (N : Int), .int .i64 (h : Int), .slice p l c] 31)).alloc (.cells #[.bool false] 4)).alloc (.cells #[.int .i64 0] 3)) (.cells #[.pointer (some ⟨R, 0, none⟩)] 25)
    rw [hW0] at this
    rw [← this]; simp
  rw [hW0]
  clear hW0
  have hr := H.below bW
  have hv := hx.below bW
  have hvl : held cs h l ≠ [] → ∀ g, (Value.slice p l c).ownBlock = some g → g < w.heap.size := fun he g hg => by
    obtain ⟨g', e1, e2⟩ := hx.lt he
    rw [hg] at e1
    cases e1
    exact e2
  obtain ⟨Stay, hStay⟩ : ∃ Stay : World → Prop, Stay = fun W => (∀ r, r < w.heap.size + 4 → r ≠ w.heap.size + 2 → W.heap[r]? = W0.heap[r]?) ∧ W.os = W0.os ∧ W.tape = W0.tape ∧ W.output = W0.output ∧ w.heap.size + 4 ≤ W.heap.size := ⟨_, rfl⟩
  have st0 : Stay W0 := by rw [hStay]; exact ⟨fun _ _ _ => rfl, rfl, rfl, rfl, by omega⟩
  have stB : ∀ A B, Stay A → But (w.heap.size + 4) A B → Stay B := by
    rw [hStay]
    exact fun A B hA hB => ⟨fun r h1 h2 => (hB.block r (by have := hA.2.2.2.2; omega) (by omega) (by omega)).trans (hA.1 r h1 h2), hB.os.trans hA.2.1, hB.tape.trans hA.2.2.1, hB.output.trans hA.2.2.2.1, by have := hB.size; have := hA.2.2.2.2; omega⟩
  have stR : ∀ W, Stay W → RingAt W R M N h l cs := by
    rw [hStay]
    exact fun W hW => hr.kept (hW.1 _ (by omega) (by omega)) (hW.1 _ (by omega) (by omega))
  have stV : ∀ W, Stay W → RD W (.slice p l c) (held cs h l) := by
    rw [hStay]
    exact fun W hW => hv.keep (fun hne g hg => hW.1 g (by have := hvl hne g hg; omega) (by have := hvl hne g hg; omega))
  have stC : ∀ W, Stay W → (W.cell? ⟨w.heap.size, 0, none⟩ = some (.int .i64 (N : Int)) ∧ W.cell? ⟨w.heap.size, 1, none⟩ = some (.int .i64 (h : Int)) ∧ W.cell? ⟨w.heap.size, 2, none⟩ = some (.slice p l c) ∧ ∀ i, W.frozen? ⟨w.heap.size, i, none⟩ = false) ∧
      (W.cell? ⟨w.heap.size + 1, 0, none⟩ = some (.bool false) ∧ W.frozen? ⟨w.heap.size + 1, 0, none⟩ = false) ∧ W.cell? ⟨w.heap.size + 3, 0, none⟩ = some (.pointer (some ⟨R, 0, none⟩)) := by
    rw [hStay]
    exact fun W hW => ⟨three_cells ((hW.1 _ (by omega) (by omega)).trans g0), one_cell ((hW.1 _ (by omega) (by omega)).trans g1), (one_cell ((hW.1 _ (by omega) (by omega)).trans g3)).1⟩
  have stU : ∀ W, Stay W → Below w.heap.size w W := by
    rw [hStay]
    exact fun W hW => bW.trans ⟨hW.2.1, hW.2.2.1, hW.2.2.2.1, by have := hW.2.2.2.2; omega, fun r hr => hW.1 r (by omega) (by omega)⟩
  have stN : ∀ W v, Stay W → Stay (W.setCell ⟨w.heap.size + 2, 0, none⟩ v) := by
    rw [hStay]
    exact fun W v hW => ⟨fun r h1 h2 => (Below.heap_setCell _ _ _ _ h2).trans (hW.1 r h1 h2), hW.2.1, hW.2.2.1, hW.2.2.2.1, by simp [World.setCell]; exact hW.2.2.2.2⟩
  have hseq := all_seq (w.heap.size + 3) R M N h l cs
  have hpl : (pairs N h (held cs h l)).length = l := by rw [pairs_len, hlen]
  have HPL := Lib.hid hpl
  have HLN := Lib.hid hlen
  clear hpl hlen hv hvl hr hStay hx H g0 g1 g3
  refine wp_range (wpIn_rangeR (gf := 29) rfl (enters_of Try.func29 (by kernel_rfl) rfl) hseq (fun j x hx => ?_)
    (fun j W => Stay W ∧ W.heap[w.heap.size + 2]? = some (.cells #[.int .i64 (j : Int)] 3 (0, 0)))
    (fun co j W => False)
    ?_ (fun _ _ _ _ h _ => h) (fun j W h => ⟨(stC W h.1).2.2, stR W h.1⟩) ⟨st0, g2⟩ ?round ?done ?stop)
  · have hlt := (List.getElem?_eq_some_iff.1 hx).1
    rw [pairs_len] at hlt
    rw [pairs_get N h _ j _ (List.getElem?_eq_getElem hlt)] at hx
    cases hx
    rfl
  · rintro j A B ⟨i1, i2⟩ hB
    rw [s0] at hB
    exact ⟨stB A B i1 hB, hB.heap i2 (by omega) (by omega)⟩
  case round =>
    rintro j x W hx - -
    have hlt := (List.getElem?_eq_some_iff.1 hx).1
    rw [pairs_len] at hlt
    have hbj := List.getElem?_eq_getElem hlt
    rw [pairs_get N h _ j _ hbj] at hx
    cases hx
    have hcl := fun W2 (i1 : Stay W2) => (stV W2 i1).cellAt hlt
    generalize (held cs h l)[j] = bb at hcl ⊢
    rw [HLN.out] at hlt
    clear hbj
    gi_wp2_with fail
    refine ⟨trivial, ?_⟩
    rintro W2 ⟨i1, i2⟩ hsz
    rw [s0] at hsz ⊢
    obtain ⟨⟨x0, x1, x2, x3⟩, ⟨y0, y1⟩, z0⟩ := stC W2 i1
    obtain ⟨x4, y4⟩ := one_cell i2
    have hlt' : (j : Int) < (l : Int) := by omega
    have hz : ¬ (N = 0) := by omega
    have hw0 : IntKind.i64.wrap ((h : Int) + (j : Int)) = (h : Int) + (j : Int) := IntWalk.i64_in _ (by omega)
    have htm : ((h : Int) + (j : Int)).tmod (N : Int) = ((h : Int) + (j : Int)) % (N : Int) := Int.tmod_eq_emod_of_nonneg (by omega)
    have hwr : IntKind.i64.wrap ((j : Int) + 1) = (j : Int) + 1 := IntWalk.i64_in _ (by omega)
    obtain ⟨ad, rfl, hcell⟩ := hcl W2 i1
    have hend : Held (w.heap.size + 4) True W2 (W2.setCell ⟨w.heap.size + 2, 0, none⟩ (.int .i64 ((j : Int) + 1))) ∧ Stay (W2.setCell ⟨w.heap.size + 2, 0, none⟩ (.int .i64 ((j : Int) + 1))) ∧
        (W2.setCell ⟨w.heap.size + 2, 0, none⟩ (.int .i64 ((j : Int) + 1))).heap[w.heap.size + 2]? = some (.cells #[.int .i64 ((j + 1 : Nat) : Int)] 3 (0, 0)) := by
      refine ⟨Held.setCell _ (show w.heap.size + 2 ≠ w.heap.size + 4 by omega) (show w.heap.size + 2 ≠ w.heap.size + 4 + 1 by omega) (fun _ => show w.heap.size + 2 < w.heap.size + 4 by omega) _, stN _ _ i1, ?_⟩
      refine (heap_set _ i2).trans ?_
      simp
    have HE := Lib.hid hend
    clear hend hcl stB stR stV stC stN stU st0 hseq
    gi_wp2_with fail
    exact HE.out
  case done =>
    rintro W ⟨i1, i2⟩ hD
    rw [HPL.out] at i2
    rw [s0] at hD ⊢
    obtain ⟨⟨x0, x1, x2, x3⟩, ⟨y0, y1⟩, z0⟩ := stC W i1
    obtain ⟨x4, y4⟩ := one_cell i2
    have hU := stU W i1
    clear stB stR stV stC stN stU st0 hseq
    go_wp2_with fail
    have hD2 : (W.setCell ⟨w.heap.size + 1, 0, none⟩ (.bool true)).heap[w.heap.size + 4]? = some (.deferred (some [])) := (Below.heap_setCell _ _ _ _ (by simp)).trans hD
    have hbu : But (w.heap.size + 4) (W.setCell ⟨w.heap.size + 1, 0, none⟩ (.bool true)) ((W.setCell ⟨w.heap.size + 1, 0, none⟩ (.bool true)).putObj (w.heap.size + 4) (.deferred none)) := But.putObj _ _ (.inl rfl) _
    have hres : (W.setCell ⟨w.heap.size + 1, 0, none⟩ (.bool true)).cell? ⟨w.heap.size + 1, 0, none⟩ = some (.bool true) := World.cell?_setCell_same' _ _ _ (by rw [y0]; rfl)
    refine left_mark rfl hD2 (results_bool rfl _ _ (w.heap.size + 1) true rfl (hbu.cell hres (by simp) (by simp))) ?_ (.inl rfl)
    have hU2 : Below w.heap.size w (W.setCell ⟨w.heap.size + 1, 0, none⟩ (.bool true)) := hU.setCell (by simp) _
    exact ⟨rfl, hbu.below hU2 (by omega) hU2.size⟩
  case stop =>
    rintro co j W _ h _
    exact h.elim

end Go.Proofs.Ytbpbiliekbkciaa
