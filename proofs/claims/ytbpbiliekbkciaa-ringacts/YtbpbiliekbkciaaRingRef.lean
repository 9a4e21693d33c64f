/- The document's ring: Same, First, Write, Read of the package ref03. -/
import Derived.Test.YtbpbiliekbkciaaRingSmall
import Derived.Test.YtbpbiliekbkciaaRingMath
import Derived.Laws.ResultCell
namespace Go.Proofs.Ytbpbiliekbkciaa
open Go.ChangeShapes Go.WideShapes Go.ChangeAt Go.RowKit
set_option linter.unusedVariables false

theorem RD.cellAt {W : World} {p : Option Addr} {l c : Nat} {xs : List UInt8} (h : RD W (.slice p l c) xs) {i : Nat} (hi : i < xs.length) : ∃ ad, p = some ad ∧ W.cell? (ad.add i) = some (.int .u8 (xs[i].toNat : Int)) := by
  obtain ⟨_, _, e, h1, h2, h3, h4⟩ := h
  cases e
  cases p with
  | none => have := h3 rfl; omega
  | some ad => exact ⟨ad, rfl, h4 ad rfl i _ (List.getElem?_eq_getElem hi)⟩
theorem RD.drewN {W : World} {v : Value} {xs : List UInt8} (h : RD W v xs) (m : Nat) : RD (W.drewN m) v xs := h.kept fun _ _ => rfl
theorem take_eq_succ {xs ys : List UInt8} {i : Nat} (h1 : i < xs.length) (h2 : i < ys.length) (h : xs.take i = ys.take i) (e : xs[i] = ys[i]) : xs.take (i + 1) = ys.take (i + 1) := by
  rw [List.take_succ_eq_append_getElem h1, List.take_succ_eq_append_getElem h2, h, e]

theorem same_any (w : World) (p q : Option Addr) (l c m d : Nat) (xs ys : List UInt8) (hx : RD w (.slice p l c) xs) (hy : RD w (.slice q m d) ys) :
    Calls Try.prog 15 #[.slice p l c, .slice q m d] w fun e w' => e = .returned (.bool (decide (xs = ys))) ∧ ∃ m, w' = w.drewN m := by
  have h1 := hx.len
  have h2 := hy.len
  subst h1
  subst h2
  by_cases hl : xs.length = ys.length
  · have hi : (xs.length : Int) ≤ 9223372036854775807 := by
      obtain ⟨_, _, e, h1, h2, _⟩ := hx
      cases e
      simp only [maxLen] at h2
      omega
    have HX := Lib.hid hx
    have HY := Lib.hid hy
    have HL := Lib.hid hl
    rw [← hl]
    clear hx hy hl
    go_enter Try.func15, Try.ntmps15
    go_wp2_with fail
    go_loopw [5] (fun i wr => ∃ (n u : Nat), i = .int .i64 (n : Int) ∧ n ≤ xs.length ∧ Hid (xs.take n = ys.take n) ∧ wr = w.drewN u) (fun i _ => xs.length - (intOf i).toNat)
    case atStart => exact ⟨0, 0, rfl, Nat.zero_le _, Lib.hid rfl, rfl⟩
    case round =>
      obtain ⟨n, u, rfl, hn, ht, rfl⟩ := hrel
      by_cases hlt : n < xs.length
      · have hlt2 : n < ys.length := by rw [← HL.out]; exact hlt
        obtain ⟨a1, rfl, e1⟩ := HX.out.cellAt hlt
        obtain ⟨a2, rfl, e2⟩ := HY.out.cellAt hlt2
        have g1 : (n : Int) < (xs.length : Int) := by omega
        by_cases he : xs[n] = ys[n]
        · have HT := Lib.hid (take_eq_succ hlt hlt2 ht.out he)
          rw [← he] at e2
          clear he
          generalize xs[n] = bb at e1 e2
          go_wp2_with fail
          go_quiet (fail)
          go_wp2_with fail
          go_roundw
          case rel => exact ⟨n + 1, _, by go_num, by omega, HT, rfl⟩
          case measure => simp [intOf]; omega
        · have hf : xs ≠ ys := fun e => he (by subst e; rfl)
          have hne : ¬ ((xs[n].toNat : Int) = (ys[n].toNat : Int)) := fun e => he (UInt8.toNat_inj.1 (by omega))
          have HF := Lib.hid hf
          clear he hf
          generalize xs[n] = bb at e1 hne
          generalize ys[n] = bc at e2 hne
          go_wp2_with fail
          go_quiet (fail)
          go_wp2_with fail
          go_ret
          exact ⟨by rw [decide_eq_false HF.out]; rfl, u + nq, by simp⟩
      · obtain rfl : n = xs.length := by omega
        have he : xs = ys := by
          have := ht.out
          rw [List.take_length, HL.out, List.take_length] at this
          exact this
        have HE := Lib.hid he
        clear he hn hlt
        go_wp2_with fail
        go_ret
        exact ⟨by rw [decide_eq_true HE.out]; rfl, _, rfl⟩
  · have hf : xs ≠ ys := fun e => hl (by rw [e])
    have hne : ¬ ((xs.length : Int) = (ys.length : Int)) := by omega
    have HF := Lib.hid hf
    clear hl hf hx hy
    go_enter Try.func15, Try.ntmps15
    go_wp2_with fail
    go_ret
    exact ⟨by rw [decide_eq_false HF.out]; rfl, 0, rfl⟩

/-- The document's ring as a value. -/
def refV (N h : Nat) (v : Value) : Value := .agg #[.int .i64 (N : Int), .int .i64 (h : Int), v]

theorem first_any (w : World) (N h : Nat) (p : Option Addr) (l c : Nat) (xs : List UInt8) (hx : RD w (.slice p l c) xs) (hh : h < N) (hN : N ≤ 65536) :
    Calls Try.prog 25 #[refV N h (.slice p l c)] w fun e w' => e = .returned (.int .i64 (min xs.length (N - h) : Nat)) ∧ Below w.heap.size w w' := by
  have h1 := hx.len
  subst h1
  have hi : (xs.length : Int) ≤ 9223372036854775807 := by
    obtain ⟨_, _, e, h1, h2, _⟩ := hx
    cases e
    simp only [maxLen] at h2
    omega
  clear hx
  unfold refV
  by_cases hg : (N : Int) - (h : Int) < (xs.length : Int)
  · go_enter Try.func25, Try.ntmps25
    go_wp2_with fail
    go_ret
    refine ⟨?_, (Below.refl _ w).alloc (Nat.le_refl _) _⟩
    go_num
  · go_enter Try.func25, Try.ntmps25
    go_wp2_with fail
    go_ret
    refine ⟨?_, (Below.refl _ w).alloc (Nat.le_refl _) _⟩
    go_num

/-- A block of three cells. -/
theorem three_cells {A : World} {R : Nat} {x y z : Value} {t : TypeId} (h : A.heap[R]? = some (.cells #[x, y, z] t (0, 0))) :
    A.cell? ⟨R, 0, none⟩ = some x ∧ A.cell? ⟨R, 1, none⟩ = some y ∧ A.cell? ⟨R, 2, none⟩ = some z ∧ ∀ i, A.frozen? ⟨R, i, none⟩ = false := by
  simp [World.cell?, World.frozen?, h]

theorem results_row_tmp {P : Program} {fn : Func} {p u : Tmp} {ty : TypeId} (h : fn.results = #[.cell p ty, .tmp u]) (tmps : Array Value) (w : World) (g : Nat) (t : TypeId) (cs : Array Value) (fr : Nat × Nat) (d : TypeDesc)
    (hp : tmps.getD p undef = .pointer (some ⟨g, 0, none⟩)) (hg : w.heap[g]? = some (.cells cs t fr))
    (hu : P.underlying ty = some d) (hd : (match d with | .struct _ | .array _ _ => true | _ => false) = true) (hi : (P.info? ty).map (·.size) = some cs.size) :
    (results fn tmps).run P w = .ok (.tuple #[.agg cs, tmps.getD u undef]) w := by
  rw [results_cell_tmp h]
  simp [hp, asAddr, run_loadVar_row w g t ty cs fr d hg hu hd hi, Result.andThen]

/-- The two appends of the document's Write. -/
theorem rwrite_core (w : World) (N h n : Nat) (p q : Option Addr) (c d : Nat) (xs ys : List UInt8) (hx : RD w (.slice p xs.length c) xs) (hy : RD w (.slice q ys.length d) ys) (hn : n ≤ ys.length) (hl : xs.length + n ≤ 65536) :
    ∃ v1 w2 p2 l2 c2 w3, (Builtin.append_ #[29, 29] 29 #[.slice none 0 0, .slice p xs.length c]).run Try.prog ((w.alloc (.cells #[.int .i64 (N : Int), .int .i64 (h : Int), .slice p xs.length c] 31)).alloc (.cells #[.int .i64 0, .int .i64 0, .slice none 0 0] 31)) = .ok v1 w2 ∧
      (Builtin.append_ #[29, 29] 29 #[v1, sliced q 0 n d 1]).run Try.prog w2.drew = .ok (.slice p2 l2 c2) w3 ∧
      (w2.heap[w.heap.size]? = some (.cells #[.int .i64 (N : Int), .int .i64 (h : Int), .slice p xs.length c] 31 (0, 0)) ∧ w2.heap[w.heap.size + 1]? = some (.cells #[.int .i64 0, .int .i64 0, .slice none 0 0] 31 (0, 0))) ∧
      (w3.heap[w.heap.size]? = some (.cells #[.int .i64 (N : Int), .int .i64 (h : Int), .slice p xs.length c] 31 (0, 0)) ∧ w3.heap[w.heap.size + 1]? = some (.cells #[.int .i64 0, .int .i64 0, .slice none 0 0] 31 (0, 0))) ∧
      RD w3 (.slice p2 l2 c2) (xs ++ ys.take n) ∧ (∀ g, (Value.slice p2 l2 c2).ownBlock = some g → w.heap.size + 2 ≤ g) ∧ Below w.heap.size w w3 := by
  obtain ⟨w1, hw1⟩ : ∃ w1, (w.alloc (.cells #[.int .i64 (N : Int), .int .i64 (h : Int), .slice p xs.length c] 31)).alloc (.cells #[.int .i64 0, .int .i64 0, .slice none 0 0] 31) = w1 := ⟨_, rfl⟩
  have s1 : w1.heap.size = w.heap.size + 2 := by rw [← hw1]; simp
  have b1 : Below w.heap.size w w1 := by rw [← hw1]; exact ((Below.refl _ w).alloc (Nat.le_refl _) _).alloc (by simp) _
  have e0 : w1.heap[w.heap.size]? = some (.cells #[.int .i64 (N : Int), .int .i64 (h : Int), .slice p xs.length c] 31 (0, 0)) := by rw [← hw1]; exact (Below.heap_alloc _ _ _ (by simp)).trans (World.alloc_heap_new w _)
  have e1 : w1.heap[w.heap.size + 1]? = some (.cells #[.int .i64 0, .int .i64 0, .slice none 0 0] 31 (0, 0)) := by
    have := World.alloc_heap_new (w.alloc (.cells #[.int .i64 (N : Int), .int .i64 (h : Int), .slice p xs.length c] 31)) (.cells #[.int .i64 0, .int .i64 0, .slice none 0 0] 31)
    rw [World.size_alloc, hw1] at this
    exact this
  rw [hw1]
  obtain ⟨v1, w2, r0, r1, r2⟩ := run_append_rd w1 29 (w.heap.size + 2) (.slice none 0 0) (.slice p xs.length c) 0 [] xs (World.ownsRow_nil _ _ _ _) (hx.below b1) (by simp; omega) (by omega)
  rw [List.nil_append] at r1
  have b2 : Below w1.heap.size w1 w2 := (Below.refl _ w1).grown r2 (Nat.le_refl _) (fun k e => by cases e)
  have b12 : Below w.heap.size w w2 := b1.trans (b2.mono b1.size)
  have hy2 : RD w2.drew (sliced q 0 n d 1) (ys.take n) := by
    have := (hy.below b12).part (i := 0) (j := n) (m := d) (Nat.zero_le _) hn (by obtain ⟨_, _, e, h1, _⟩ := hy; cases e; omega) (Nat.le_refl _)
    rw [List.drop_zero] at this
    exact this.kept (fun _ _ => rfl)
  have r1' : w2.drew.ownsRow (w.heap.size + 2) 5 1 v1 xs.length (bv xs) := own_same r1 (fun _ _ => rfl)
  obtain ⟨v2, w3, t0, t1, t2⟩ := run_append_rd w2.drew 29 (w.heap.size + 2) v1 (sliced q 0 n d 1) xs.length xs (ys.take n) r1' hy2 (by simp; omega) (by have := b2.size; simp; omega)
  have hv1 : ∀ g, v1.ownBlock = some g → w.heap.size + 2 ≤ g := fun g hg => (r1.lt g hg).1
  have k2 : ∀ r, r < w.heap.size + 2 → w3.heap[r]? = w2.heap[r]? := fun r hr => (t2.block r (by have := b2.size; simp; omega) (fun e => by have := hv1 r e.symm; omega))
  obtain ⟨p2, l2, c2, rfl⟩ := own_slice t1
  have j0 := (b2.block _ (by omega)).trans e0
  have j1 := (b2.block _ (by omega)).trans e1
  refine ⟨v1, w2, p2, l2, c2, w3, r0, t0, ⟨j0, j1⟩, ⟨(k2 _ (by omega)).trans j0, (k2 _ (by omega)).trans j1⟩, RD.of_own t1, fun g hg => (t1.lt g hg).1, ?_⟩
  exact b12.trans ⟨t2.os, t2.tape, t2.output, t2.size, fun r hr => k2 r (by omega)⟩

set_option maxHeartbeats 2000000 in
theorem rwrite_any (w : World) (N h : Nat) (p q : Option Addr) (l c m d : Nat) (xs ys : List UInt8) (hx : RD w (.slice p l c) xs) (hy : RD w (.slice q m d) ys) (hN : N ≤ 65536) (hl : xs.length ≤ N) :
    Calls Try.prog 12 #[refV N h (.slice p l c), .slice q m d] w fun e w' => ∃ v, e = .returned (.tuple #[refV N h v, .int .i64 (min ys.length (N - xs.length) : Nat)]) ∧ RD w' v (xs ++ ys.take (min ys.length (N - xs.length))) ∧ (∀ g, v.ownBlock = some g → w.heap.size + 2 ≤ g) ∧ Below w.heap.size w w' := by
  have h1 := hx.len
  subst h1
  have h2 := hy.len
  subst h2
  have hd : ys.length ≤ d ∧ d ≤ 9223372036854775807 := by
    obtain ⟨_, _, e, h1, h2, _⟩ := hy
    cases e
    simp only [maxLen] at h2
    exact ⟨h1, by omega⟩
  obtain ⟨n, hn⟩ : ∃ n, n = min ys.length (N - xs.length) := ⟨_, rfl⟩
  rw [← hn]
  obtain ⟨v1, w2, p2, l2, c2, w3, r0, t0, ⟨j0, j1⟩, ⟨k0, k1⟩, hrd, hfr, hb⟩ := rwrite_core w N h n p q c d xs ys hx hy (by omega) (by omega)
  have hcut := cut_h q ys.length d n (by omega)
  generalize sliced q 0 n d 1 = sv at t0 hcut
  obtain ⟨x0, x1, x2, x3⟩ := three_cells j0
  obtain ⟨y0, y1, y2, y3⟩ := three_cells k0
  obtain ⟨z0, z1, z2, z3⟩ := three_cells k1
  have HR := Lib.hid hrd
  have HF := Lib.hid hfr
  have HT := Lib.hid t0
  have HS := Lib.hid r0
  have K1 := Lib.hid k1
  clear hrd hfr t0 r0 hx hy j0 j1 k0 k1
  have fin : ∀ (w' : World), w' = ((w3.setCell ⟨w.heap.size + 1, 0, none⟩ (.int .i64 (N : Int))).setCell ⟨w.heap.size + 1, 1, none⟩ (.int .i64 (h : Int))).setCell ⟨w.heap.size + 1, 2, none⟩ (.slice p2 l2 c2) →
      w'.heap[w.heap.size + 1]? = some (.cells #[.int .i64 (N : Int), .int .i64 (h : Int), .slice p2 l2 c2] 31 (0, 0)) ∧ RD w' (.slice p2 l2 c2) (xs ++ ys.take n) ∧ Below w.heap.size w w' := by
    rintro w' rfl
    refine ⟨heap_set _ (heap_set _ (heap_set _ K1.out)), ?_, ((hb.setCell (by simp) _).setCell (by simp) _).setCell (by simp) _⟩
    refine HR.out.kept fun r hr => ?_
    have := HF.out r hr
    exact (Below.heap_setCell _ _ _ _ (by simp; omega)).trans ((Below.heap_setCell _ _ _ _ (by simp; omega)).trans (Below.heap_setCell _ _ _ _ (by simp; omega)))
  have FIN := Lib.hid fin
  clear fin
  unfold refV
  by_cases hg : (ys.length : Int) < (N : Int) - (xs.length : Int)
  · obtain rfl : n = ys.length := by omega
    clear hn
    go_enter Try.func12, Try.ntmps12
    go_wp2_with (at_builtin; refine wpList_append_run rfl (.tmp 20) (.tmp 22) 29 rfl _ _ _ _ rfl rfl HS.out ?_)
    go_region_law (refine step_append_run rfl (.tmp 28) (.tmp 31) 29 rfl v1 sv (.slice p2 l2 c2) w3 (by simp [Act.eval, Act.put]) (by simp [Act.eval, Act.put]) HT.out ?_)
    all_goals go_wp2_with fail
    all_goals
      refine bodyPost_ret (results_row_tmp rfl _ _ (w.heap.size + 1) 31 #[.int .i64 (N : Int), .int .i64 (h : Int), .slice p2 l2 c2] (0, 0) _ rfl (FIN.out _ rfl).1 Try.underlying31 rfl (by kernel_rfl)) rfl ?_
      exact ⟨_, rfl, (FIN.out _ rfl).2.1, HF.out, (FIN.out _ rfl).2.2⟩
  · have hi : (N : Int) - (xs.length : Int) = (n : Int) := by omega
    have hg2 : (n : Int) ≤ (ys.length : Int) := by omega
    clear hn hg
    go_enter Try.func12, Try.ntmps12
    go_wp2_with (at_builtin; refine wpList_append_run rfl (.tmp 20) (.tmp 22) 29 rfl _ _ _ _ rfl rfl HS.out ?_)
    go_region_law (refine step_append_run rfl (.tmp 28) (.tmp 31) 29 rfl v1 sv (.slice p2 l2 c2) w3 (by simp [Act.eval, Act.put]) (by simp [Act.eval, Act.put]) HT.out ?_)
    all_goals go_wp2_with fail
    all_goals
      refine bodyPost_ret (results_row_tmp rfl _ _ (w.heap.size + 1) 31 #[.int .i64 (N : Int), .int .i64 (h : Int), .slice p2 l2 c2] (0, 0) _ rfl (FIN.out _ rfl).1 Try.underlying31 rfl (by kernel_rfl)) rfl ?_
      exact ⟨_, rfl, (FIN.out _ rfl).2.1, HF.out, (FIN.out _ rfl).2.2⟩

end Go.Proofs.Ytbpbiliekbkciaa
