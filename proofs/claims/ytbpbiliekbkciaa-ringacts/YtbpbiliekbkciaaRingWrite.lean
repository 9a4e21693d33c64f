/- Write of the ring. -/
import Derived.Test.YtbpbiliekbkciaaRingParts
namespace Go.Proofs.Ytbpbiliekbkciaa
open Go.ChangeShapes Go.WideShapes Go.ChangeAt Go.RowKit
open Go.Shelf
set_option linter.unusedVariables false
attribute [local go_sem] Oper.semAt_some

theorem keep_n {W : World} {R M N h k : Nat} {cs : List UInt8} (H : RingAt W R M N h k cs) (m : Nat) : (W.drewN m).cell? ⟨R, 2, none⟩ = some (.int .i64 (k : Int)) ∧ RingAt (W.drewN m) R M N h k cs := ⟨H.c2, H.drewN m⟩
theorem keep_a {W : World} {R M N h k : Nat} {cs : List UInt8} (H : RingAt W R M N h k cs) (x y z : Obj) : (((W.alloc x).alloc y).alloc z).cell? ⟨R, 2, none⟩ = some (.int .i64 (k : Int)) ∧ RingAt (((W.alloc x).alloc y).alloc z) R M N h k cs := ⟨(((H.alloc x).alloc y).alloc z).c2, ((H.alloc x).alloc y).alloc z⟩

/-- Behind j parts. -/
structure WriteI (w : World) (R M N h k : Nat) (p : Option Addr) (l c : Nat) (xs : List UInt8) (s : Nat × List UInt8) (W : World) : Prop where
  ring : RingAt W R M N h k s.2
  bb : W.heap[w.heap.size]? = some (.cells #[.slice p l c] 29 (0, 0))
  bn : W.heap[w.heap.size + 1]? = some (.cells #[.int .i64 (s.1 : Int)] 3 (0, 0))
  st : PartsSt (w.heap.size + 2) R M N h k (N - k) W
  rd : RD W (.slice p l c) xs
  only : Only R M w W

set_option maxHeartbeats 1000000 in
theorem write_any (w : World) (R M N h k : Nat) (cs : List UInt8) (H : RingAt w R M N h k cs) (p : Option Addr) (l c : Nat) (xs : List UInt8) (hb : RD w (.slice p l c) xs) (hbM : xs ≠ [] → (Value.slice p l c).ownBlock ≠ some M) :
    Calls Try.prog 13 #[.pointer (some ⟨R, 0, none⟩), .slice p l c] w fun e w' => e = .returned (.int .i64 (min xs.length (N - k) : Nat)) ∧
      (∃ cs', RingAt w' R M N h (k + min xs.length (N - k)) cs' ∧ held cs' h (k + min xs.length (N - k)) = held cs h k ++ xs.take (min xs.length (N - k))) ∧ Only R M w w' := by
  have hl := hb.len
  subst hl
  have hk := H.hk
  have hh := H.hh
  have hN := H.hN
  have hRl := H.lt.1
  have hMl := H.lt.2
  have h2 := H.c2
  have HH := Lib.hid H
  refine calls_of_marks Try.func13 rfl ?_
  simp only [Try.ntmps13, List.size_toArray, List.length_cons, List.length_nil, Nat.reduceAdd, Nat.reduceSub, Array.replicate_succ, Array.replicate_zero, List.push_toArray, List.append_toArray, List.nil_append, List.cons_append]
  clear H
  go_wp2_with fail
  have H1 : RingAt ((w.alloc (.cells #[.slice p xs.length c] 29)).alloc (.cells #[.int .i64 0] 3)) R M N h k cs := HH.out.below (((Below.refl _ w).alloc (Nat.le_refl _) _).alloc (by simp) _)
  go_region_held3 (fun w' => w'.cell? ⟨R, 2, none⟩ = some (.int .i64 (k : Int)) ∧ RingAt w' R M N h k cs) (first | exact ⟨H1.c2, H1.drew⟩ | exact keep_n (by first | assumption | exact And.right (by assumption)) _ | exact keep_a (by first | assumption | exact And.right (by assumption)) _ _ _)
    (first
    | (go_at_call 21; refine (free_any _ R M N h k cs ?_).mono ?_; (first | assumption | exact And.right (by assumption)); rintro e w' ⟨rfl, m, rfl⟩)
    | (go_at_call 26; refine (parts_any _ R k (N - k)).mono ?_; rintro e w' ⟨rfl, rfl⟩))
  go_wp2_with fail
  rename_i hHeld
  clear hHeld
  obtain ⟨w2, hw2⟩ : ∃ w2, ((w.alloc (.cells #[.slice p xs.length c] 29)).alloc (.cells #[.int .i64 0] 3)).drewN (1 + m) = w2 := ⟨_, rfl⟩
  have s2 : w2.heap.size = w.heap.size + 2 := by rw [← hw2]; simp
  have B2 : Below w.heap.size w w2 := by rw [← hw2]; exact (((Below.refl _ w).alloc (Nat.le_refl _) _).alloc (by simp) _).trans ⟨rfl, rfl, rfl, Nat.le_refl _, fun _ _ => rfl⟩
  have q0 : w2.heap[w.heap.size]? = some (.cells #[.slice p xs.length c] 29 (0, 0)) := by rw [← hw2]; exact (Below.heap_alloc _ _ _ (by simp)).trans (new_one w _ _)
  have q1 : w2.heap[w.heap.size + 1]? = some (.cells #[.int .i64 0] 3 (0, 0)) := by
    have := new_one (w.alloc (.cells #[.slice p xs.length c] 29)) (.int .i64 0) 3
    rw [World.size_alloc] at this
    rw [← hw2]; exact this
  have R2 : RingAt w2 R M N h k cs := HH.out.below B2
  have hst := parts_start R2 k (N - k)
  rw [s2] at hst
  rw [hw2]
  obtain ⟨W0, hW0⟩ : ∃ W0, (((w2.alloc (.cells #[.pointer (some ⟨R, 0, none⟩)] 25)).alloc (.cells #[.int .i64 (k : Int)] 3)).alloc (.cells #[.int .i64 ((N - k : Nat) : Int)] 3)) = W0 := ⟨_, rfl⟩
  have B0 : Below w2.heap.size w2 W0 := by rw [← hW0]; exact (((Below.refl _ w2).alloc (Nat.le_refl _) _).alloc (by simp) _).alloc (by simp; omega) _
  have s0 : W0.heap.size = w.heap.size + 5 := by rw [← hW0]; simp [s2]
  rw [hW0] at hst ⊢
  have hBel : Below w.heap.size w W0 := B2.trans (B0.mono B2.size)
  have hI0 : WriteI w R M N h k p xs.length c xs (wst xs cs ((h + k) % N) (pTo N h k (N - k)) (pRest N h k (N - k)) 0) W0 :=
    ⟨R2.below B0, (B0.block _ (by omega)).trans q0, (B0.block _ (by omega)).trans q1, hst, hb.below hBel, Only.of_below hBel⟩
  clear hw2 s2 B2 q0 q1 R2 hst hW0 B0 H1 h2
  have hlen := HH.out.len
  have hf : (h + k) % N < N := Nat.mod_lt _ (by omega)
  have hwl := fun j hj => wst_le xs cs ((h + k) % N) (pTo N h k (N - k)) (pRest N h k (N - k)) (by unfold pTo; omega) (by unfold pTo; omega) (by unfold pRest; omega) j hj
  have hwe := wst_end xs cs N h k hlen hh hk ((h + k) % N) (pTo N h k (N - k)) (pRest N h k (N - k)) rfl rfl rfl
  have hft : ∀ j, j < 2 → sel ((h + k) % N) 0 j ≤ sel (pTo N h k (N - k)) (pRest N h k (N - k)) j ∧ sel (pTo N h k (N - k)) (pRest N h k (N - k)) j ≤ cs.length := fun j hj => by
    match j, hj with
    | 0, _ => simp only [sel]; unfold pTo; omega
    | 1, _ => simp only [sel]; unfold pRest; omega
  have hbo : xs ≠ [] → ∀ r, (Value.slice p xs.length c).ownBlock = some r → r < w.heap.size ∧ r ≠ M := fun hx r hr => by
    obtain ⟨r', e1, e2⟩ := hb.lt hx
    rw [hr] at e1
    cases e1
    exact ⟨e2, fun e => hbM hx (by rw [hr, e])⟩
  have HBO : Hid (xs ≠ [] → ∀ r, (Value.slice p xs.length c).ownBlock = some r → r < w.heap.size ∧ r ≠ M) := Lib.hid hbo
  have HFT := Lib.hid hft
  clear hft hbo
  have HWL := Lib.hid hwl
  have HWE := Lib.hid hwe
  clear hwl hwe
  have hcap : xs.length ≤ c ∧ c ≤ maxLen := by
    obtain ⟨_, _, e, h1, h2, _⟩ := hb
    cases e
    exact ⟨h1, h2⟩
  simp only [maxLen] at hcap
  refine wp_range (wpIn_range (gf := 32) rfl (enters_of Try.func32 (by kernel_rfl) rfl) (parts_seq (w.heap.size + 2) R M N h k (N - k) hk (by omega) hN hh) (fun k x hx => ?_)
    (fun j W => WriteI w R M N h k p xs.length c xs (wst xs cs ((h + k) % N) (pTo N h k (N - k)) (pRest N h k (N - k)) j) W)
    (fun _ _ _ => False) ?_ (fun _ _ _ _ h _ => h) (fun _ _ h => h.st) hI0
    (fun j => { tmps := #[.pointer (some ⟨R, 0, none⟩), .slice p xs.length c, undef, .pointer (some ⟨w.heap.size, 0, none⟩), .int .i64 0, .pointer (some ⟨w.heap.size + 1, 0, none⟩), sel (partA M N h k (N - k)) (partB M N h k (N - k)) j,
      .pointer (some ⟨R, 0, none⟩), .pointer (some ⟨R, 0, none⟩), .pointer (some ⟨R, 0, none⟩), .pointer (some ⟨R, 2, none⟩), .int .i64 (k : Int), .pointer (some ⟨R, 0, none⟩), .int .i64 ((N - k : Nat) : Int),
      .func (.func 32) #[] #[.pointer (some ⟨w.heap.size + 1 + 1, 0, none⟩), .pointer (some ⟨w.heap.size + 1 + 1 + 1, 0, none⟩), .pointer (some ⟨w.heap.size + 1 + 1 + 2, 0, none⟩)],
      sel (partA M N h k (N - k)) (partB M N h k (N - k)) j, undef, undef, undef, undef, undef, undef, undef, undef, undef, undef, undef, undef, undef, undef, undef, undef], defers := [] }) ?assign ?body ?done ?stop)
  · obtain ⟨rfl, _⟩ := sel_of hx
    match k with
    | 0 => rfl
    | k + 1 => rfl
  · rintro j W W' ⟨i1, i2, i3, i4, i5, i6⟩ hbu
    rw [s0] at hbu
    refine ⟨i1.kept (hbu.block _ i1.lt.1 (by omega) (by omega)) (hbu.block _ i1.lt.2 (by omega) (by omega)), hbu.heap i2 (by omega) (by omega), hbu.heap i3 (by omega) (by omega), i4.but hbu (by omega) (by omega), i5.keep (fun hx r hr => ?_), ?_⟩
    · have := HBO.out hx r hr
      exact hbu.block r (by have := i6.size; omega) (by omega) (by omega)
    · exact ⟨hbu.os.trans i6.os, hbu.tape.trans i6.tape, hbu.output.trans i6.output, Nat.le_trans i6.size hbu.size, fun r hr h1 h2 => (hbu.block r (by have := i6.size; omega) (by omega) (by omega)).trans (i6.block r hr h1 h2)⟩
  case assign =>
    intro j x W K hx hK
    obtain ⟨rfl, hj⟩ := sel_of hx
    have e : sel #[partA M N h k (N - k)] #[partB M N h k (N - k)] j = #[sel (partA M N h k (N - k)) (partB M N h k (N - k)) j] := by
      match j with
      | 0 => rfl
      | j + 1 => rfl
    rw [e]
    gi_wp2_with fail
    exact hK
  case body =>
    rintro j W ⟨i1, i2, i3, i4, i5, i6⟩ hj hsz
    rw [s0] at hsz ⊢
    have hle := HWL.out j (Nat.le_of_lt hj)
    have hle2 := HWL.out (j + 1) hj
    obtain ⟨c1, c2⟩ := one_cell i2
    obtain ⟨d1, d2⟩ := one_cell i3
    simp only [wst] at hle2 ⊢
    generalize hs : wst xs cs ((h + k) % N) (pTo N h k (N - k)) (pRest N h k (N - k)) j = s at *
    obtain ⟨nj, cj⟩ := s
    simp only at *
    have hcut := cut_l p xs.length c nj (by omega)
    have hsv := i5.part (i := nj) (j := xs.length) (m := c) (by omega) (by omega) (by omega) (Nat.le_refl _)
    have esv : (xs.take xs.length).drop nj = xs.drop nj := by rw [List.take_length]
    rw [esv] at hsv
    obtain ⟨F, hF, hrun⟩ := copy_rd W.drew 3 M cj (xs.drop nj) (sel ((h + k) % N) 0 j) (sel (pTo N h k (N - k)) (pRest N h k (N - k)) j) (sliced p nj xs.length c 1) i1.room (HFT.out j hj).1 (by rw [hle.2]; exact (HFT.out j hj).2) (hsv.same (fun _ _ _ => rfl))
    rw [← part_sel] at hF
    generalize sliced p nj xs.length c 1 = sv at hcut hsv hF
    generalize hkj : min (xs.drop nj).length (sel (pTo N h k (N - k)) (pRest N h k (N - k)) j - sel ((h + k) % N) 0 j) = kj at *
    have mixed : Try.prog.follows .mixedOrders = true := by kernel_rfl
    have HS := Lib.hid hs
    have HKJ := Lib.hid hkj
    clear hs hkj esv
    have hwr : IntKind.i64.wrap ((nj : Int) + (kj : Int)) = (nj : Int) + (kj : Int) := IntWalk.i64_in _ (by omega)
    obtain ⟨W2, hW2⟩ : ∃ W2, W.drew.setRow M (bv (spl cj (sel ((h + k) % N) 0 j) (List.take kj (List.drop nj xs)))).toArray = W2 := ⟨_, rfl⟩
    have eM : W2.heap[M]? = some (.cells (bv (spl cj (sel ((h + k) % N) 0 j) (List.take kj (List.drop nj xs)))).toArray 5 (0, 0)) := by rw [← hW2]; exact setRow_heap W.drew M _ _ _ _ i1.room
    have eO : ∀ r, r ≠ M → W2.heap[r]? = W.heap[r]? := fun r hr => by rw [← hW2]; exact setRow_other W.drew M r _ hr
    have eS : W2.heap.size = W.heap.size := by rw [← hW2]; simp
    have eos : W2.os = W.os := by rw [← hW2]; rfl
    have etp : W2.tape = W.tape := by rw [← hW2]; rfl
    have eou : W2.output = W.output := by rw [← hW2]; rfl
    rw [hW2] at hrun
    clear hW2
    have hne := HH.out.ne
    obtain ⟨hcn, hfn⟩ := one_cell ((eO (w.heap.size + 1) (by omega)).trans i3)
    have hT : ∀ r, r ≠ M → r ≠ w.heap.size + 1 → (W2.setCell ⟨w.heap.size + 1, 0, none⟩ (.int .i64 ((nj : Int) + (kj : Int)))).heap[r]? = W.heap[r]? := fun r h1 h2 => (Below.heap_setCell _ _ _ _ h2).trans (eO r h1)
    have hend : Held (w.heap.size + 5) False W (W2.setCell ⟨w.heap.size + 1, 0, none⟩ (.int .i64 ((nj : Int) + (kj : Int)))) ∧
        WriteI w R M N h k p xs.length c xs (nj + kj, spl cj (sel ((h + k) % N) 0 j) (List.take kj (List.drop nj xs))) (W2.setCell ⟨w.heap.size + 1, 0, none⟩ (.int .i64 ((nj : Int) + (kj : Int)))) := by
      refine ⟨⟨by simp [World.setCell, eS], hT _ (by omega) (by omega), hT _ (by omega) (by omega), fun h => h.elim⟩, ⟨?_, ?_, ?_, ?_, ?_, ?_⟩⟩
      · exact ⟨(hT R hne (by omega)).trans i1.ring, (Below.heap_setCell _ _ _ _ (by simp; omega)).trans eM, by rw [hle2.2, ← hlen], hh, hk, hN, hne⟩
      · exact (hT _ (by omega) (by omega)).trans i2
      · refine (heap_set _ ((eO _ (by omega)).trans i3)).trans ?_
        simp
      · exact i4.same (hT _ (by omega) (by omega)) (hT _ (by omega) (by omega)) (hT _ (by omega) (by omega)) (hT _ (by omega) (by omega))
      · exact i5.keep (fun hx r hr => by have := HBO.out hx r hr; exact hT r this.2 (by omega))
      · refine ⟨eos.trans i6.os, etp.trans i6.tape, eou.trans i6.output, by have := i6.size; simp [World.setCell, eS]; omega, fun r hr h1 h2 => (hT r h2 (by omega)).trans (i6.block r hr h1 h2)⟩
    have HE := Lib.hid hend
    clear hend hT eM eO eS eos etp eou
    gi_wp2_with fail
    gi_region_with_o (fail)
    all_goals (gi_wp2_with fail; exact HE.out)
  case done =>
    rintro W ⟨i1, i2, i3, i4, i5, i6⟩ hD
    rw [s0] at hD ⊢
    obtain ⟨w1, w2⟩ := HWE.out
    rw [show [#[partA M N h k (N - k)], #[partB M N h k (N - k)]].length = 2 from rfl] at i1 i3
    rw [w1] at i3
    generalize (wst xs cs ((h + k) % N) (pTo N h k (N - k)) (pRest N h k (N - k)) 2).2 = cz at i1 w2
    generalize hn : min xs.length (N - k) = n at i3 w2 ⊢
    have hnk : n ≤ N - k := by omega
    have HI := Lib.hid i1
    have HW := Lib.hid w2
    have HN := Lib.hid hn
    clear w1 w2 hn
    obtain ⟨c1, c2⟩ := one_cell i3
    have e0 := i1.c0
    have e2 := i1.c2
    have ef := i1.f
    clear i1
    have hwr : IntKind.i64.wrap ((k : Int) + (n : Int)) = (k : Int) + (n : Int) := IntWalk.i64_in _ (by omega)
    go_wp2_with fail
    refine wp_region_noPanic ?_
    go_region
    all_goals (refine NoPanic.normal ?_)
    all_goals go_wp2_with fail
    rw [HN.out]
    have H := HI.out
    obtain ⟨W5, hW5⟩ : ∃ W5, (W.setCell ⟨R, 2, none⟩ (.int .i64 ((k : Int) + (n : Int)))).drew = W5 := ⟨_, rfl⟩
    have r5 : W5.heap[R]? = some (.cells #[.slice (some ⟨M, 0, none⟩) N N, .int .i64 (h : Int), .int .i64 ((k + n : Nat) : Int)] 57 (0, 0)) := by
      rw [← hW5]
      refine (show (W.setCell ⟨R, 2, none⟩ (.int .i64 ((k : Int) + (n : Int)))).heap[R]? = _ from heap_set _ H.ring).trans ?_
      simp
    have o5 : ∀ r, r ≠ R → W5.heap[r]? = W.heap[r]? := fun r hr => by rw [← hW5]; exact Below.heap_setCell _ _ _ _ hr
    have s5 : W5.heap.size = W.heap.size := by rw [← hW5]; simp [World.setCell, World.drew]
    have u5 : W5.os = W.os ∧ W5.tape = W.tape ∧ W5.output = W.output := by rw [← hW5]; exact ⟨rfl, rfl, rfl⟩
    rw [hW5]
    refine left_mark rfl ((o5 _ (by omega)).trans hD) (results_tmp rfl _ _ _) ?_ (.inl rfl)
    have hbu : But (w.heap.size + 5) W5 (W5.putObj (w.heap.size + 5) (.deferred none)) := But.putObj _ _ (.inl rfl) _
    have hl5 := H.lt
    refine ⟨rfl, ⟨cz, ⟨hbu.heap r5 (by omega) (by omega), hbu.heap ((o5 _ (Ne.symm H.ne)).trans H.room) (by omega) (by omega), H.len, hh, by omega, hN, H.ne⟩, HW.out⟩, ?_⟩
    exact ⟨hbu.os.trans (u5.1.trans i6.os), hbu.tape.trans (u5.2.1.trans i6.tape), hbu.output.trans (u5.2.2.trans i6.output), by have := hbu.size; have := i6.size; omega,
      fun r hr h1 h2 => (hbu.block r (by have := i6.size; omega) (by omega) (by omega)).trans ((o5 r h1).trans (i6.block r hr h1 h2))⟩
  case stop =>
    rintro c j W _ h _
    exact h.elim

end Go.Proofs.Ytbpbiliekbkciaa
