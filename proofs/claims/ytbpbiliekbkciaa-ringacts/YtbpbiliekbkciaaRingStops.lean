/- The law RingStops. -/
import Derived.Test.YtbpbiliekbkciaaRingWake
import Derived.Test.YtbpbiliekbkciaaRingAll
import Derived.Test.YtbpbiliekbkciaaRingRef
namespace Go.Proofs.Ytbpbiliekbkciaa
open Go.ChangeShapes Go.WideShapes Go.ChangeAt Go.RowKit
open Go.Shelf
set_option linter.unusedVariables false
attribute [local go_sem] Oper.semAt_some

/-- A result that lies in a cell of its own. -/
theorem results_bool {fn : Func} {p : Tmp} (h : fn.results = #[.cell p 4]) (tmps : Array Value) (w : World) (g : Nat) (b : Bool) (hp : tmps.getD p undef = .pointer (some ⟨g, 0, none⟩)) (hg : w.cell? ⟨g, 0, none⟩ = some (.bool b)) :
    (results fn tmps).run Try.prog w = .ok (.bool b) w := by
  have hp' : tmps[p]?.getD undef = .pointer (some ⟨g, 0, none⟩) := by simpa using hp
  simp [results, h, hp', asAddr, loadVar, isAgg, run_underlying Try.underlying4, hg, go_sem]

theorem neq_fn (f : Fn) (a b : Array Value) (w : World) : (binOp .neq 47 (.func f a b) Value.nilFunc).run Try.prog w = .ok (.bool true) w := by
  rfl

theorem keep_set {W : World} {Bn B0 Bw Br R M N h k : Nat} {cs : List UInt8} {x y z u : Value} (h1 : Br ≠ Bn) (h2 : Br ≠ B0) (h3 : Br ≠ Bw) (h4 : Br ≠ R) (h5 : Br ≠ M)
    (hS : W.cell? ⟨Bn, 0, none⟩ = some x ∧ W.cell? ⟨B0, 0, none⟩ = some y ∧ W.cell? ⟨Bw, 0, none⟩ = some z ∧ RingAt W R M N h k cs) :
    (W.setCell ⟨Br, 0, none⟩ u).drew.cell? ⟨Bn, 0, none⟩ = some x ∧ (W.setCell ⟨Br, 0, none⟩ u).drew.cell? ⟨B0, 0, none⟩ = some y ∧ (W.setCell ⟨Br, 0, none⟩ u).drew.cell? ⟨Bw, 0, none⟩ = some z ∧ RingAt (W.setCell ⟨Br, 0, none⟩ u).drew R M N h k cs := by
  obtain ⟨e1, e2, e3, e4⟩ := hS
  exact ⟨(World.cell?_of_block (Below.heap_setCell W ⟨Br, 0, none⟩ u Bn (Ne.symm h1))).trans e1, (World.cell?_of_block (Below.heap_setCell W ⟨Br, 0, none⟩ u B0 (Ne.symm h2))).trans e2, (World.cell?_of_block (Below.heap_setCell W ⟨Br, 0, none⟩ u Bw (Ne.symm h3))).trans e3,
    e4.kept (Below.heap_setCell _ _ _ _ (Ne.symm h4)) (Below.heap_setCell _ _ _ _ (Ne.symm h5))⟩

set_option maxRecDepth 20000 in
set_option maxHeartbeats 4000000 in
theorem stops_walk (a c : Int) (a0 : 0 ≤ a) (a1 : a ≤ 255) (c0 : 0 ≤ c) (c1 : c ≤ 255) (p : Option Addr) (l d : Nat) (xs : List UInt8) (w : World) (hx : RD w (.slice p l d) xs) :
    Calls Try.prog 5 #[.slice p l d, .int .u8 a, .int .u8 c] w fun e w' => e = .returned (.bool true) ∧ Below w.heap.size w w' := by
  have h1 := hx.len
  subst h1
  have hd : xs.length ≤ 9223372036854775807 := by
    obtain ⟨_, _, e, h1, h2, _⟩ := hx
    cases e
    simp only [maxLen] at h2
    omega
  refine calls_of_marks Try.func5 rfl ?_
  simp only [Try.ntmps5, List.size_toArray, List.length_cons, List.length_nil, Nat.reduceAdd, Nat.reduceSub, Array.replicate_succ, Array.replicate_zero, List.push_toArray, List.append_toArray, List.nil_append, List.cons_append]
  go_wp2_with fail
  obtain ⟨wa, hwa⟩ : ∃ wa, (w.alloc (.cells #[.int .u8 c] 5)).alloc (.cells #[.bool false] 4) = wa := ⟨_, rfl⟩
  have sa : wa.heap.size = w.heap.size + 2 := by rw [← hwa]; simp
  have ba : Below w.heap.size w wa := by rw [← hwa]; exact ((Below.refl _ w).alloc (Nat.le_refl _) _).alloc (by simp) _
  have ea0 : wa.heap[w.heap.size]? = some (.cells #[.int .u8 c] 5 (0, 0)) := by rw [← hwa]; exact (Below.heap_alloc _ _ _ (by simp)).trans (World.alloc_heap_new w _)
  have ea1 : wa.heap[w.heap.size + 1]? = some (.cells #[.bool false] 4 (0, 0)) := by rw [← hwa]; exact heap_alloc2_new w _ _
  rw [hwa]
  refine (wakes_any wa).mono ?_
  rintro e w0 ⟨rfl, hb0⟩
  have B0 : Below w.heap.size w w0 := ba.trans (hb0.mono ba.size)
  have e0 := (hb0.block _ (by omega)).trans ea0
  have e1 := (hb0.block _ (by omega)).trans ea1
  have z0 := hb0.size
  clear hwa ea0 ea1 hb0 ba
  have HE0 := Lib.hid e0
  have HE1 := Lib.hid e1
  obtain ⟨c1a, c1b⟩ := one_cell e1
  clear e0 e1
  by_cases hg : (200 : Int) < (xs.length : Int)
  · go_wp2_with fail
    refine left_plain rfl (results_bool rfl _ _ (w.heap.size + 1) true rfl (one_cell (heap_set _ HE1.out)).1) ?_ (.inl rfl)
    exact ⟨rfl, B0.setCell (by simp) _⟩
  · go_wp2_with fail
    refine (new_any w0 50 (by decide) (by decide)).mono ?_
    rintro e w1 ⟨R, M, rfl, hr1, hR, hM, hb1⟩
    have HR1 := Lib.hid hr1
    have hMw : w.heap.size + 2 ≤ M := by omega
    have hbM : xs ≠ [] → (Value.slice p xs.length d).ownBlock ≠ some M := fun hne e => by
      obtain ⟨g, e1, e2⟩ := hx.lt hne
      rw [e] at e1
      cases e1
      omega
    have hw1 := write_any w1 R M 50 0 0 _ hr1 p xs.length d xs (hx.below (B0.trans (hb1.mono B0.size))) hbM
    clear hr1
    go_wp2_with fail
    refine hw1.mono ?_
    clear hw1
    rintro e w2 ⟨rfl, ⟨cs2, hr2, -⟩, o2⟩
    have hd2 := drop_any w2 R M 50 _ _ cs2 a hr2
    clear hr2
    go_wp2_with fail
    refine hd2.mono ?_
    clear hd2
    rintro e w3 ⟨rfl, hr3, o3⟩
    have B1 : Below w.heap.size w w1 := B0.trans (hb1.mono B0.size)
    have B2 := o2.below B1 (by omega) (by omega) B1.size
    have B3 := o3.below B2 (by omega) (by omega) B2.size
    have hw4 := write_any w3 R M 50 _ _ cs2 hr3 p xs.length d xs (hx.below B3) hbM
    clear hr3
    go_wp2_with fail
    refine hw4.mono ?_
    clear hw4
    rintro e w4 ⟨rfl, ⟨cs, hr4, -⟩, o4⟩
    have B4 := o4.below B3 (by omega) (by omega) B3.size
    generalize (0 + upTo a (0 + min xs.length (50 - 0))) % 50 = h at hr4
    generalize 0 + min xs.length (50 - 0) - upTo a (0 + min xs.length (50 - 0)) + min xs.length (50 - (0 + min xs.length (50 - 0) - upTo a (0 + min xs.length (50 - 0)))) = k at hr4
    have hp5 := peek_any w4 R M 50 h k cs 50 hr4
    have hku : upTo 50 k = k := by have := hr4.hk; unfold upTo; omega
    rw [hku] at hp5
    go_wp2_with fail
    refine hp5.mono ?_
    clear hp5
    rintro e w5 ⟨v5, rfl, hv5, hb5, b5⟩
    have B5 := B4.trans (b5.mono B4.size)
    have hr5 := hr4.below b5
    have f0 : w5.heap[w.heap.size]? = some (.cells #[.int .u8 c] 5 (0, 0)) := by
      have z1 := hb1.size
      have z2 := o2.size
      have z3 := o3.size
      have z4 := o4.size
      rw [b5.block _ (by omega), o4.block _ (by omega) (by omega) (by omega), o3.block _ (by omega) (by omega) (by omega), o2.block _ (by omega) (by omega) (by omega), hb1.block _ (by omega)]
      exact HE0.out
    have f1 : w5.heap[w.heap.size + 1]? = some (.cells #[.bool false] 4 (0, 0)) := by
      have z1 := hb1.size
      have z2 := o2.size
      have z3 := o3.size
      have z4 := o4.size
      rw [b5.block _ (by omega), o4.block _ (by omega) (by omega) (by omega), o3.block _ (by omega) (by omega) (by omega), o2.block _ (by omega) (by omega) (by omega), hb1.block _ (by omega)]
      exact HE1.out
    have hz5 : w.heap.size + 2 ≤ w5.heap.size := by
      have z1 := hb1.size
      have z2 := o2.size
      have z3 := o3.size
      have z4 := o4.size
      have z5 := b5.size
      omega
    obtain ⟨pw, cw, rfl, hq1, hq2, hq3, hq4⟩ := id hv5
    have HV5 := Lib.hid hv5
    have HR5 := Lib.hid hr5
    have HF0 := Lib.hid f0
    have HF1 := Lib.hid f1
    have hlen : (held cs h k).length = k := held_len cs h k (by rw [hr4.len]; exact hr4.hh) (by rw [hr4.len]; exact hr4.hk)
    have hk50 := hr4.hk
    clear hv5 hr5 f0 f1 hr4 o2 o3 o4 b5 B1 B2 B3 B4 hb1 HR1 HE0 HE1 c1a c1b hq4 hku B0 hbM
    have hnf := neq_fn
    go_wp2_with (go_at_call 22; refine (all_any _ R).mono ?_; rintro e w' ⟨rfl, rfl⟩)
    clear hnf
    obtain ⟨W0, hW0⟩ : ∃ W0, ((w5.alloc (.cells #[.slice pw k cw] 29)).alloc (.cells #[.int .i64 0] 3)).alloc (.cells #[.pointer (some ⟨R, 0, none⟩)] 25) = W0 := ⟨_, rfl⟩
    have s0 : W0.heap.size = w5.heap.size + 3 := by rw [← hW0]; simp
    have bW : Below w5.heap.size w5 W0 := by rw [← hW0]; exact (((Below.refl _ w5).alloc (Nat.le_refl _) _).alloc (by simp) _).alloc (by simp; omega) _
    have g0 : W0.heap[w5.heap.size]? = some (.cells #[.slice pw k cw] 29 (0, 0)) := by
      rw [← hW0, Below.heap_alloc _ _ _ (by simp; omega), Below.heap_alloc _ _ _ (by simp)]; exact new_one w5 _ _
    have g1 : W0.heap[w5.heap.size + 1]? = some (.cells #[.int .i64 0] 3 (0, 0)) := by
      rw [← hW0, Below.heap_alloc _ _ _ (by simp)]; exact heap_alloc2_new w5 _ _
    have g2 : W0.heap[w5.heap.size + 2]? = some (.cells #[.pointer (some ⟨R, 0, none⟩)] 25 (0, 0)) := by
      have := World.alloc_heap_new ((w5.alloc (.cells #[.slice pw k cw] 29)).alloc (.cells #[.int .i64 0] 3)) (.cells #[.pointer (some ⟨R, 0, none⟩)] 25)
      rw [hW0] at this
      rw [← this]; simp
    have f0 := (bW.block _ (by omega)).trans HF0.out
    have f1 := (bW.block _ (by omega)).trans HF1.out
    have hr := HR5.out.below bW
    have hv := HV5.out.below bW
    have hvl : held cs h k ≠ [] → ∀ g, (Value.slice pw (held cs h k).length cw).ownBlock = some g → g < w5.heap.size := fun he g hg => by
      obtain ⟨g', e1, e2⟩ := HV5.out.lt he
      rw [hg] at e1
      cases e1
      exact e2
    rw [hlen] at hv hvl
    have BW : Below w.heap.size w W0 := B5.trans (bW.mono B5.size)
    have hrl := HR5.out.lt
    rw [hW0]
    clear hW0 bW
    obtain ⟨S, hS⟩ : ∃ S : Nat, c = (S : Int) := ⟨c.toNat, by omega⟩
    subst hS
    -- what the loop leaves as it lay
    obtain ⟨Stay, hStay⟩ : ∃ Stay : World → Prop, Stay = fun W => (∀ r, r < w5.heap.size + 3 → r ≠ w5.heap.size + 1 → W.heap[r]? = W0.heap[r]?) ∧ W.os = W0.os ∧ W.tape = W0.tape ∧ W.output = W0.output ∧ w5.heap.size + 3 ≤ W.heap.size := ⟨_, rfl⟩
    have st0 : Stay W0 := by rw [hStay]; exact ⟨fun _ _ _ => rfl, rfl, rfl, rfl, by omega⟩
    have stB : ∀ A B, Stay A → But (w5.heap.size + 3) A B → Stay B := by
      rw [hStay]
      exact fun A B hA hB => ⟨fun r h1 h2 => (hB.block r (by have := hA.2.2.2.2; omega) (by omega) (by omega)).trans (hA.1 r h1 h2), hB.os.trans hA.2.1, hB.tape.trans hA.2.2.1, hB.output.trans hA.2.2.2.1, by have := hB.size; have := hA.2.2.2.2; omega⟩
    have stR : ∀ W, Stay W → RingAt W R M 50 h k cs := by
      rw [hStay]
      exact fun W hW => hr.kept (hW.1 _ (by omega) (by omega)) (hW.1 _ (by omega) (by omega))
    have stV : ∀ W, Stay W → RD W (.slice pw k cw) (held cs h k) := by
      rw [hStay]
      exact fun W hW => hv.keep (fun hne g hg => hW.1 g (by have := hvl hne g hg; omega) (by have := hvl hne g hg; omega))
    have stC : ∀ W, Stay W → (W.cell? ⟨w.heap.size, 0, none⟩ = some (.int .u8 (S : Int)) ∧ W.frozen? ⟨w.heap.size, 0, none⟩ = false) ∧ (W.cell? ⟨w.heap.size + 1, 0, none⟩ = some (.bool false) ∧ W.frozen? ⟨w.heap.size + 1, 0, none⟩ = false) ∧
        (W.cell? ⟨w5.heap.size, 0, none⟩ = some (.slice pw k cw) ∧ W.frozen? ⟨w5.heap.size, 0, none⟩ = false) ∧ W.cell? ⟨w5.heap.size + 2, 0, none⟩ = some (.pointer (some ⟨R, 0, none⟩)) := by
      rw [hStay]
      exact fun W hW => ⟨one_cell ((hW.1 _ (by omega) (by omega)).trans f0), one_cell ((hW.1 _ (by omega) (by omega)).trans f1), one_cell ((hW.1 _ (by omega) (by omega)).trans g0), (one_cell ((hW.1 _ (by omega) (by omega)).trans g2)).1⟩
    have stU : ∀ W, Stay W → Below w.heap.size w W := by
      rw [hStay]
      exact fun W hW => BW.trans ⟨hW.2.1, hW.2.2.1, hW.2.2.2.1, by have := hW.2.2.2.2; omega, fun r hr => hW.1 r (by omega) (by omega)⟩
    have stZ : ∀ W, Stay W → w5.heap.size + 3 ≤ W.heap.size := by rw [hStay]; exact fun W hW => hW.2.2.2.2
    have stN : ∀ W v, Stay W → Stay (W.setCell ⟨w5.heap.size + 1, 0, none⟩ v) := by
      rw [hStay]
      exact fun W v hW => ⟨fun r h1 h2 => (Below.heap_setCell _ _ _ _ h2).trans (hW.1 r h1 h2), hW.2.1, hW.2.2.1, hW.2.2.2.1, by simp [World.setCell]; exact hW.2.2.2.2⟩
    clear hStay
    have hseq := all_seq (w5.heap.size + 2) R M 50 h k cs
    have hpl : (pairs 50 h (held cs h k)).length = k := by rw [pairs_len, hlen]
    have HPL := Lib.hid hpl
    have HLN := Lib.hid hlen
    clear hpl hlen hv hvl hr f0 f1 g0 g2 HF0 HF1 HV5 HR5 hq1 hq2 hq3 BW B5
    refine wp_range (wpIn_rangeR (gf := 29) rfl (enters_of Try.func29 (by kernel_rfl) rfl) hseq (fun j x hx => ?_)
      (fun j W => Stay W ∧ W.heap[w5.heap.size + 1]? = some (.cells #[.int .i64 (j : Int)] 3 (0, 0)) ∧ j ≤ S)
      (fun co j W => co = .exit 0 ∧ Stay W ∧ W.heap[w5.heap.size + 1]? = some (.cells #[.int .i64 (S : Int)] 3 (0, 0)) ∧ S < k)
      ?_ ?_ (fun j W h => ⟨(stC W h.1).2.2.2, stR W h.1⟩) ⟨st0, g1, Nat.zero_le _⟩ ?round ?done ?stop)
    · have hlt := (List.getElem?_eq_some_iff.1 hx).1
      rw [pairs_len] at hlt
      rw [pairs_get 50 h _ j _ (List.getElem?_eq_getElem hlt)] at hx
      cases hx
      rfl
    · rintro j A B ⟨i1, i2, i3⟩ hB
      rw [s0] at hB
      exact ⟨stB A B i1 hB, hB.heap i2 (by omega) (by omega), i3⟩
    · rintro co j A B ⟨i0, i1, i2, i3⟩ hB
      rw [s0] at hB
      exact ⟨i0, stB A B i1 hB, hB.heap i2 (by omega) (by omega), i3⟩
    case round =>
      rintro j x W hx - -
      have hlt := (List.getElem?_eq_some_iff.1 hx).1
      rw [pairs_len] at hlt
      have hbj := List.getElem?_eq_getElem hlt
      rw [pairs_get 50 h _ j _ hbj] at hx
      cases hx
      have hcl := fun W2 (i1 : Stay W2) => (stV W2 i1).cellAt hlt
      generalize (held cs h k)[j] = bb at hcl ⊢
      rw [HLN.out] at hlt
      clear hbj
      gi_wp2_with fail
      refine ⟨trivial, ?_⟩
      rintro W2 ⟨i1, i2, i3⟩ hsz
      rw [s0] at hsz ⊢
      obtain ⟨⟨x0, y0⟩, ⟨x1, y1⟩, ⟨x2, y2⟩, x3⟩ := stC W2 i1
      obtain ⟨x4, y4⟩ := one_cell i2
      by_cases hs : j < S
      · have hs' : (j : Int) < (S : Int) := by omega
        have hlt' : (j : Int) < (k : Int) := by omega
        have hwr : IntKind.i64.wrap ((j : Int) + 1) = (j : Int) + 1 := IntWalk.i64_in _ (by omega)
        obtain ⟨ad, rfl, hcell⟩ := hcl W2 i1
        have hend : Held (w5.heap.size + 3) True W2 (W2.setCell ⟨w5.heap.size + 1, 0, none⟩ (.int .i64 ((j : Int) + 1))) ∧ Stay (W2.setCell ⟨w5.heap.size + 1, 0, none⟩ (.int .i64 ((j : Int) + 1))) ∧
            (W2.setCell ⟨w5.heap.size + 1, 0, none⟩ (.int .i64 ((j : Int) + 1))).heap[w5.heap.size + 1]? = some (.cells #[.int .i64 ((j + 1 : Nat) : Int)] 3 (0, 0)) ∧ j + 1 ≤ S := by
          refine ⟨Held.setCell _ (show w5.heap.size + 1 ≠ w5.heap.size + 3 by omega) (show w5.heap.size + 1 ≠ w5.heap.size + 3 + 1 by omega) (fun _ => show w5.heap.size + 1 < w5.heap.size + 3 by omega) _, stN _ _ i1, ?_, by omega⟩
          refine (heap_set _ i2).trans ?_
          simp
        have HE := Lib.hid hend
        clear hend hcl
        gi_wp2_with fail
        exact HE.out
      · obtain rfl : j = S := by omega
        have I1 := Lib.hid i1
        have I2 := Lib.hid i2
        have HLT := Lib.hid hlt
        clear hcl hlt
        gi_wp2_with fail
        exact ⟨Held.refl _ _ _, rfl, I1.out, I2.out, HLT.out⟩
    case done =>
      rintro W ⟨i1, i2, i3⟩ hD
      rw [HPL.out] at i2 i3
      rw [s0] at hD ⊢
      obtain ⟨⟨x0, y0⟩, ⟨x1, y1⟩, ⟨x2, y2⟩, x3⟩ := stC W i1
      obtain ⟨x4, y4⟩ := one_cell i2
      have hmin : min (S : Int) (k : Int) = (k : Int) := by omega
      have hrg := stR W i1
      have hrl2 := hrg.lt
      have hU := stU W i1
      have hZ := stZ W i1
      have hwS : IntKind.i64.wrap (S : Int) = (S : Int) := IntWalk.i64_in _ (by omega)
      clear stB stR stV stC stN stU stZ st0 hseq g1
      go_wp2_with fail
      go_region_held3 (fun w' => w'.cell? ⟨w5.heap.size + 1, 0, none⟩ = some (.int .i64 (k : Int)) ∧ w'.cell? ⟨w.heap.size, 0, none⟩ = some (.int .u8 (S : Int)) ∧ w'.cell? ⟨w5.heap.size, 0, none⟩ = some (.slice pw k cw) ∧ RingAt w' R M 50 h k cs)
        (first | exact ⟨x4, x0, x2, hrg.drew⟩ | exact keep_set (by omega) (by omega) (by omega) (by omega) (by omega) ⟨x4, x0, x2, hrg⟩)
        (first
        | (go_at_call 20; refine (len_any _ R M 50 h k cs ?_).mono ?_; (exact And.right (And.right (And.right (by assumption)))); rintro e w' ⟨rfl, rfl⟩))
      go_wp2_with fail
      have hD2 : ((W.setCell ⟨w.heap.size + 1, 0, none⟩ (.bool true)).drew).heap[w5.heap.size + 3]? = some (.deferred (some [])) := (Below.heap_setCell _ _ _ _ (by simp; omega)).trans hD
      have hbu : But (w5.heap.size + 3) (W.setCell ⟨w.heap.size + 1, 0, none⟩ (.bool true)).drew ((W.setCell ⟨w.heap.size + 1, 0, none⟩ (.bool true)).drew.putObj (w5.heap.size + 3) (.deferred none)) := But.putObj _ _ (.inl rfl) _
      have hres : ((W.setCell ⟨w.heap.size + 1, 0, none⟩ (.bool true)).drew).cell? ⟨w.heap.size + 1, 0, none⟩ = some (.bool true) := World.cell?_setCell_same' _ _ _ (by rw [x1]; rfl)
      refine left_mark rfl hD2 (results_bool rfl _ _ (w.heap.size + 1) true rfl (hbu.cell hres (by simp; omega) (by simp; omega))) ?_ (.inl rfl)
      have hU2 : Below w.heap.size w (W.setCell ⟨w.heap.size + 1, 0, none⟩ (.bool true)).drew := (hU.setCell (by simp) _).drew
      exact ⟨rfl, hbu.below hU2 (by omega) hU2.size⟩
    case stop =>
      rintro co j W hj ⟨rfl, i1, i2, i3⟩ hD
      rw [s0] at hD ⊢
      refine wpIn_wide.2 ?_
      obtain ⟨⟨x0, y0⟩, ⟨x1, y1⟩, ⟨x2, y2⟩, x3⟩ := stC W i1
      obtain ⟨x4, y4⟩ := one_cell i2
      have hmin : min (S : Int) (k : Int) = (S : Int) := by omega
      have hrg := stR W i1
      have hrl2 := hrg.lt
      have hU := stU W i1
      have hZ := stZ W i1
      have hwS : IntKind.i64.wrap (S : Int) = (S : Int) := IntWalk.i64_in _ (by omega)
      clear stB stR stV stC stN stU stZ st0 hseq g1
      go_wp2_with fail
      go_region_held3 (fun w' => w'.cell? ⟨w5.heap.size + 1, 0, none⟩ = some (.int .i64 (S : Int)) ∧ w'.cell? ⟨w.heap.size, 0, none⟩ = some (.int .u8 (S : Int)) ∧ w'.cell? ⟨w5.heap.size, 0, none⟩ = some (.slice pw k cw) ∧ RingAt w' R M 50 h k cs)
        (first | exact ⟨x4, x0, x2, hrg.drew⟩ | exact keep_set (by omega) (by omega) (by omega) (by omega) (by omega) ⟨x4, x0, x2, hrg⟩)
        (first
        | (go_at_call 20; refine (len_any _ R M 50 h k cs ?_).mono ?_; (exact And.right (And.right (And.right (by assumption)))); rintro e w' ⟨rfl, rfl⟩))
      go_wp2_with fail
      have hD2 : ((W.setCell ⟨w.heap.size + 1, 0, none⟩ (.bool true)).drew).heap[w5.heap.size + 3]? = some (.deferred (some [])) := (Below.heap_setCell _ _ _ _ (by simp; omega)).trans hD
      have hbu : But (w5.heap.size + 3) (W.setCell ⟨w.heap.size + 1, 0, none⟩ (.bool true)).drew ((W.setCell ⟨w.heap.size + 1, 0, none⟩ (.bool true)).drew.putObj (w5.heap.size + 3) (.deferred none)) := But.putObj _ _ (.inl rfl) _
      have hres : ((W.setCell ⟨w.heap.size + 1, 0, none⟩ (.bool true)).drew).cell? ⟨w.heap.size + 1, 0, none⟩ = some (.bool true) := World.cell?_setCell_same' _ _ _ (by rw [x1]; rfl)
      refine left_mark rfl hD2 (results_bool rfl _ _ (w.heap.size + 1) true rfl (hbu.cell hres (by simp; omega) (by simp; omega))) ?_ (.inl rfl)
      have hU2 : Below w.heap.size w (W.setCell ⟨w.heap.size + 1, 0, none⟩ (.bool true)).drew := (hU.setCell (by simp) _).drew
      exact ⟨rfl, hbu.below hU2 (by omega) hU2.size⟩

theorem stops_said (a c : Int) (wa : (Lit.int .u8 a).wf = true) (wc : (Lit.int .u8 c).wf = true) (p : Option Addr) (l d : Nat) (zs : List Int) (w : World) (h : (p = none ∧ l = 0 ∧ d = 0 ∧ zs = []) ∨
    ∃ x, p = some x ∧ l ≤ d ∧ d ≤ maxLen ∧ zs.length = d ∧ (∀ i, i < zs.length → w.cell? (x.add i) = some (.int .u8 (zs.getD i 0))) ∧ ∀ n ∈ zs, (Lit.int .u8 n).wf = true) :
    Calls Try.prog 5 #[.slice p l d, .int .u8 a, .int .u8 c] w fun e w' => e = .returned (.bool true) ∧ Below w.heap.size w w' := by
  have h1 := bounds_u8 wa
  have h2 := bounds_u8 wc
  obtain ⟨xs, hx⟩ := row_rd h
  exact stops_walk a c h1.1 h1.2 h2.1 h2.2 p l d xs w hx

end Go.Proofs.Ytbpbiliekbkciaa
