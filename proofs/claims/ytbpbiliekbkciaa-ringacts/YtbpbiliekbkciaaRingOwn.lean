/- The law RingOwn. -/
import Derived.Test.YtbpbiliekbkciaaRingWake
import Derived.Test.YtbpbiliekbkciaaRingSpans
import Derived.Test.YtbpbiliekbkciaaRingRef
namespace Go.Proofs.Ytbpbiliekbkciaa
open Go.ChangeShapes Go.WideShapes Go.ChangeAt Go.RowKit
set_option linter.unusedVariables false

/-- A slice whose n bytes can be read and written. -/
def Fine (W : World) (v : Value) (n : Nat) : Prop :=
  (v = .slice none 0 0 ∧ n = 0) ∨ ∃ g c cur, v = .slice (some ⟨g, 0, none⟩) n c ∧ W.heap[g]? = some (.cells cur 5 (0, 0)) ∧ n ≤ maxLen ∧ ∀ j, j < n → ∃ b : UInt8, cur[j]? = some (.int .u8 (b.toNat : Int))
theorem Fine.of_own {W : World} {base n : Nat} {v : Value} {xs : List UInt8} (h : W.ownsRow base 5 1 v n (bv xs)) : Fine W v n := by
  have h0 := h.1
  rw [bv_len] at h0
  rcases h.2 with h' | ⟨g, cap, cur, rfl, _, hh, h1, h2, h3, h4⟩
  · exact .inl h'
  · refine .inr ⟨g, cap, cur, rfl, hh, Nat.le_trans h1 h2, fun j hj => ?_⟩
    have hj2 : j < xs.length := by omega
    refine ⟨xs[j], ?_⟩
    have : (bv xs)[j]? = some (.int .u8 (xs[j].toNat : Int)) := by simp [bv, hj2]
    rw [← h4, List.getElem?_take, if_pos (by omega)] at this
    simpa using this
theorem Fine.same {W W' : World} {v : Value} {n : Nat} (h : Fine W v n) (hk : ∀ g, v.ownBlock = some g → W'.heap[g]? = W.heap[g]?) : Fine W' v n := by
  rcases h with h | ⟨g, c, cur, rfl, h1, hm, h2⟩
  · exact .inl h
  · exact .inr ⟨g, c, cur, rfl, (hk g rfl).trans h1, hm, h2⟩
theorem Fine.set {W : World} {v : Value} {n : Nat} (h : Fine W v n) (g j : Nat) (b : UInt8) : Fine (W.setCell ⟨g, j, none⟩ (.int .u8 (b.toNat : Int))) v n := by
  rcases h with h | ⟨g', c, cur, rfl, h1, hm, h2⟩
  · exact .inl h
  · by_cases e : g' = g
    · subst e
      refine .inr ⟨g', c, _, rfl, heap_set _ h1, hm, fun i hi => ?_⟩
      by_cases e2 : j = i
      · subst e2
        obtain ⟨b', hb'⟩ := h2 j hi
        have hlt := (Array.getElem?_eq_some_iff.1 hb').1
        exact ⟨b, by simp [hlt]⟩
      · obtain ⟨b', hb'⟩ := h2 i hi
        exact ⟨b', by rw [Array.getElem?_setIfInBounds_ne e2]; exact hb'⟩
    · exact .inr ⟨g', c, cur, rfl, (Below.heap_setCell _ _ _ _ e).trans h1, hm, h2⟩
theorem Fine.cell {W : World} {p : Option Addr} {l c n : Nat} (h : Fine W (.slice p l c) n) {j : Nat} (hj : j < n) : ∃ g b, p = some ⟨g, 0, none⟩ ∧ W.cell? ⟨g, j, none⟩ = some (.int .u8 ((b : UInt8).toNat : Int)) ∧ W.frozen? ⟨g, j, none⟩ = false := by
  rcases h with ⟨_, h0⟩ | ⟨g, c', cur, e, h1, hm, h2⟩
  · omega
  · cases e
    obtain ⟨b, hb⟩ := h2 j hj
    exact ⟨g, b, rfl, by simp [World.cell?, h1, hb], by simp [World.frozen?, h1]⟩
theorem Fine.len {W : World} {p : Option Addr} {l c n : Nat} (h : Fine W (.slice p l c) n) : l = n := by
  rcases h with ⟨e, h0⟩ | ⟨g, c', cur, e, h1, hm, h2⟩ <;> cases e
  · exact h0.symm
  · rfl
theorem Fine.max {W : World} {v : Value} {n : Nat} (h : Fine W v n) : (n : Int) ≤ 9223372036854775807 := by
  rcases h with ⟨e, h0⟩ | ⟨g, c', cur, e, h1, hm, h2⟩
  · omega
  · simp only [maxLen] at hm
    omega
theorem Fine.slice {W : World} {v : Value} {n : Nat} (h : Fine W v n) : ∃ p c, v = .slice p n c := by
  rcases h with ⟨rfl, rfl⟩ | ⟨g, c', cur, rfl, _⟩
  · exact ⟨_, _, rfl⟩
  · exact ⟨_, _, rfl⟩

/-- The loops write into the four slices alone. -/
structure OwnI (W0 : World) (vs : List Value) (W : World) : Prop where
  os : W.os = W0.os
  tape : W.tape = W0.tape
  output : W.output = W0.output
  size : W.heap.size = W0.heap.size
  block : ∀ r, (∀ v ∈ vs, v.ownBlock ≠ some r) → W.heap[r]? = W0.heap[r]?
theorem OwnI.set {W0 W : World} {vs : List Value} (h : OwnI W0 vs W) {g j : Nat} {v : Value} (hv : v ∈ vs) (hg : v.ownBlock = some g) (u : Value) : OwnI W0 vs (W.setCell ⟨g, j, none⟩ u) :=
  ⟨h.os, h.tape, h.output, by simp [World.setCell]; exact h.size, fun r hr => (Below.heap_setCell _ _ _ _ (fun e => hr v hv (by rw [hg, e]))).trans (h.block r hr)⟩

set_option maxRecDepth 20000 in
set_option maxHeartbeats 1000000 in
theorem own_walk (p : Option Addr) (l d : Nat) (xs : List UInt8) (w : World) (hx : RD w (.slice p l d) xs) :
    Calls Try.prog 6 #[.slice p l d] w fun e w' => e = .returned (.bool true) ∧ Below w.heap.size w w' := by
  have h1 := hx.len
  subst h1
  by_cases hg : (200 : Int) < (xs.length : Int)
  · clear hx
    go_enter Try.func6, Try.ntmps6
    go_wp2_with (go_at_call 8; refine (wakes_any _).mono ?_; rintro e w0 ⟨rfl, hb0⟩)
    go_ret
    exact ⟨rfl, hb0⟩
  · have hlo : (xs.length : Int) ≤ 200 := by omega
    clear hg
    have HX := Lib.hid hx
    clear hx
    go_enter Try.func6, Try.ntmps6
    go_wp2_with (go_at_call 8; refine (wakes_any _).mono ?_; rintro e w0 ⟨rfl, hb0⟩)
    refine (new_any w0 30 (by decide) (by decide)).mono ?_
    rintro e w1 ⟨R, M, rfl, hr1, hR, hM, hb1⟩
    have B1 : Below w.heap.size w w1 := hb0.trans (hb1.mono hb0.size)
    have hRw : w.heap.size ≤ R := Nat.le_trans hb0.size hR
    have hMw : w.heap.size ≤ M := Nat.le_trans hb0.size hM
    have hl1 := hr1.lt
    obtain ⟨vi, w2, r0, r1, r2⟩ := run_append_rd (w1.alloc (.cells #[] 5)) 29 w1.heap.size (.slice (some ⟨w1.heap.size, 0, none⟩) 0 0) (.slice p xs.length d) 0 [] xs (World.ownsRow_made w1 #[] 0 (Nat.le_refl _) (by decide) rfl) ((HX.out.below B1).below ((Below.refl _ w1).alloc (Nat.le_refl _) _)) (by simp; omega) (by simp)
    rw [List.nil_append] at r1
    have b2 : Below w1.heap.size w1 w2 := ((Below.refl _ w1).alloc (Nat.le_refl _) _).grown r2 (by simp) (fun r e => by cases e; exact Nat.le_refl _)
    have HRUN := Lib.hid r0
    have HOI := Lib.hid r1
    have HR2 := Lib.hid (hr1.below b2)
    clear hr1 r0 r1 r2 hb0 hb1
    go_wp2_with (at_builtin; refine wpList_append_run rfl (.tmp 28) (.tmp 29) 29 rfl _ _ _ _ rfl rfl HRUN.out ?_)
    clear HRUN
    obtain ⟨pi, ci, rfl⟩ := (Fine.of_own HOI.out).slice
    have hw := write_any w2 R M 30 0 0 _ HR2.out pi xs.length ci xs (RD.of_own HOI.out) (fun _ e => by have := (HOI.out.lt M e).1; omega)
    obtain ⟨n, hn⟩ : ∃ n, min xs.length (30 - 0) = n := ⟨_, rfl⟩
    rw [hn] at hw
    have HN := Lib.hid hn
    clear hn
    go_wp2_with fail
    refine hw.mono ?_
    clear hw
    rintro e w3 ⟨rfl, ⟨cs, hr3, hh3⟩, o3⟩
    rw [held_zero _ _ (by simp)] at hh3
    simp only [List.nil_append, Nat.zero_add] at hr3 hh3
    have hsp := spans_own w3 R M 30 0 n cs hr3
    have HR3 := Lib.hid hr3
    have HH3 := Lib.hid hh3
    have hi3 : w3.ownsRow w1.heap.size 5 1 (.slice pi xs.length ci) xs.length (bv xs) := own_same HOI.out (fun g hg => by have := HOI.out.lt g hg; exact o3.block g this.2 (by omega) (by omega))
    have HI3 := Lib.hid hi3
    clear hr3 hh3 hi3 HR2 HOI
    go_wp2_with fail
    refine hsp.mono ?_
    clear hsp
    rintro e w4 ⟨v1, v2, A, B, rfl, -, -, ho1, ho2, b4⟩
    have hr4 := HR3.out.below b4
    have hpk := peek_own w4 R M 30 0 n cs 30 hr4
    have HO1 := Lib.hid ho1
    have HO2 := Lib.hid ho2
    obtain ⟨p1, c1, rfl⟩ := (Fine.of_own ho1).slice
    obtain ⟨p2, c2, rfl⟩ := (Fine.of_own ho2).slice
    have HR4 := Lib.hid hr4
    clear ho1 ho2 hr4 HR3
    go_wp2_with fail
    refine hpk.mono ?_
    clear hpk
    rintro e w5 ⟨v3, rfl, ho3, -, b5⟩
    obtain ⟨p3, c3, rfl⟩ := (Fine.of_own ho3).slice
    have HO3 := Lib.hid ho3
    clear ho3
    have HR5 := Lib.hid (HR4.out.below b5)
    clear HR4
    generalize (held cs 0 (upTo 30 n)) = D at HO3 ⊢
    go_wp2_with fail
    obtain ⟨G, hG⟩ : ∃ G, w5.heap.size = G := ⟨_, rfl⟩
    have z2 := b2.size
    have z3 := o3.size
    have z4 := b4.size
    have z5 := b5.size
    obtain ⟨W0, hW0⟩ : ∃ W0, w5.alloc (.cells #[.slice pi xs.length ci, .slice p1 A.length c1, .slice p2 B.length c2, .slice p3 D.length c3] 29) = W0 := ⟨_, rfl⟩
    have bW : Below w5.heap.size w5 W0 := by rw [← hW0]; exact (Below.refl _ w5).alloc (Nat.le_refl _) _
    have gG : W0.heap[G]? = some (.cells #[.slice pi xs.length ci, .slice p1 A.length c1, .slice p2 B.length c2, .slice p3 D.length c3] 29 (0, 0)) := by rw [← hW0, ← hG]; exact World.alloc_heap_new w5 _
    have B3 := o3.below (B1.trans (b2.mono B1.size)) hRw hMw (by have := B1.size; omega)
    have BW : Below w.heap.size w W0 := ((B3.trans (b4.mono B3.size)).trans (b5.mono (by have := B3.size; omega))).trans (bW.mono (by have := B3.size; omega))
    have RW : RingAt W0 R M 30 0 n cs := HR5.out.below bW
    have F0 : Fine W0 (.slice pi xs.length ci) xs.length := by
      have h := HI3.out
      exact (Fine.of_own h).same (fun g hg => by have := (h.lt g hg).2; rw [bW.block g (by omega), b5.block g (by omega), b4.block g this])
    have F1 : Fine W0 (.slice p1 A.length c1) A.length := by
      have h := HO1.out
      exact (Fine.of_own h).same (fun g hg => by have := (h.lt g hg).2; rw [bW.block g (by omega), b5.block g (by omega)])
    have F2 : Fine W0 (.slice p2 B.length c2) B.length := by
      have h := HO2.out
      exact (Fine.of_own h).same (fun g hg => by have := (h.lt g hg).2; rw [bW.block g (by omega), b5.block g (by omega)])
    have F3 : Fine W0 (.slice p3 D.length c3) D.length := by
      have h := HO3.out
      exact (Fine.of_own h).same (fun g hg => by have := (h.lt g hg).2; rw [bW.block g (by omega)])
    have hblk : ∀ v ∈ [Value.slice pi xs.length ci, .slice p1 A.length c1, .slice p2 B.length c2, .slice p3 D.length c3], ∀ g, v.ownBlock = some g → w1.heap.size ≤ g ∧ g < G := by
      intro v hv g hg
      simp only [List.mem_cons, List.not_mem_nil, or_false] at hv
      rcases hv with rfl | rfl | rfl | rfl
      · have := HI3.out.lt g hg; omega
      · have := HO1.out.lt g hg; omega
      · have := HO2.out.lt g hg; omega
      · have := HO3.out.lt g hg; omega
    have hfine : ∀ (j : Nat) v m, [Value.slice pi xs.length ci, .slice p1 A.length c1, .slice p2 B.length c2, .slice p3 D.length c3][j]? = some v → [xs.length, A.length, B.length, D.length][j]? = some m → Fine W0 v m := by
      intro j v m hv hm
      match j with
      | 0 => cases hv; cases hm; exact F0
      | 1 => cases hv; cases hm; exact F1
      | 2 => cases hv; cases hm; exact F2
      | 3 => cases hv; cases hm; exact F3
      | j + 4 => simp at hv
    rw [hG, hW0]
    obtain ⟨vs, hvs⟩ : ∃ vs, [Value.slice pi xs.length ci, .slice p1 A.length c1, .slice p2 B.length c2, .slice p3 D.length c3] = vs := ⟨_, rfl⟩
    obtain ⟨ns, hns⟩ : ∃ ns, [xs.length, A.length, B.length, D.length] = ns := ⟨_, rfl⟩
    have hvl : vs.length = 4 := by rw [← hvs]; rfl
    have hnl : ns.length = 4 := by rw [← hns]; rfl
    have hgc : ∀ W, OwnI W0 vs W → ∀ (j : Nat) v, vs[j]? = some v → W.cell? ⟨G, j, none⟩ = some v := by
      intro W hW j v hv
      have : W.heap[G]? = _ := (hW.block G (fun v hv e => by rw [← hvs] at hv; have := (hblk v hv G e).2; omega)).trans gG
      rw [← hvs] at hv
      simpa [World.cell?, this] using hv
    rw [hvs] at hfine hblk
    rw [hns] at hfine
    have HGC := Lib.hid hgc
    have HFI := Lib.hid hfine
    have HBL := Lib.hid hblk
    have HVL := Lib.hid hvl
    have HNL := Lib.hid hnl
    have HG1 : w1.heap.size ≤ G := by omega
    clear hgc hfine hblk hvl hnl hvs hns gG hW0 bW F0 F1 F2 F3 HI3 HO1 HO2 HO3 HR5 b4 b5 o3 b2 B3 hG
    go_loopw [47] (fun i wr => ∃ q : Nat, i = .int .i64 (q : Int) ∧ q ≤ 4 ∧ OwnI W0 vs wr ∧ Hid (∀ (j : Nat) v m, vs[j]? = some v → ns[j]? = some m → Fine wr v m)) (fun i _ => 4 - (intOf i).toNat)
    case atStart => exact ⟨0, rfl, by omega, ⟨rfl, rfl, rfl, rfl, fun _ _ => rfl⟩, HFI⟩
    case round =>
      obtain ⟨q, rfl, hq, hO, hF⟩ := hrel
      by_cases hlt : q < 4
      · have hlt' : (q : Int) < 4 := by omega
        obtain ⟨v, hv⟩ : ∃ v, vs[q]? = some v := ⟨_, List.getElem?_eq_getElem (by rw [HVL.out]; exact hlt)⟩
        obtain ⟨m, hm⟩ : ∃ m, ns[q]? = some m := ⟨_, List.getElem?_eq_getElem (by rw [HNL.out]; exact hlt)⟩
        have hcq := HGC.out wr hO q v hv
        have hfq := hF.out q v m hv hm
        obtain ⟨pv, cv, rfl⟩ := hfq.slice
        have hmm := hfq.max
        have HV := Lib.hid hv
        have HM := Lib.hid hm
        clear hv hm hfq
        go_wp2_with fail
        go_loopw [53] (fun i wr => ∃ u : Nat, i = .int .i64 (u : Int) ∧ u ≤ m ∧ OwnI W0 vs wr ∧ Hid (∀ (j : Nat) v m, vs[j]? = some v → ns[j]? = some m → Fine wr v m)) (fun i _ => m - (intOf i).toNat)
        case atStart => exact ⟨0, rfl, Nat.zero_le _, hO, hF⟩
        case round =>
          clear hcq hO hF
          obtain ⟨u, rfl, hu, hO, hF⟩ := hrel
          by_cases hlu : u < m
          · obtain ⟨g, bb, rfl, e1, e2⟩ := (hF.out q _ m HV.out HM.out).cell hlu
            have hlu' : (u : Int) < (m : Int) := by omega
            have hwr : ((bb.toNat : Int) + 1) % 256 = (((bb + 1 : UInt8)).toNat : Int) := by
              rw [UInt8.toNat_add]
              simp
            have HWR := Lib.hid hwr
            clear hwr
            go_wp2_with fail
            go_roundw
            case rel => exact ⟨u + 1, by go_num, by omega, hO.set (List.mem_of_getElem? HV.out) rfl _, Lib.hid (fun j v m h1 h2 => by rw [HWR.out]; exact (hF.out j v m h1 h2).set g u _)⟩
            case measure => simp [intOf]; omega
          · obtain rfl : u = m := by omega
            clear hu hlu
            go_wp2_with fail
            go_roundw
            case rel => exact ⟨q + 1, by go_num, by omega, hO, hF⟩
            case measure => simp [intOf]; omega
      · obtain rfl : q = 4 := by omega
        clear hq hlt
        have hblR : ∀ v ∈ vs, v.ownBlock ≠ some R := fun v hv e => by have := (HBL.out v hv R e).1; omega
        have hblM : ∀ v ∈ vs, v.ownBlock ≠ some M := fun v hv e => by have := (HBL.out v hv M e).1; omega
        have RQ : RingAt wr R M 30 0 n cs := RW.kept (hO.block R hblR) (hO.block M hblM)
        have BQ : Below w.heap.size w wr := BW.trans ⟨hO.os, hO.tape, hO.output, by rw [hO.size]; exact Nat.le_refl _, fun r hr => hO.block r (fun v hv e => by have := (HBL.out v hv r e).1; omega)⟩
        have hrd := read_any wr.drew R M 30 0 n cs 30 RQ.drew
        have hnN := HN.out
        have hu : upTo 30 n = n := by unfold upTo; omega
        rw [hu, HH3.out] at hrd
        have hnx : n ≤ xs.length := by omega
        have hcut := cut_h p xs.length d n (by obtain ⟨_, _, e, h1, _⟩ := HX.out; cases e; omega)
        have hcr := HX.out.part (i := 0) (j := n) (m := d) (Nat.zero_le _) hnx (by obtain ⟨_, _, e, h1, _⟩ := HX.out; cases e; omega) (Nat.le_refl _)
        rw [List.drop_zero] at hcr
        generalize xs.take n = ys at hrd hcr
        obtain ⟨pz, lz, cz, ez⟩ : ∃ q l c, sliced p 0 n d 1 = .slice q l c := ⟨_, _, _, rfl⟩
        rw [ez] at hcut hcr
        have HRD := Lib.hid hrd
        have HCR := Lib.hid hcr
        have hmin : min (xs.length : Int) 30 = (n : Int) := by omega
        have hnn : (n : Int) ≤ (xs.length : Int) := by omega
        clear hrd hcr hu hnN ez RW
        go_wp2_with fail
        go_region_held3 (fun _ => True) (exact trivial) (first
          | (go_at_call 16; refine HRD.out.mono ?_; rintro e w6 ⟨v6, rfl, hv6, hb6, -, o6⟩; obtain ⟨p6, c6, rfl, hx6⟩ := id hv6)
          | (go_at_call 15; refine (same_any w6 p6 pz _ c6 lz cz _ _ hv6 (HCR.out.below ((o6.below BQ.drew hRw hMw BQ.size)))).mono ?_; rintro e w7 ⟨rfl, mm, rfl⟩))
        go_wp2_with fail
        go_ret
        have hfin := o6.below BQ.drew hRw hMw BQ.size
        exact ⟨rfl, ⟨hfin.os, hfin.tape, hfin.output, hfin.size, hfin.block⟩⟩

theorem own_said (p : Option Addr) (l d : Nat) (zs : List Int) (w : World) (h : (p = none ∧ l = 0 ∧ d = 0 ∧ zs = []) ∨
    ∃ x, p = some x ∧ l ≤ d ∧ d ≤ maxLen ∧ zs.length = d ∧ (∀ i, i < zs.length → w.cell? (x.add i) = some (.int .u8 (zs.getD i 0))) ∧ ∀ n ∈ zs, (Lit.int .u8 n).wf = true) :
    Calls Try.prog 6 #[.slice p l d] w fun e w' => e = .returned (.bool true) ∧ Below w.heap.size w w' := by
  obtain ⟨xs, hx⟩ := row_rd h
  exact own_walk p l d xs w hx

end Go.Proofs.Ytbpbiliekbkciaa
