/- What the document's Read of a source answers. -/
import Derived.Test.YtnmjdpmfmbgoeaaRRRWireRef
namespace Go.Proofs.YtnmjdpmfmbgoeaaRRR
open Go.ChangeShapes Go.WideShapes Go.ChangeAt Go.RowKit
open Wr
set_option linter.unusedVariables false
set_option maxRecDepth 100000

section
variable {K : Nat → Prop} {x : Sr} {p : Option Addr} {c : Nat}
set_option maxHeartbeats 4000000 in
theorem rread16_low (n : Int) (w : World) (h : CSK K w (.slice p x.A.length c) x.A) (hn : n < 1) :
    Calls Try.prog 9 #[.agg (rsrc x p x.A.length c), .int .i64 n] w fun e w' => RReadQ K (rd x n) w e w' := by
  have H0 := Lib.hid (RR.start h)
  obtain ⟨w0, hw0⟩ : ∃ w0, ((w.alloc (.cells (rsrc x p x.A.length c) 33)).alloc (.cells #[.slice none 0 0, .bool false, .int .i64 0, .int .i64 0, .bool false] 33)).alloc (.cells #[.slice none 0 0, .int .i64 0, .int .i64 0] 38) = w0 := ⟨_, rfl⟩
  rw [hw0] at H0
  have HW := Lib.hid hw0
  clear hw0
  unfold rsrc at HW ⊢
  rw [rd_low hn]
  obtain ⟨⟨c0, c1, c2, c3, c4⟩, cf⟩ := five16 H0.out.b0
  obtain ⟨⟨d0, d1, d2, d3, d4⟩, df⟩ := five16 H0.out.b1
  obtain ⟨⟨e0, e1, e2⟩, ef⟩ := three16 H0.out.b2
  obtain ⟨F, hF, f1, f2, hQ⟩ := H0.out.ends (K' := K) (fun g hg => hg.1) (RD.nil _) (fun hne => absurd rfl hne) 1
  have HF := Lib.hid hF
  have HQ := Lib.hid hQ
  clear hF hQ h H0
  go_enter Try.func9, Try.ntmps9
  go_upto_region 1 with (fail)
  have hw := HW.out
  clear HW
  rw [hw]
  clear hw
  go_wp2_with fail
  rw [HF.out]
  refine bodyPost_ret (results_two16 rfl _ _ (w.heap.size + 1) (w.heap.size + 2) _ _ _ _ _ _ _ _ rfl f1 Try.underlying33 rfl (by kernel_rfl) rfl f2 Try.underlying38 rfl (by kernel_rfl)) rfl ?_
  exact HQ.out
set_option maxHeartbeats 4000000 in
theorem rread16_shut (n : Int) (w : World) (h : CSK K w (.slice p x.A.length c) x.A) (hn : ¬ n < 1) (hs : x.sh = true) :
    Calls Try.prog 9 #[.agg (rsrc x p x.A.length c), .int .i64 n] w fun e w' => RReadQ K (rd x n) w e w' := by
  have H0 := Lib.hid (RR.start h)
  obtain ⟨w0, hw0⟩ : ∃ w0, ((w.alloc (.cells (rsrc x p x.A.length c) 33)).alloc (.cells #[.slice none 0 0, .bool false, .int .i64 0, .int .i64 0, .bool false] 33)).alloc (.cells #[.slice none 0 0, .int .i64 0, .int .i64 0] 38) = w0 := ⟨_, rfl⟩
  rw [hw0] at H0
  have HW := Lib.hid hw0
  clear hw0
  unfold rsrc at HW ⊢
  rw [rd_shut hn hs]
  obtain ⟨⟨c0, c1, c2, c3, c4⟩, cf⟩ := five16 H0.out.b0
  obtain ⟨⟨d0, d1, d2, d3, d4⟩, df⟩ := five16 H0.out.b1
  obtain ⟨⟨e0, e1, e2⟩, ef⟩ := three16 H0.out.b2
  obtain ⟨F, hF, f1, f2, hQ⟩ := H0.out.ends (K' := K) (fun g hg => hg.1) (RD.nil _) (fun hne => absurd rfl hne) 8
  rw [hs] at c4 hF
  have HF := Lib.hid hF
  have HQ := Lib.hid hQ
  clear hF hQ h H0 hs
  go_enter Try.func9, Try.ntmps9
  go_upto_region 1 with (fail)
  have hw := HW.out
  clear HW
  rw [hw]
  clear hw
  go_wp2_with fail
  rw [HF.out]
  refine bodyPost_ret (results_two16 rfl _ _ (w.heap.size + 1) (w.heap.size + 2) _ _ _ _ _ _ _ _ rfl f1 Try.underlying33 rfl (by kernel_rfl) rfl f2 Try.underlying38 rfl (by kernel_rfl)) rfl ?_
  exact HQ.out

theorem RR.len {w : World} {z : Sr} {W : World} (h : RR w K z p c W) : lenAt W w.heap.size = z.A.length := by
  unfold lenAt
  rw [(five16 h.b0).1.1]
set_option maxHeartbeats 8000000 in
theorem rread16_next (n : Int) (w : World) (h : CSK K w (.slice p x.A.length c) x.A) (hK : ∀ g, w.heap.size ≤ g → K g) (hn : ¬ n < 1) (hs : x.sh = false) (he : 0 ≤ x.e ∧ x.e ≤ 2) (hb : x.r + x.A.flatten.length ≤ 100000) (hl : x.A.length ≤ 100000) :
    Calls Try.prog 9 #[.agg (rsrc x p x.A.length c), .int .i64 n] w fun e w' => RReadQ K (rd x n) w e w' := by
  have H0 := Lib.hid (RR.start h)
  obtain ⟨w0, hw0⟩ : ∃ w0, ((w.alloc (.cells (rsrc x p x.A.length c) 33)).alloc (.cells #[.slice none 0 0, .bool false, .int .i64 0, .int .i64 0, .bool false] 33)).alloc (.cells #[.slice none 0 0, .int .i64 0, .int .i64 0] 38) = w0 := ⟨_, rfl⟩
  rw [hw0] at H0
  have HW := Lib.hid hw0
  clear hw0
  unfold rsrc at HW ⊢
  rw [rd_next hn hs]
  obtain ⟨⟨c0, c1, c2, c3, c4⟩, cf⟩ := five16 H0.out.b0
  rw [hs] at c4
  obtain ⟨P, hP⟩ : ∃ P, pop x = P := ⟨_, rfl⟩
  have hPe := (pop_left x)
  rw [hP] at hPe ⊢
  have HE := Lib.hid (show 0 ≤ P.e ∧ P.e ≤ 2 by rw [hPe.2.2.1]; exact he)
  have HB := Lib.hid (show P.r + P.A.flatten.length ≤ 100000 by have h1 := hPe.1; unfold left at h1; rw [hPe.2.1, h1]; exact hb)
  have HP := Lib.hid hP
  have HKK := Lib.hid hK
  have HL := Lib.hid hl
  have hn1 : 1 ≤ n := by omega
  obtain ⟨n0, rfl⟩ : ∃ n0 : Nat, n = (n0 : Int) := ⟨n.toNat, by omega⟩
  have hn0 : 1 ≤ n0 := by omega
  rw [Int.toNat_natCast]
  clear hP hPe he hb hl h hK hn hs hn1
  go_enter Try.func9, Try.ntmps9
  go_upto_region 1 with (fail)
  have hw := HW.out
  clear HW
  rw [hw]
  clear hw
  go_wp2_with fail
  go_loopw [16] (fun v wr => ∃ (z : Sr) (p' : Option Addr) (c' : Nat), Hid (RR w (fun g => K g ∧ g < w.heap.size) z p' c' wr) ∧ Hid (pop z = P) ∧ Hid (z.A.length ≤ 100000)) (fun _ W => lenAt W w.heap.size)
  case atStart => exact ⟨x, p, c, H0, HP, HL⟩
  case round =>
    clear H0 HP HL c0 c1 c2 c3 c4 cf
    obtain ⟨z, p', c', HZ, HP, HL⟩ := hrel
    obtain ⟨A, bg, e, r, sh⟩ := z
    obtain ⟨⟨c0, c1, c2, c3, c4⟩, cf⟩ := five16 HZ.out.b0
    rcases A with _ | ⟨y, t⟩
    · have hP := HP.out
      rw [pop_nil] at hP
      subst hP
      obtain ⟨⟨d0, d1, d2, d3, d4⟩, df⟩ := five16 HZ.out.b1
      obtain ⟨⟨e0, e1, e2⟩, ef⟩ := three16 HZ.out.b2
      have hz := HZ.out.size
      have hz0 : w.heap.size < wr.heap.size := by omega
      have hz1 : w.heap.size + 1 < wr.heap.size := by omega
      have he := HE.out
      simp only at he
      obtain ⟨F, hF, f1, f2, hQ⟩ := HZ.out.ends (K' := K) (fun g hg => hg.1) (RD.nil _) (fun hne => absurd rfl hne) (endE e)
      obtain ⟨G, hG⟩ : ∃ G, (F.alloc (.cells #[.int .i64 0, .int .i64 7, .int .i64 9] 3)).drew = G := ⟨_, rfl⟩
      have bG : Below F.heap.size F G := hG ▸ (below_box F (.cells #[.int .i64 0, .int .i64 7, .int .i64 9] 3)).drew
      have HQ := Lib.hid (hQ.below bG)
      have HF1 := Lib.hid ((bG.block _ (Array.getElem?_eq_some_iff.1 f1).1).trans f1)
      have HF2 := Lib.hid ((bG.block _ (Array.getElem?_eq_some_iff.1 f2).1).trans f2)
      simp only [List.length_nil] at hF
      have HF := Lib.hid hF
      have HG := Lib.hid hG
      clear hF hG bG hQ f1 f2
      have KS : Hid (∀ W : World, Still16 w.heap.size wr W → W.cell? ⟨w.heap.size, 0, none⟩ = some (.slice p' 0 c') ∧ W.cell? ⟨w.heap.size, 1, none⟩ = some (.bool bg) ∧ W.cell? ⟨w.heap.size, 2, none⟩ = some (.int .i64 e) ∧ W.cell? ⟨w.heap.size, 3, none⟩ = some (.int .i64 (r : Int)) ∧ W.cell? ⟨w.heap.size, 4, none⟩ = some (.bool sh)) := Lib.hid fun W hW => by
        obtain ⟨g0, -⟩ := five16 (Eq.trans hW HZ.out.b0)
        exact g0
      have BA : Hid (Still16 w.heap.size wr wr) := Lib.hid (show wr.heap[w.heap.size]? = wr.heap[w.heap.size]? from rfl)
      have HLT := Lib.hid hz0
      clear HZ HP HL HE HB HKK
      simp only [List.length_nil] at c0
      obtain rfl | rfl | rfl : e = 0 ∨ e = 1 ∨ e = 2 := by omega
      · go_wp2_with fail
        refine wp_region_noPanic ?_
        refine wp_region_held_drew (S := Still16 w.heap.size wr) (by kernel_rfl) BA.out.drew (fun hHeld => ?_)
        refine wpAnyH_take (i := 0) (oi := { dst := some 41, op := _, type := _, pos := _, after := _, guard := _ }) (v := .agg #[.slice p' 0 c', .bool bg, .int .i64 0, .int .i64 (r : Int), .bool sh]) rfl (by kernel_rfl) (by kernel_rfl) (by kernel_rfl) (fun _ _ _ h => h) (Or.inl ⟨by rfl, fun W hW => by obtain ⟨g0, g1, g2, g3, g4⟩ := KS.out W hW; go_simp⟩) hHeld ?_
        try simp only [Act.put, List.setIfInBounds_toArray, List.set_cons_zero, List.set_cons_succ]
        refine wpAnyH_take (i := 2) (oi := { dst := some 43, op := _, type := _, pos := _, after := _, guard := _ }) (v := .pointer (some ⟨w.heap.size, 2, none⟩)) rfl (by kernel_rfl) (by kernel_rfl) (by kernel_rfl) (fun _ _ _ h => h) (Or.inl ⟨by rfl, fun W hW => by go_simp⟩) hHeld ?_
        try simp only [Act.put, List.setIfInBounds_toArray, List.set_cons_zero, List.set_cons_succ]
        refine wpAnyH_take (i := 3) (oi := { dst := some 44, op := _, type := _, pos := _, after := _, guard := _ }) (v := .int .i64 0) rfl (by kernel_rfl) (by kernel_rfl) (by kernel_rfl) (fun _ _ _ h => h) (Or.inl ⟨by rfl, fun W hW => by obtain ⟨g0, g1, g2, g3, g4⟩ := KS.out W hW; go_simp⟩) hHeld ?_
        try simp only [Act.put, List.setIfInBounds_toArray, List.set_cons_zero, List.set_cons_succ]
        refine wpAnyH_ready (rs := [1, 7]) (by kernel_rfl) (by simp) ?_
        refine AllReadyH.cons rfl (fun K' hK => ?_) (AllReadyH.cons rfl (fun K' hK => ?_) (AllReadyH.nil))
        · go_simp
          refine hK _ _ ?_ (fun hHeld => ?_)
          · repeat (first | with_reducible exact BA.out | with_reducible refine Still16.drew ?_ | with_reducible refine Still16.made ?_ HLT.out _ | with_reducible refine Still16.set ?_ (by dsimp only; omega) _)
          clear hK K'
          try simp only [Act.put, List.setIfInBounds_toArray, List.set_cons_zero, List.set_cons_succ]
          refine wpAnyH_take (i := 4) (oi := { dst := some 45, op := _, type := _, pos := _, after := _, guard := _ }) (v := .pointer (some ⟨wr.heap.size, 0, none⟩)) rfl (by kernel_rfl) (by kernel_rfl) (by kernel_rfl) (fun _ _ _ h => h) (Or.inl ⟨by rfl, fun W hW => by go_simp⟩) hHeld ?_
          try simp only [Act.put, List.setIfInBounds_toArray, List.set_cons_zero, List.set_cons_succ]
          refine wpAnyH_ready (rs := [5, 7]) (by kernel_rfl) (by simp) ?_
          refine AllReadyH.cons rfl (fun K' hK => ?_) (AllReadyH.cons rfl (fun K' hK => ?_) (AllReadyH.nil))
          · go_simp
            refine hK _ _ ?_ (fun hHeld => ?_)
            · repeat (first | with_reducible exact BA.out | with_reducible refine Still16.drew ?_ | with_reducible refine Still16.made ?_ HLT.out _ | with_reducible refine Still16.set ?_ (by dsimp only; omega) _)
            clear hK K'
            try simp only [Act.put, List.setIfInBounds_toArray, List.set_cons_zero, List.set_cons_succ]
            refine wpAnyH_take (i := 6) (oi := { dst := some 47, op := _, type := _, pos := _, after := _, guard := _ }) (v := .agg #[.slice none 0 0, .int .i64 0, .int .i64 0]) rfl (by kernel_rfl) (by kernel_rfl) (by kernel_rfl) (fun _ _ _ h => h) (Or.inl ⟨by rfl, fun W hW => by go_simp⟩) hHeld ?_
            try simp only [Act.put, List.setIfInBounds_toArray, List.set_cons_zero, List.set_cons_succ]
            refine wpAnyH_ready (rs := [7]) (by kernel_rfl) (by simp) ?_
            refine AllReadyH.cons rfl (fun K' hK => ?_) (AllReadyH.nil)
            go_simp
            refine hK _ _ ?_ (fun hHeld => ?_)
            · repeat (first | with_reducible exact BA.out | with_reducible refine Still16.drew ?_ | with_reducible refine Still16.made ?_ HLT.out _ | with_reducible refine Still16.set ?_ (by dsimp only; omega) _)
            clear hK K'
            try simp only [Act.put, List.setIfInBounds_toArray, List.set_cons_zero, List.set_cons_succ]
            refine wpAnyH_ready (rs := [8]) (by kernel_rfl) (by simp) ?_
            refine AllReadyH.cons rfl (fun K' hK => ?_) (AllReadyH.nil)
            go_simp
            refine hK _ _ ?_ (fun hHeld => ?_)
            · repeat (first | with_reducible exact BA.out | with_reducible refine Still16.drew ?_ | with_reducible refine Still16.made ?_ HLT.out _ | with_reducible refine Still16.set ?_ (by dsimp only; omega) _)
            clear hK K'
            try simp only [Act.put, List.setIfInBounds_toArray, List.set_cons_zero, List.set_cons_succ]
            refine wpAnyH_done (by kernel_rfl) ?_ _
            refine NoPanic.normal ?_
            have hF := HF.out
            rw [show endE 0 = 0 from rfl] at hF
            rw [show w.heap.size + 1 + 1 = w.heap.size + 2 from rfl, hF, HG.out]
            clear hF
            go_wp2_with fail
            refine bodyPost_ret (results_two16 rfl _ _ (w.heap.size + 1) (w.heap.size + 2) _ _ _ _ _ _ _ _ rfl HF1.out Try.underlying33 rfl (by kernel_rfl) rfl HF2.out Try.underlying38 rfl (by kernel_rfl)) rfl ?_
            exact HQ.out
          · go_simp
            refine hK _ _ ?_ (fun hHeld => ?_)
            · repeat (first | with_reducible exact BA.out | with_reducible refine Still16.drew ?_ | with_reducible refine Still16.made ?_ HLT.out _ | with_reducible refine Still16.set ?_ (by dsimp only; omega) _)
            clear hK K'
            try simp only [Act.put, List.setIfInBounds_toArray, List.set_cons_zero, List.set_cons_succ]
            refine wpAnyH_ready (rs := [5]) (by kernel_rfl) (by simp) ?_
            refine AllReadyH.cons rfl (fun K' hK => ?_) (AllReadyH.nil)
            go_simp
            refine hK _ _ ?_ (fun hHeld => ?_)
            · repeat (first | with_reducible exact BA.out | with_reducible refine Still16.drew ?_ | with_reducible refine Still16.made ?_ HLT.out _ | with_reducible refine Still16.set ?_ (by dsimp only; omega) _)
            clear hK K'
            try simp only [Act.put, List.setIfInBounds_toArray, List.set_cons_zero, List.set_cons_succ]
            refine wpAnyH_take (i := 6) (oi := { dst := some 47, op := _, type := _, pos := _, after := _, guard := _ }) (v := .agg #[.slice none 0 0, .int .i64 0, .int .i64 0]) rfl (by kernel_rfl) (by kernel_rfl) (by kernel_rfl) (fun _ _ _ h => h) (Or.inl ⟨by rfl, fun W hW => by go_simp⟩) hHeld ?_
            try simp only [Act.put, List.setIfInBounds_toArray, List.set_cons_zero, List.set_cons_succ]
            refine wpAnyH_ready (rs := [8]) (by kernel_rfl) (by simp) ?_
            refine AllReadyH.cons rfl (fun K' hK => ?_) (AllReadyH.nil)
            go_simp
            refine hK _ _ ?_ (fun hHeld => ?_)
            · repeat (first | with_reducible exact BA.out | with_reducible refine Still16.drew ?_ | with_reducible refine Still16.made ?_ HLT.out _ | with_reducible refine Still16.set ?_ (by dsimp only; omega) _)
            clear hK K'
            try simp only [Act.put, List.setIfInBounds_toArray, List.set_cons_zero, List.set_cons_succ]
            refine wpAnyH_done (by kernel_rfl) ?_ _
            refine NoPanic.normal ?_
            have hF := HF.out
            rw [show endE 0 = 0 from rfl] at hF
            rw [show w.heap.size + 1 + 1 = w.heap.size + 2 from rfl, hF, HG.out]
            clear hF
            go_wp2_with fail
            refine bodyPost_ret (results_two16 rfl _ _ (w.heap.size + 1) (w.heap.size + 2) _ _ _ _ _ _ _ _ rfl HF1.out Try.underlying33 rfl (by kernel_rfl) rfl HF2.out Try.underlying38 rfl (by kernel_rfl)) rfl ?_
            exact HQ.out
        · go_simp
          refine hK _ _ ?_ (fun hHeld => ?_)
          · repeat (first | with_reducible exact BA.out | with_reducible refine Still16.drew ?_ | with_reducible refine Still16.made ?_ HLT.out _ | with_reducible refine Still16.set ?_ (by dsimp only; omega) _)
          clear hK K'
          try simp only [Act.put, List.setIfInBounds_toArray, List.set_cons_zero, List.set_cons_succ]
          refine wpAnyH_ready (rs := [1]) (by kernel_rfl) (by simp) ?_
          refine AllReadyH.cons rfl (fun K' hK => ?_) (AllReadyH.nil)
          go_simp
          refine hK _ _ ?_ (fun hHeld => ?_)
          · repeat (first | with_reducible exact BA.out | with_reducible refine Still16.drew ?_ | with_reducible refine Still16.made ?_ HLT.out _ | with_reducible refine Still16.set ?_ (by dsimp only; omega) _)
          clear hK K'
          try simp only [Act.put, List.setIfInBounds_toArray, List.set_cons_zero, List.set_cons_succ]
          refine wpAnyH_take (i := 4) (oi := { dst := some 45, op := _, type := _, pos := _, after := _, guard := _ }) (v := .pointer (some ⟨wr.heap.size, 0, none⟩)) rfl (by kernel_rfl) (by kernel_rfl) (by kernel_rfl) (fun _ _ _ h => h) (Or.inl ⟨by rfl, fun W hW => by go_simp⟩) hHeld ?_
          try simp only [Act.put, List.setIfInBounds_toArray, List.set_cons_zero, List.set_cons_succ]
          refine wpAnyH_ready (rs := [5]) (by kernel_rfl) (by simp) ?_
          refine AllReadyH.cons rfl (fun K' hK => ?_) (AllReadyH.nil)
          go_simp
          refine hK _ _ ?_ (fun hHeld => ?_)
          · repeat (first | with_reducible exact BA.out | with_reducible refine Still16.drew ?_ | with_reducible refine Still16.made ?_ HLT.out _ | with_reducible refine Still16.set ?_ (by dsimp only; omega) _)
          clear hK K'
          try simp only [Act.put, List.setIfInBounds_toArray, List.set_cons_zero, List.set_cons_succ]
          refine wpAnyH_take (i := 6) (oi := { dst := some 47, op := _, type := _, pos := _, after := _, guard := _ }) (v := .agg #[.slice none 0 0, .int .i64 0, .int .i64 0]) rfl (by kernel_rfl) (by kernel_rfl) (by kernel_rfl) (fun _ _ _ h => h) (Or.inl ⟨by rfl, fun W hW => by go_simp⟩) hHeld ?_
          try simp only [Act.put, List.setIfInBounds_toArray, List.set_cons_zero, List.set_cons_succ]
          refine wpAnyH_ready (rs := [8]) (by kernel_rfl) (by simp) ?_
          refine AllReadyH.cons rfl (fun K' hK => ?_) (AllReadyH.nil)
          go_simp
          refine hK _ _ ?_ (fun hHeld => ?_)
          · repeat (first | with_reducible exact BA.out | with_reducible refine Still16.drew ?_ | with_reducible refine Still16.made ?_ HLT.out _ | with_reducible refine Still16.set ?_ (by dsimp only; omega) _)
          clear hK K'
          try simp only [Act.put, List.setIfInBounds_toArray, List.set_cons_zero, List.set_cons_succ]
          refine wpAnyH_done (by kernel_rfl) ?_ _
          refine NoPanic.normal ?_
          have hF := HF.out
          rw [show endE 0 = 0 from rfl] at hF
          rw [show w.heap.size + 1 + 1 = w.heap.size + 2 from rfl, hF, HG.out]
          clear hF
          go_wp2_with fail
          refine bodyPost_ret (results_two16 rfl _ _ (w.heap.size + 1) (w.heap.size + 2) _ _ _ _ _ _ _ _ rfl HF1.out Try.underlying33 rfl (by kernel_rfl) rfl HF2.out Try.underlying38 rfl (by kernel_rfl)) rfl ?_
          exact HQ.out
      · go_wp2_with fail
        refine wp_region_noPanic ?_
        refine wp_region_held_drew (S := Still16 w.heap.size wr) (by kernel_rfl) BA.out.drew (fun hHeld => ?_)
        refine wpAnyH_take (i := 0) (oi := { dst := some 41, op := _, type := _, pos := _, after := _, guard := _ }) (v := .agg #[.slice p' 0 c', .bool bg, .int .i64 1, .int .i64 (r : Int), .bool sh]) rfl (by kernel_rfl) (by kernel_rfl) (by kernel_rfl) (fun _ _ _ h => h) (Or.inl ⟨by rfl, fun W hW => by obtain ⟨g0, g1, g2, g3, g4⟩ := KS.out W hW; go_simp⟩) hHeld ?_
        try simp only [Act.put, List.setIfInBounds_toArray, List.set_cons_zero, List.set_cons_succ]
        refine wpAnyH_take (i := 2) (oi := { dst := some 43, op := _, type := _, pos := _, after := _, guard := _ }) (v := .pointer (some ⟨w.heap.size, 2, none⟩)) rfl (by kernel_rfl) (by kernel_rfl) (by kernel_rfl) (fun _ _ _ h => h) (Or.inl ⟨by rfl, fun W hW => by go_simp⟩) hHeld ?_
        try simp only [Act.put, List.setIfInBounds_toArray, List.set_cons_zero, List.set_cons_succ]
        refine wpAnyH_take (i := 3) (oi := { dst := some 44, op := _, type := _, pos := _, after := _, guard := _ }) (v := .int .i64 1) rfl (by kernel_rfl) (by kernel_rfl) (by kernel_rfl) (fun _ _ _ h => h) (Or.inl ⟨by rfl, fun W hW => by obtain ⟨g0, g1, g2, g3, g4⟩ := KS.out W hW; go_simp⟩) hHeld ?_
        try simp only [Act.put, List.setIfInBounds_toArray, List.set_cons_zero, List.set_cons_succ]
        refine wpAnyH_ready (rs := [1, 7]) (by kernel_rfl) (by simp) ?_
        refine AllReadyH.cons rfl (fun K' hK => ?_) (AllReadyH.cons rfl (fun K' hK => ?_) (AllReadyH.nil))
        · go_simp
          refine hK _ _ ?_ (fun hHeld => ?_)
          · repeat (first | with_reducible exact BA.out | with_reducible refine Still16.drew ?_ | with_reducible refine Still16.made ?_ HLT.out _ | with_reducible refine Still16.set ?_ (by dsimp only; omega) _)
          clear hK K'
          try simp only [Act.put, List.setIfInBounds_toArray, List.set_cons_zero, List.set_cons_succ]
          refine wpAnyH_take (i := 4) (oi := { dst := some 45, op := _, type := _, pos := _, after := _, guard := _ }) (v := .pointer (some ⟨wr.heap.size, 1, none⟩)) rfl (by kernel_rfl) (by kernel_rfl) (by kernel_rfl) (fun _ _ _ h => h) (Or.inl ⟨by rfl, fun W hW => by go_simp⟩) hHeld ?_
          try simp only [Act.put, List.setIfInBounds_toArray, List.set_cons_zero, List.set_cons_succ]
          refine wpAnyH_ready (rs := [5, 7]) (by kernel_rfl) (by simp) ?_
          refine AllReadyH.cons rfl (fun K' hK => ?_) (AllReadyH.cons rfl (fun K' hK => ?_) (AllReadyH.nil))
          · go_simp
            refine hK _ _ ?_ (fun hHeld => ?_)
            · repeat (first | with_reducible exact BA.out | with_reducible refine Still16.drew ?_ | with_reducible refine Still16.made ?_ HLT.out _ | with_reducible refine Still16.set ?_ (by dsimp only; omega) _)
            clear hK K'
            try simp only [Act.put, List.setIfInBounds_toArray, List.set_cons_zero, List.set_cons_succ]
            refine wpAnyH_take (i := 6) (oi := { dst := some 47, op := _, type := _, pos := _, after := _, guard := _ }) (v := .agg #[.slice none 0 0, .int .i64 0, .int .i64 7]) rfl (by kernel_rfl) (by kernel_rfl) (by kernel_rfl) (fun _ _ _ h => h) (Or.inl ⟨by rfl, fun W hW => by go_simp⟩) hHeld ?_
            try simp only [Act.put, List.setIfInBounds_toArray, List.set_cons_zero, List.set_cons_succ]
            refine wpAnyH_ready (rs := [7]) (by kernel_rfl) (by simp) ?_
            refine AllReadyH.cons rfl (fun K' hK => ?_) (AllReadyH.nil)
            go_simp
            refine hK _ _ ?_ (fun hHeld => ?_)
            · repeat (first | with_reducible exact BA.out | with_reducible refine Still16.drew ?_ | with_reducible refine Still16.made ?_ HLT.out _ | with_reducible refine Still16.set ?_ (by dsimp only; omega) _)
            clear hK K'
            try simp only [Act.put, List.setIfInBounds_toArray, List.set_cons_zero, List.set_cons_succ]
            refine wpAnyH_ready (rs := [8]) (by kernel_rfl) (by simp) ?_
            refine AllReadyH.cons rfl (fun K' hK => ?_) (AllReadyH.nil)
            go_simp
            refine hK _ _ ?_ (fun hHeld => ?_)
            · repeat (first | with_reducible exact BA.out | with_reducible refine Still16.drew ?_ | with_reducible refine Still16.made ?_ HLT.out _ | with_reducible refine Still16.set ?_ (by dsimp only; omega) _)
            clear hK K'
            try simp only [Act.put, List.setIfInBounds_toArray, List.set_cons_zero, List.set_cons_succ]
            refine wpAnyH_done (by kernel_rfl) ?_ _
            refine NoPanic.normal ?_
            have hF := HF.out
            rw [show endE 1 = 7 from rfl] at hF
            rw [show w.heap.size + 1 + 1 = w.heap.size + 2 from rfl, hF, HG.out]
            clear hF
            go_wp2_with fail
            refine bodyPost_ret (results_two16 rfl _ _ (w.heap.size + 1) (w.heap.size + 2) _ _ _ _ _ _ _ _ rfl HF1.out Try.underlying33 rfl (by kernel_rfl) rfl HF2.out Try.underlying38 rfl (by kernel_rfl)) rfl ?_
            exact HQ.out
          · go_simp
            refine hK _ _ ?_ (fun hHeld => ?_)
            · repeat (first | with_reducible exact BA.out | with_reducible refine Still16.drew ?_ | with_reducible refine Still16.made ?_ HLT.out _ | with_reducible refine Still16.set ?_ (by dsimp only; omega) _)
            clear hK K'
            try simp only [Act.put, List.setIfInBounds_toArray, List.set_cons_zero, List.set_cons_succ]
            refine wpAnyH_ready (rs := [5]) (by kernel_rfl) (by simp) ?_
            refine AllReadyH.cons rfl (fun K' hK => ?_) (AllReadyH.nil)
            go_simp
            refine hK _ _ ?_ (fun hHeld => ?_)
            · repeat (first | with_reducible exact BA.out | with_reducible refine Still16.drew ?_ | with_reducible refine Still16.made ?_ HLT.out _ | with_reducible refine Still16.set ?_ (by dsimp only; omega) _)
            clear hK K'
            try simp only [Act.put, List.setIfInBounds_toArray, List.set_cons_zero, List.set_cons_succ]
            refine wpAnyH_take (i := 6) (oi := { dst := some 47, op := _, type := _, pos := _, after := _, guard := _ }) (v := .agg #[.slice none 0 0, .int .i64 0, .int .i64 7]) rfl (by kernel_rfl) (by kernel_rfl) (by kernel_rfl) (fun _ _ _ h => h) (Or.inl ⟨by rfl, fun W hW => by go_simp⟩) hHeld ?_
            try simp only [Act.put, List.setIfInBounds_toArray, List.set_cons_zero, List.set_cons_succ]
            refine wpAnyH_ready (rs := [8]) (by kernel_rfl) (by simp) ?_
            refine AllReadyH.cons rfl (fun K' hK => ?_) (AllReadyH.nil)
            go_simp
            refine hK _ _ ?_ (fun hHeld => ?_)
            · repeat (first | with_reducible exact BA.out | with_reducible refine Still16.drew ?_ | with_reducible refine Still16.made ?_ HLT.out _ | with_reducible refine Still16.set ?_ (by dsimp only; omega) _)
            clear hK K'
            try simp only [Act.put, List.setIfInBounds_toArray, List.set_cons_zero, List.set_cons_succ]
            refine wpAnyH_done (by kernel_rfl) ?_ _
            refine NoPanic.normal ?_
            have hF := HF.out
            rw [show endE 1 = 7 from rfl] at hF
            rw [show w.heap.size + 1 + 1 = w.heap.size + 2 from rfl, hF, HG.out]
            clear hF
            go_wp2_with fail
            refine bodyPost_ret (results_two16 rfl _ _ (w.heap.size + 1) (w.heap.size + 2) _ _ _ _ _ _ _ _ rfl HF1.out Try.underlying33 rfl (by kernel_rfl) rfl HF2.out Try.underlying38 rfl (by kernel_rfl)) rfl ?_
            exact HQ.out
        · go_simp
          refine hK _ _ ?_ (fun hHeld => ?_)
          · repeat (first | with_reducible exact BA.out | with_reducible refine Still16.drew ?_ | with_reducible refine Still16.made ?_ HLT.out _ | with_reducible refine Still16.set ?_ (by dsimp only; omega) _)
          clear hK K'
          try simp only [Act.put, List.setIfInBounds_toArray, List.set_cons_zero, List.set_cons_succ]
          refine wpAnyH_ready (rs := [1]) (by kernel_rfl) (by simp) ?_
          refine AllReadyH.cons rfl (fun K' hK => ?_) (AllReadyH.nil)
          go_simp
          refine hK _ _ ?_ (fun hHeld => ?_)
          · repeat (first | with_reducible exact BA.out | with_reducible refine Still16.drew ?_ | with_reducible refine Still16.made ?_ HLT.out _ | with_reducible refine Still16.set ?_ (by dsimp only; omega) _)
          clear hK K'
          try simp only [Act.put, List.setIfInBounds_toArray, List.set_cons_zero, List.set_cons_succ]
          refine wpAnyH_take (i := 4) (oi := { dst := some 45, op := _, type := _, pos := _, after := _, guard := _ }) (v := .pointer (some ⟨wr.heap.size, 1, none⟩)) rfl (by kernel_rfl) (by kernel_rfl) (by kernel_rfl) (fun _ _ _ h => h) (Or.inl ⟨by rfl, fun W hW => by go_simp⟩) hHeld ?_
          try simp only [Act.put, List.setIfInBounds_toArray, List.set_cons_zero, List.set_cons_succ]
          refine wpAnyH_ready (rs := [5]) (by kernel_rfl) (by simp) ?_
          refine AllReadyH.cons rfl (fun K' hK => ?_) (AllReadyH.nil)
          go_simp
          refine hK _ _ ?_ (fun hHeld => ?_)
          · repeat (first | with_reducible exact BA.out | with_reducible refine Still16.drew ?_ | with_reducible refine Still16.made ?_ HLT.out _ | with_reducible refine Still16.set ?_ (by dsimp only; omega) _)
          clear hK K'
          try simp only [Act.put, List.setIfInBounds_toArray, List.set_cons_zero, List.set_cons_succ]
          refine wpAnyH_take (i := 6) (oi := { dst := some 47, op := _, type := _, pos := _, after := _, guard := _ }) (v := .agg #[.slice none 0 0, .int .i64 0, .int .i64 7]) rfl (by kernel_rfl) (by kernel_rfl) (by kernel_rfl) (fun _ _ _ h => h) (Or.inl ⟨by rfl, fun W hW => by go_simp⟩) hHeld ?_
          try simp only [Act.put, List.setIfInBounds_toArray, List.set_cons_zero, List.set_cons_succ]
          refine wpAnyH_ready (rs := [8]) (by kernel_rfl) (by simp) ?_
          refine AllReadyH.cons rfl (fun K' hK => ?_) (AllReadyH.nil)
          go_simp
          refine hK _ _ ?_ (fun hHeld => ?_)
          · repeat (first | with_reducible exact BA.out | with_reducible refine Still16.drew ?_ | with_reducible refine Still16.made ?_ HLT.out _ | with_reducible refine Still16.set ?_ (by dsimp only; omega) _)
          clear hK K'
          try simp only [Act.put, List.setIfInBounds_toArray, List.set_cons_zero, List.set_cons_succ]
          refine wpAnyH_done (by kernel_rfl) ?_ _
          refine NoPanic.normal ?_
          have hF := HF.out
          rw [show endE 1 = 7 from rfl] at hF
          rw [show w.heap.size + 1 + 1 = w.heap.size + 2 from rfl, hF, HG.out]
          clear hF
          go_wp2_with fail
          refine bodyPost_ret (results_two16 rfl _ _ (w.heap.size + 1) (w.heap.size + 2) _ _ _ _ _ _ _ _ rfl HF1.out Try.underlying33 rfl (by kernel_rfl) rfl HF2.out Try.underlying38 rfl (by kernel_rfl)) rfl ?_
          exact HQ.out
      · go_wp2_with fail
        refine wp_region_noPanic ?_
        refine wp_region_held_drew (S := Still16 w.heap.size wr) (by kernel_rfl) BA.out.drew (fun hHeld => ?_)
        refine wpAnyH_take (i := 0) (oi := { dst := some 41, op := _, type := _, pos := _, after := _, guard := _ }) (v := .agg #[.slice p' 0 c', .bool bg, .int .i64 2, .int .i64 (r : Int), .bool sh]) rfl (by kernel_rfl) (by kernel_rfl) (by kernel_rfl) (fun _ _ _ h => h) (Or.inl ⟨by rfl, fun W hW => by obtain ⟨g0, g1, g2, g3, g4⟩ := KS.out W hW; go_simp⟩) hHeld ?_
        try simp only [Act.put, List.setIfInBounds_toArray, List.set_cons_zero, List.set_cons_succ]
        refine wpAnyH_take (i := 2) (oi := { dst := some 43, op := _, type := _, pos := _, after := _, guard := _ }) (v := .pointer (some ⟨w.heap.size, 2, none⟩)) rfl (by kernel_rfl) (by kernel_rfl) (by kernel_rfl) (fun _ _ _ h => h) (Or.inl ⟨by rfl, fun W hW => by go_simp⟩) hHeld ?_
        try simp only [Act.put, List.setIfInBounds_toArray, List.set_cons_zero, List.set_cons_succ]
        refine wpAnyH_take (i := 3) (oi := { dst := some 44, op := _, type := _, pos := _, after := _, guard := _ }) (v := .int .i64 2) rfl (by kernel_rfl) (by kernel_rfl) (by kernel_rfl) (fun _ _ _ h => h) (Or.inl ⟨by rfl, fun W hW => by obtain ⟨g0, g1, g2, g3, g4⟩ := KS.out W hW; go_simp⟩) hHeld ?_
        try simp only [Act.put, List.setIfInBounds_toArray, List.set_cons_zero, List.set_cons_succ]
        refine wpAnyH_ready (rs := [1, 7]) (by kernel_rfl) (by simp) ?_
        refine AllReadyH.cons rfl (fun K' hK => ?_) (AllReadyH.cons rfl (fun K' hK => ?_) (AllReadyH.nil))
        · go_simp
          refine hK _ _ ?_ (fun hHeld => ?_)
          · repeat (first | with_reducible exact BA.out | with_reducible refine Still16.drew ?_ | with_reducible refine Still16.made ?_ HLT.out _ | with_reducible refine Still16.set ?_ (by dsimp only; omega) _)
          clear hK K'
          try simp only [Act.put, List.setIfInBounds_toArray, List.set_cons_zero, List.set_cons_succ]
          refine wpAnyH_take (i := 4) (oi := { dst := some 45, op := _, type := _, pos := _, after := _, guard := _ }) (v := .pointer (some ⟨wr.heap.size, 2, none⟩)) rfl (by kernel_rfl) (by kernel_rfl) (by kernel_rfl) (fun _ _ _ h => h) (Or.inl ⟨by rfl, fun W hW => by go_simp⟩) hHeld ?_
          try simp only [Act.put, List.setIfInBounds_toArray, List.set_cons_zero, List.set_cons_succ]
          refine wpAnyH_ready (rs := [5, 7]) (by kernel_rfl) (by simp) ?_
          refine AllReadyH.cons rfl (fun K' hK => ?_) (AllReadyH.cons rfl (fun K' hK => ?_) (AllReadyH.nil))
          · go_simp
            refine hK _ _ ?_ (fun hHeld => ?_)
            · repeat (first | with_reducible exact BA.out | with_reducible refine Still16.drew ?_ | with_reducible refine Still16.made ?_ HLT.out _ | with_reducible refine Still16.set ?_ (by dsimp only; omega) _)
            clear hK K'
            try simp only [Act.put, List.setIfInBounds_toArray, List.set_cons_zero, List.set_cons_succ]
            refine wpAnyH_take (i := 6) (oi := { dst := some 47, op := _, type := _, pos := _, after := _, guard := _ }) (v := .agg #[.slice none 0 0, .int .i64 0, .int .i64 9]) rfl (by kernel_rfl) (by kernel_rfl) (by kernel_rfl) (fun _ _ _ h => h) (Or.inl ⟨by rfl, fun W hW => by go_simp⟩) hHeld ?_
            try simp only [Act.put, List.setIfInBounds_toArray, List.set_cons_zero, List.set_cons_succ]
            refine wpAnyH_ready (rs := [7]) (by kernel_rfl) (by simp) ?_
            refine AllReadyH.cons rfl (fun K' hK => ?_) (AllReadyH.nil)
            go_simp
            refine hK _ _ ?_ (fun hHeld => ?_)
            · repeat (first | with_reducible exact BA.out | with_reducible refine Still16.drew ?_ | with_reducible refine Still16.made ?_ HLT.out _ | with_reducible refine Still16.set ?_ (by dsimp only; omega) _)
            clear hK K'
            try simp only [Act.put, List.setIfInBounds_toArray, List.set_cons_zero, List.set_cons_succ]
            refine wpAnyH_ready (rs := [8]) (by kernel_rfl) (by simp) ?_
            refine AllReadyH.cons rfl (fun K' hK => ?_) (AllReadyH.nil)
            go_simp
            refine hK _ _ ?_ (fun hHeld => ?_)
            · repeat (first | with_reducible exact BA.out | with_reducible refine Still16.drew ?_ | with_reducible refine Still16.made ?_ HLT.out _ | with_reducible refine Still16.set ?_ (by dsimp only; omega) _)
            clear hK K'
            try simp only [Act.put, List.setIfInBounds_toArray, List.set_cons_zero, List.set_cons_succ]
            refine wpAnyH_done (by kernel_rfl) ?_ _
            refine NoPanic.normal ?_
            have hF := HF.out
            rw [show endE 2 = 9 from rfl] at hF
            rw [show w.heap.size + 1 + 1 = w.heap.size + 2 from rfl, hF, HG.out]
            clear hF
            go_wp2_with fail
            refine bodyPost_ret (results_two16 rfl _ _ (w.heap.size + 1) (w.heap.size + 2) _ _ _ _ _ _ _ _ rfl HF1.out Try.underlying33 rfl (by kernel_rfl) rfl HF2.out Try.underlying38 rfl (by kernel_rfl)) rfl ?_
            exact HQ.out
          · go_simp
            refine hK _ _ ?_ (fun hHeld => ?_)
            · repeat (first | with_reducible exact BA.out | with_reducible refine Still16.drew ?_ | with_reducible refine Still16.made ?_ HLT.out _ | with_reducible refine Still16.set ?_ (by dsimp only; omega) _)
            clear hK K'
            try simp only [Act.put, List.setIfInBounds_toArray, List.set_cons_zero, List.set_cons_succ]
            refine wpAnyH_ready (rs := [5]) (by kernel_rfl) (by simp) ?_
            refine AllReadyH.cons rfl (fun K' hK => ?_) (AllReadyH.nil)
            go_simp
            refine hK _ _ ?_ (fun hHeld => ?_)
            · repeat (first | with_reducible exact BA.out | with_reducible refine Still16.drew ?_ | with_reducible refine Still16.made ?_ HLT.out _ | with_reducible refine Still16.set ?_ (by dsimp only; omega) _)
            clear hK K'
            try simp only [Act.put, List.setIfInBounds_toArray, List.set_cons_zero, List.set_cons_succ]
            refine wpAnyH_take (i := 6) (oi := { dst := some 47, op := _, type := _, pos := _, after := _, guard := _ }) (v := .agg #[.slice none 0 0, .int .i64 0, .int .i64 9]) rfl (by kernel_rfl) (by kernel_rfl) (by kernel_rfl) (fun _ _ _ h => h) (Or.inl ⟨by rfl, fun W hW => by go_simp⟩) hHeld ?_
            try simp only [Act.put, List.setIfInBounds_toArray, List.set_cons_zero, List.set_cons_succ]
            refine wpAnyH_ready (rs := [8]) (by kernel_rfl) (by simp) ?_
            refine AllReadyH.cons rfl (fun K' hK => ?_) (AllReadyH.nil)
            go_simp
            refine hK _ _ ?_ (fun hHeld => ?_)
            · repeat (first | with_reducible exact BA.out | with_reducible refine Still16.drew ?_ | with_reducible refine Still16.made ?_ HLT.out _ | with_reducible refine Still16.set ?_ (by dsimp only; omega) _)
            clear hK K'
            try simp only [Act.put, List.setIfInBounds_toArray, List.set_cons_zero, List.set_cons_succ]
            refine wpAnyH_done (by kernel_rfl) ?_ _
            refine NoPanic.normal ?_
            have hF := HF.out
            rw [show endE 2 = 9 from rfl] at hF
            rw [show w.heap.size + 1 + 1 = w.heap.size + 2 from rfl, hF, HG.out]
            clear hF
            go_wp2_with fail
            refine bodyPost_ret (results_two16 rfl _ _ (w.heap.size + 1) (w.heap.size + 2) _ _ _ _ _ _ _ _ rfl HF1.out Try.underlying33 rfl (by kernel_rfl) rfl HF2.out Try.underlying38 rfl (by kernel_rfl)) rfl ?_
            exact HQ.out
        · go_simp
          refine hK _ _ ?_ (fun hHeld => ?_)
          · repeat (first | with_reducible exact BA.out | with_reducible refine Still16.drew ?_ | with_reducible refine Still16.made ?_ HLT.out _ | with_reducible refine Still16.set ?_ (by dsimp only; omega) _)
          clear hK K'
          try simp only [Act.put, List.setIfInBounds_toArray, List.set_cons_zero, List.set_cons_succ]
          refine wpAnyH_ready (rs := [1]) (by kernel_rfl) (by simp) ?_
          refine AllReadyH.cons rfl (fun K' hK => ?_) (AllReadyH.nil)
          go_simp
          refine hK _ _ ?_ (fun hHeld => ?_)
          · repeat (first | with_reducible exact BA.out | with_reducible refine Still16.drew ?_ | with_reducible refine Still16.made ?_ HLT.out _ | with_reducible refine Still16.set ?_ (by dsimp only; omega) _)
          clear hK K'
          try simp only [Act.put, List.setIfInBounds_toArray, List.set_cons_zero, List.set_cons_succ]
          refine wpAnyH_take (i := 4) (oi := { dst := some 45, op := _, type := _, pos := _, after := _, guard := _ }) (v := .pointer (some ⟨wr.heap.size, 2, none⟩)) rfl (by kernel_rfl) (by kernel_rfl) (by kernel_rfl) (fun _ _ _ h => h) (Or.inl ⟨by rfl, fun W hW => by go_simp⟩) hHeld ?_
          try simp only [Act.put, List.setIfInBounds_toArray, List.set_cons_zero, List.set_cons_succ]
          refine wpAnyH_ready (rs := [5]) (by kernel_rfl) (by simp) ?_
          refine AllReadyH.cons rfl (fun K' hK => ?_) (AllReadyH.nil)
          go_simp
          refine hK _ _ ?_ (fun hHeld => ?_)
          · repeat (first | with_reducible exact BA.out | with_reducible refine Still16.drew ?_ | with_reducible refine Still16.made ?_ HLT.out _ | with_reducible refine Still16.set ?_ (by dsimp only; omega) _)
          clear hK K'
          try simp only [Act.put, List.setIfInBounds_toArray, List.set_cons_zero, List.set_cons_succ]
          refine wpAnyH_take (i := 6) (oi := { dst := some 47, op := _, type := _, pos := _, after := _, guard := _ }) (v := .agg #[.slice none 0 0, .int .i64 0, .int .i64 9]) rfl (by kernel_rfl) (by kernel_rfl) (by kernel_rfl) (fun _ _ _ h => h) (Or.inl ⟨by rfl, fun W hW => by go_simp⟩) hHeld ?_
          try simp only [Act.put, List.setIfInBounds_toArray, List.set_cons_zero, List.set_cons_succ]
          refine wpAnyH_ready (rs := [8]) (by kernel_rfl) (by simp) ?_
          refine AllReadyH.cons rfl (fun K' hK => ?_) (AllReadyH.nil)
          go_simp
          refine hK _ _ ?_ (fun hHeld => ?_)
          · repeat (first | with_reducible exact BA.out | with_reducible refine Still16.drew ?_ | with_reducible refine Still16.made ?_ HLT.out _ | with_reducible refine Still16.set ?_ (by dsimp only; omega) _)
          clear hK K'
          try simp only [Act.put, List.setIfInBounds_toArray, List.set_cons_zero, List.set_cons_succ]
          refine wpAnyH_done (by kernel_rfl) ?_ _
          refine NoPanic.normal ?_
          have hF := HF.out
          rw [show endE 2 = 9 from rfl] at hF
          rw [show w.heap.size + 1 + 1 = w.heap.size + 2 from rfl, hF, HG.out]
          clear hF
          go_wp2_with fail
          refine bodyPost_ret (results_two16 rfl _ _ (w.heap.size + 1) (w.heap.size + 2) _ _ _ _ _ _ _ _ rfl HF1.out Try.underlying33 rfl (by kernel_rfl) rfl HF2.out Try.underlying38 rfl (by kernel_rfl)) rfl ?_
          exact HQ.out
    · obtain ⟨ad, pu, cu, rfl, cx, hx, hxk⟩ := HZ.out.cs.at (i := 0) rfl
      rw [Addr.add_zero'] at cx
      obtain ⟨p2, d2', e2, ht⟩ := HZ.out.cs.tail
      have hcut : ∀ W, (Instr.slice 22 (.slice (some ad) (y :: t).length c') (some (.int .i64 1)) none none).run Try.prog W = .ok (.slice p2 t.length d2') W := fun W => by rw [cutc_l _ _ _ (by simp) W, e2]
      have hlen : (0 : Int) < ((y :: t).length : Int) := by simp only [List.length_cons]; omega
      have hlen0 : (((y :: t).length : Int) == 0) = false := by rw [beq_eq_false_iff_ne]; omega
      have htl : t.length ≤ 100000 := by have := HL.out; simp only [List.length_cons] at this; omega
      have HTL := Lib.hid htl
      have f0 := cf 0
      have f1 := cf 1
      have HLN := Lib.hid HZ.out.len
      clear e2 htl
      obtain ⟨ml, hml⟩ : ∃ ml, (y :: t).length = ml := ⟨_, rfl⟩
      rw [hml] at c0 hlen hcut hlen0
      have HML := Lib.hid hml
      clear hml
      by_cases hy : y = []
      · subst hy
        cases bg with
        | true =>
          have hP := HP.out
          rw [show pop ⟨[] :: t, true, e, r, sh⟩ = ⟨t, false, e, r, sh⟩ from rfl] at hP
          have HN := Lib.hid ((HZ.out.popped ht).began false)
          have HP2 := Lib.hid hP
          clear HP hP HB HKK hx hxk ht
          go_wp2_with fail
          refine ⟨⟨⟨t, false, e, r, sh⟩, p2, d2', HN, Lib.hid ?_, HTL⟩, ?_⟩
          · rw [pop_new _ rfl]; exact HP2.out
          · rw [HN.out.len, HLN.out]
            simp
        | false =>
          have hP := HP.out
          rw [show pop ⟨[] :: t, false, e, r, sh⟩ = ⟨[] :: t, false, e, r, sh⟩ from rfl] at hP
          subst hP
          have HN := Lib.hid (HZ.out.popped ht)
          obtain ⟨⟨g0, g1, g2, g3, g4⟩, -⟩ := five16 HN.out.b0
          obtain ⟨⟨d0, d1, d2, d3, d4⟩, df⟩ := five16 HN.out.b1
          obtain ⟨⟨e0, e1, e3⟩, ef⟩ := three16 HN.out.b2
          obtain ⟨F, hF, q1, q2, hQ⟩ := HN.out.ends (K' := K) (fun g hg => hg.1) (RD.nil _) (fun hne => absurd rfl hne) 0
          have HF := Lib.hid hF
          have HQ := Lib.hid hQ
          clear hF hQ HZ HN HP HB HKK hx hxk ht HL HE
          go_upto_region 12 with (fail)
          generalize wr.setCell ⟨w.heap.size, 0, none⟩ (.slice p2 t.length d2') = W2 at *
          go_wp2_with fail
          rw [HF.out]
          refine bodyPost_ret (results_two16 rfl _ _ (w.heap.size + 1) (w.heap.size + 2) _ _ _ _ _ _ _ _ rfl q1 Try.underlying33 rfl (by kernel_rfl) rfl q2 Try.underlying38 rfl (by kernel_rfl)) rfl ?_
          exact HQ.out
      · have hP := HP.out
        rw [pop_some hy] at hP
        subst hP
        have hyl : (((y.length : Nat) : Int) == 0) = false := by
          rw [beq_eq_false_iff_ne]
          intro e0
          exact hy (List.eq_nil_of_length_eq_zero (by omega))
        have hyb : r + y.length ≤ 100000 := by have := HB.out; simp only [List.flatten_cons, List.length_append] at this; omega
        obtain ⟨k, hk⟩ : ∃ k, min n0 y.length = k := ⟨_, rfl⟩
        have hky : k ≤ y.length := by omega
        obtain ⟨p3, c3', e3, hx3, hx3k⟩ := cut_from hx k hky
        obtain ⟨p4, c4', e4, hx4, hx4k⟩ := cut_to hx k hky
        obtain ⟨m3, hm3⟩ : ∃ m3, y.length - k = m3 := ⟨_, rfl⟩
        rw [hm3] at e3 hx3 hx3k
        clear hm3
        have hcut3 : ∀ W, (Instr.slice 34 (.slice pu y.length cu) (some (.int .i64 (k : Int))) none none).run Try.prog W = .ok (.slice p3 m3 c3') W := fun W => by rw [cut_l pu _ cu k hky W, e3]
        have hcut4 : ∀ W, (Instr.slice 34 (.slice pu y.length cu) none (some (.int .i64 (k : Int))) none).run Try.prog W = .ok (.slice p4 k c4') W := fun W => by
          have hmc : y.length ≤ cu := by obtain ⟨_, _, e', h1, _⟩ := hx; cases e'; omega
          rw [cut_h pu _ cu k (by omega) W, e4]
        obtain ⟨pa, na, ca, w2, pb, cb, w3, r1, r2, hz2, hz3, hb3⟩ := HZ.out.lists hx3 (fun _ g hg => hxk hy g (hx3k g hg)) ht HTL.out
        obtain ⟨nl, hnl⟩ : ∃ nl, (y.drop k :: t).length = nl := ⟨_, rfl⟩
        have hg0 : w2.cell? ⟨w.heap.size, 0, none⟩ = some (.slice (some ad) ml c') := by rw [← HML.out]; exact (five16 hz2.b0).1.1
        rw [hnl] at r2 hz3
        have HNL := Lib.hid hnl
        have R1 := Lib.hid r1
        have R2 := Lib.hid r2
        have hwlt : w.heap.size < wr.heap.size := by have := HZ.out.size; omega
        have HB3 := Lib.hid ((hb3.block _ hwlt).trans HZ.out.b0)
        have HZ3 := Lib.hid hz3
        have htk := take_k y (n := n0) (k := k) hk.symm
        have hkl : (y.take k).length = k := by rw [List.length_take]; omega
        have wrk : IntKind.i64.wrap ((r : Int) + (k : Int)) = ((r + k : Nat) : Int) := by rw [IntWalk.i64_in _ (by omega)]; omega
        obtain ⟨C, hC⟩ : ∃ C, r + k = C := ⟨_, rfl⟩
        rw [hC] at wrk
        have HFIN : Hid (∀ W6, RR w (fun g => (K g ∧ g < w.heap.size) ∨ wr.heap.size ≤ g) ⟨y.drop k :: t, true, e, C, sh⟩ pb cb W6 → (∀ g, g < wr.heap.size → g ≠ w.heap.size → W6.heap[g]? = wr.heap[g]?) →
            ∃ F, ((((((((W6.setCell ⟨w.heap.size + 1, 0, none⟩ (.slice pb nl cb)).setCell ⟨w.heap.size + 1, 1, none⟩ (.bool true)).setCell ⟨w.heap.size + 1, 2, none⟩ (.int .i64 e)).setCell ⟨w.heap.size + 1, 3, none⟩ (.int .i64 (C : Int))).setCell ⟨w.heap.size + 1, 4, none⟩ (.bool sh)).setCell ⟨w.heap.size + 2, 0, none⟩ (.slice p4 k c4')).setCell ⟨w.heap.size + 2, 1, none⟩ (.int .i64 0)).setCell ⟨w.heap.size + 2, 2, none⟩ (.int .i64 0)) = F ∧
              F.heap[w.heap.size + 1]? = some (.cells (rsrc ⟨y.drop k :: t, true, e, C, sh⟩ pb nl cb) 33 (0, 0)) ∧ F.heap[w.heap.size + 2]? = some (.cells #[.slice p4 k c4', .int .i64 0, .int .i64 0] 38 (0, 0)) ∧
              RReadQ K (nxt ⟨y :: t, bg, e, r, sh⟩ n0) w (.returned (.tuple #[.agg (rsrc ⟨y.drop k :: t, true, e, C, sh⟩ pb nl cb), .agg #[.slice p4 k c4', .int .i64 0, .int .i64 0]])) F) := Lib.hid fun W6 h6 hk6 => by
          rw [nxt_some hy, htk.1, htk.2, hkl, hC, ← hnl]
          refine h6.ends (K' := K) (fun g hg => ?_) (hx4.keep fun hne g hg => ?_) (fun hne g hg => .inl (hxk hy g (hx4k g hg))) 0
          · rcases hg with hg | hg
            · exact hg.1
            · exact HKK.out g (by omega)
          · have hlt := hx.lt hy
            obtain ⟨g', e', hlt'⟩ := hlt
            have hg2 := hx4k g hg
            rw [e'] at hg2
            cases hg2
            exact hk6 _ hlt' (by have := hxk hy _ e'; omega)
        have HB4 := Lib.hid hb3
        clear HZ HP HB HKK hz2 hnl hC hx hxk ht HL HE HLN hx3 hx3k hx4 hx4k e3 e4 r1 r2 hz3 hb3 htk hkl hyb hy
        obtain ⟨yl, hyl'⟩ : ∃ yl, y.length = yl := ⟨_, rfl⟩
        rw [hyl'] at cx hcut3 hcut4 hyl hk hky
        clear hyl'
        rcases (show (yl < n0 ∧ k = yl) ∨ (¬ yl < n0 ∧ k = n0) by omega) with ⟨hgt, rfl⟩ | ⟨hgt, rfl⟩
        · have hi : (k : Int) < (n0 : Int) := by omega
          clear hgt hk hky
          go_upto_region 18 with (at_builtin; refine wpList_append_run rfl (.tmp 70) (.tmp 74) _ rfl (.slice none 0 0) (.slice (some ⟨wr.heap.size, 0, none⟩) 1 1) (.slice pa na ca) w2 rfl rfl R1.out ?_)
          clear c0 c1 c2 c3 c4 cf f0 f1 cx
          have y0 := (five16 HB3.out).1.1
          have yf := (five16 HB3.out).2 0
          go_upto_region 19 with (at_builtin; refine wpList_append_run rfl (.tmp 76) (.tmp 79) _ rfl (.slice pa na ca) (.slice p2 t.length d2') (.slice pb nl cb) w3 rfl rfl R2.out ?_)
          have HK4 : Hid (∀ g, g < wr.heap.size → g ≠ w.heap.size → (w3.setCell ⟨w.heap.size, 0, none⟩ (.slice pb nl cb)).heap[g]? = wr.heap[g]?) := Lib.hid fun g hg hne => (Below.heap_setCell _ _ _ _ hne).trans (HB4.out.block g hg)
          clear y0 yf hg0
          generalize w3.setCell ⟨w.heap.size, 0, none⟩ (.slice pb nl cb) = W4 at *
          have HN6 := Lib.hid ((HZ3.out.began true).more C)
          have HK6 : Hid (∀ g, g < wr.heap.size → g ≠ w.heap.size → ((W4.setCell ⟨w.heap.size, 1, none⟩ (.bool true)).setCell ⟨w.heap.size, 3, none⟩ (.int .i64 (C : Int))).heap[g]? = wr.heap[g]?) := Lib.hid fun g hg hne => (Below.heap_setCell _ _ _ _ hne).trans ((Below.heap_setCell _ _ _ _ hne).trans (HK4.out g hg hne))
          obtain ⟨⟨g0, g1, g2, g3, g4⟩, gf⟩ := five16 HZ3.out.b0
          have gf1 := gf 1
          have gf3 := gf 3
          clear gf g0 g2 g4
          go_upto_region 21 with (fail)
          generalize (W4.setCell ⟨w.heap.size, 1, none⟩ (.bool true)).setCell ⟨w.heap.size, 3, none⟩ (.int .i64 (C : Int)) = W6 at *
          clear g1 g3 gf1 gf3 HK4 HZ3
          obtain ⟨F, hF, q1, q2, hQ⟩ := HFIN.out W6 HN6.out HK6.out
          have HF := Lib.hid hF
          have HQ := Lib.hid hQ
          have hg0 : W6.cell? ⟨w.heap.size, 0, none⟩ = some (.slice pb nl cb) := by rw [← HNL.out]; exact (five16 HN6.out.b0).1.1
          have KS : Hid (∀ W : World, Still16 w.heap.size W6 W → W.cell? ⟨w.heap.size, 0, none⟩ = some (.slice pb nl cb) ∧ W.cell? ⟨w.heap.size, 1, none⟩ = some (.bool true) ∧ W.cell? ⟨w.heap.size, 2, none⟩ = some (.int .i64 e) ∧ W.cell? ⟨w.heap.size, 3, none⟩ = some (.int .i64 (C : Int)) ∧ W.cell? ⟨w.heap.size, 4, none⟩ = some (.bool sh)) := Lib.hid fun W hW => by
            have g := five16 (Eq.trans hW HN6.out.b0)
            rw [show (Sr.mk (y.drop k :: t) true e C sh).A.length = nl from HNL.out] at g
            exact g.1
          have BA : Hid (Still16 w.heap.size W6 W6) := Lib.hid (show W6.heap[w.heap.size]? = W6.heap[w.heap.size]? from rfl)
          obtain ⟨⟨d0, d1, d2, d3, d4⟩, df⟩ := five16 HN6.out.b1
          obtain ⟨⟨e0, e1, e3⟩, ef⟩ := three16 HN6.out.b2
          clear hF hQ HFIN HN6 HK6
          go_wp2_with fail
          go_region_held3 (fun W => W.cell? ⟨w.heap.size, 0, none⟩ = some (.slice pb nl cb) ∧ W.cell? ⟨w.heap.size, 1, none⟩ = some (.bool true) ∧ W.cell? ⟨w.heap.size, 2, none⟩ = some (.int .i64 e) ∧ W.cell? ⟨w.heap.size, 3, none⟩ = some (.int .i64 (C : Int)) ∧ W.cell? ⟨w.heap.size, 4, none⟩ = some (.bool sh))
            ((refine KS.out _ ?_; repeat (first | with_reducible exact BA.out | with_reducible refine Still16.drew ?_ | with_reducible refine Still16.set ?_ (by dsimp only; omega) _)))
            (fail)
          rw [show w.heap.size + 1 + 1 = w.heap.size + 2 from rfl, HF.out]
          have HQ1 := Lib.hid (show F.drew.heap[w.heap.size + 1]? = _ from q1)
          have HQ2 := Lib.hid (show F.drew.heap[w.heap.size + 2]? = _ from q2)
          have HQ3 := Lib.hid (HQ.out.below (Below.refl F.heap.size F).drew)
          clear q1 q2 HQ HF
          generalize F.drew = G at *
          go_wp2_with fail
          refine bodyPost_ret (results_two16 rfl _ _ (w.heap.size + 1) (w.heap.size + 2) _ _ _ _ _ _ _ _ rfl HQ1.out Try.underlying33 rfl (by kernel_rfl) rfl HQ2.out Try.underlying38 rfl (by kernel_rfl)) rfl ?_
          exact HQ3.out
        · have hi : ¬ (yl : Int) < (k : Int) := by omega
          clear hgt hk hky
          go_upto_region 18 with (at_builtin; refine wpList_append_run rfl (.tmp 70) (.tmp 74) _ rfl (.slice none 0 0) (.slice (some ⟨wr.heap.size, 0, none⟩) 1 1) (.slice pa na ca) w2 rfl rfl R1.out ?_)
          clear c0 c1 c2 c3 c4 cf f0 f1 cx
          have y0 := (five16 HB3.out).1.1
          have yf := (five16 HB3.out).2 0
          go_upto_region 19 with (at_builtin; refine wpList_append_run rfl (.tmp 76) (.tmp 79) _ rfl (.slice pa na ca) (.slice p2 t.length d2') (.slice pb nl cb) w3 rfl rfl R2.out ?_)
          have HK4 : Hid (∀ g, g < wr.heap.size → g ≠ w.heap.size → (w3.setCell ⟨w.heap.size, 0, none⟩ (.slice pb nl cb)).heap[g]? = wr.heap[g]?) := Lib.hid fun g hg hne => (Below.heap_setCell _ _ _ _ hne).trans (HB4.out.block g hg)
          clear y0 yf hg0
          generalize w3.setCell ⟨w.heap.size, 0, none⟩ (.slice pb nl cb) = W4 at *
          have HN6 := Lib.hid ((HZ3.out.began true).more C)
          have HK6 : Hid (∀ g, g < wr.heap.size → g ≠ w.heap.size → ((W4.setCell ⟨w.heap.size, 1, none⟩ (.bool true)).setCell ⟨w.heap.size, 3, none⟩ (.int .i64 (C : Int))).heap[g]? = wr.heap[g]?) := Lib.hid fun g hg hne => (Below.heap_setCell _ _ _ _ hne).trans ((Below.heap_setCell _ _ _ _ hne).trans (HK4.out g hg hne))
          obtain ⟨⟨g0, g1, g2, g3, g4⟩, gf⟩ := five16 HZ3.out.b0
          have gf1 := gf 1
          have gf3 := gf 3
          clear gf g0 g2 g4
          go_upto_region 21 with (fail)
          generalize (W4.setCell ⟨w.heap.size, 1, none⟩ (.bool true)).setCell ⟨w.heap.size, 3, none⟩ (.int .i64 (C : Int)) = W6 at *
          clear g1 g3 gf1 gf3 HK4 HZ3
          obtain ⟨F, hF, q1, q2, hQ⟩ := HFIN.out W6 HN6.out HK6.out
          have HF := Lib.hid hF
          have HQ := Lib.hid hQ
          have hg0 : W6.cell? ⟨w.heap.size, 0, none⟩ = some (.slice pb nl cb) := by rw [← HNL.out]; exact (five16 HN6.out.b0).1.1
          have KS : Hid (∀ W : World, Still16 w.heap.size W6 W → W.cell? ⟨w.heap.size, 0, none⟩ = some (.slice pb nl cb) ∧ W.cell? ⟨w.heap.size, 1, none⟩ = some (.bool true) ∧ W.cell? ⟨w.heap.size, 2, none⟩ = some (.int .i64 e) ∧ W.cell? ⟨w.heap.size, 3, none⟩ = some (.int .i64 (C : Int)) ∧ W.cell? ⟨w.heap.size, 4, none⟩ = some (.bool sh)) := Lib.hid fun W hW => by
            have g := five16 (Eq.trans hW HN6.out.b0)
            rw [show (Sr.mk (y.drop k :: t) true e C sh).A.length = nl from HNL.out] at g
            exact g.1
          have BA : Hid (Still16 w.heap.size W6 W6) := Lib.hid (show W6.heap[w.heap.size]? = W6.heap[w.heap.size]? from rfl)
          obtain ⟨⟨d0, d1, d2, d3, d4⟩, df⟩ := five16 HN6.out.b1
          obtain ⟨⟨e0, e1, e3⟩, ef⟩ := three16 HN6.out.b2
          clear hF hQ HFIN HN6 HK6
          go_wp2_with fail
          go_region_held3 (fun W => W.cell? ⟨w.heap.size, 0, none⟩ = some (.slice pb nl cb) ∧ W.cell? ⟨w.heap.size, 1, none⟩ = some (.bool true) ∧ W.cell? ⟨w.heap.size, 2, none⟩ = some (.int .i64 e) ∧ W.cell? ⟨w.heap.size, 3, none⟩ = some (.int .i64 (C : Int)) ∧ W.cell? ⟨w.heap.size, 4, none⟩ = some (.bool sh))
            ((refine KS.out _ ?_; repeat (first | with_reducible exact BA.out | with_reducible refine Still16.drew ?_ | with_reducible refine Still16.set ?_ (by dsimp only; omega) _)))
            (fail)
          rw [show w.heap.size + 1 + 1 = w.heap.size + 2 from rfl, HF.out]
          have HQ1 := Lib.hid (show F.drew.heap[w.heap.size + 1]? = _ from q1)
          have HQ2 := Lib.hid (show F.drew.heap[w.heap.size + 2]? = _ from q2)
          have HQ3 := Lib.hid (HQ.out.below (Below.refl F.heap.size F).drew)
          clear q1 q2 HQ HF
          generalize F.drew = G at *
          go_wp2_with fail
          refine bodyPost_ret (results_two16 rfl _ _ (w.heap.size + 1) (w.heap.size + 2) _ _ _ _ _ _ _ _ rfl HQ1.out Try.underlying33 rfl (by kernel_rfl) rfl HQ2.out Try.underlying38 rfl (by kernel_rfl)) rfl ?_
          exact HQ3.out

theorem rread16_any (n : Int) (w : World) (h : CSK K w (.slice p x.A.length c) x.A) (hK : ∀ g, w.heap.size ≤ g → K g) (he : 0 ≤ x.e ∧ x.e ≤ 2) (hb : x.r + x.A.flatten.length ≤ 100000) (hl : x.A.length ≤ 100000) :
    Calls Try.prog 9 #[.agg (rsrc x p x.A.length c), .int .i64 n] w fun e w' => RReadQ K (rd x n) w e w' := by
  by_cases hn : n < 1
  · exact rread16_low n w h hn
  · cases hs : x.sh with
    | true => exact rread16_shut n w h hn hs
    | false => exact rread16_next n w h hK hn hs he hb hl
end

end Go.Proofs.YtnmjdpmfmbgoeaaRRR
