/- A trailer's line ends: its field is kept. -/
import Derived.Test.YtjkccacpffikbaaGreatDoorDecLine
namespace Go.Proofs.YtjkccacpffikbaaGreatDoor
open Go.ChangeShapes Go.WideShapes Go.ChangeAt Go.RowKit
open Oc Fl Bk Bd Dk
set_option linter.unusedVariables false
set_option maxRecDepth 100000

theorem parse9_any (x : List UInt8) (w : World) (hx : x.length ≤ 1000000) (hsp : Spans w) :
    Calls Tryz.prog 57 #[.string (arr x)] w fun e w' => ∃ k : Int, e = .returned (.tuple #[.agg #[.string (lf x).name, .string (lf x).value], .int .i64 k]) ∧ Below w.heap.size w w' := by
  have hs := arr_size x
  cases hg : good (arr x) with
  | true =>
    refine (parse_good (arr x) w (by omega) hsp hg).mono ?_
    rintro e w' ⟨rfl, hb⟩
    refine ⟨0, ?_, hb⟩
    unfold lf
    rw [if_pos hg, fld]
  | false =>
    refine (parse_bad (arr x) w (by omega) hsp hg).mono ?_
    rintro e w' ⟨rfl, hb⟩
    refine ⟨2, ?_, hb⟩
    unfold lf
    rw [if_neg (by rw [hg]; decide)]
    rfl

theorem fld_set9 {A : World} {R : Nat} {x y : Value} {t : TypeId} (h : A.heap[R]? = some (.cells #[x, y] t (0, 0))) (u v : Value) :
    ((A.setCell ⟨R, 0, none⟩ u).setCell ⟨R, 1, none⟩ v).heap[R]? = some (.cells #[u, v] t (0, 0)) := heap_set v (heap_set u h)

section
variable {R : Nat} {l : Lim} {d : Ds} {tv lv gv : Value}

set_option maxHeartbeats 8000000 in
theorem lineEnd9_any (c : UInt8) (w : World) (h : DA R l d tv lv gv w) (hbl : d.bytes ≤ 1000000) (hln : d.line.length ≤ 999999) (hfl : d.fields.length ≤ 1000000) (hne : d.line ≠ []) :
    Calls Tryz.prog 46 #[.pointer (some ⟨R, 0, none⟩), .int .u8 (c.toNat : Int)] w fun x w' => TakeQ R l tv lv gv (lineEndD l c d) w x w' := by
  by_cases h10 : c = 10
  case neg =>
    have hne : ((c.toNat : Int) != 10) = true := ub_nne (c := 10) h10
    have HE := Lib.hid (show lineEndD l c d = failD 2 d from if_neg h10)
    have HF := Lib.hid (fail_any 2 w h)
    clear h
    go_enter Tryz.func46, Tryz.ntmps46
    go_wp2_with (go_at_call 51; refine HF.out.mono ?_; rintro e w' ⟨lv', gv', rfl, h1, h2⟩)
    go_ret
    rw [HE.out]
    exact ⟨lv', gv', rfl, h1, h2⟩
  case pos =>
  have HK := keep_any c 8 w h hbl (by omega)
  subst h10
  have hcc : (((10 : UInt8).toNat : Int) != 10) = false := by decide
  by_cases hb : d.bytes = l.bytes
  · have HE := Lib.hid (show lineEndD l 10 d = failD 5 d by simp [lineEndD, hb])
    rw [keepD, if_pos hb] at HK
    replace HK := Lib.hid HK
    clear h
    go_enter Tryz.func46, Tryz.ntmps46
    go_wp2_with (go_at_call 56; refine HK.out.mono ?_; rintro e w' ⟨lv', gv', rfl, h1, h2⟩)
    go_ret
    rw [HE.out]
    exact ⟨lv', gv', rfl, h1, h2⟩
  · obtain ⟨bb, hbb⟩ : ∃ bb, d.bytes + 1 = bb := ⟨_, rfl⟩
    have HE := Lib.hid (show lineEndD l 10 d = (8, { d with bytes := bb, line := [], fields := d.fields ++ [lf d.line.dropLast] }) by simp [lineEndD, hb, hbb])
    rw [keepD, if_neg hb, hbb] at HK
    replace HK := Lib.hid HK
    have HL := Lib.hid (And.intro hln (And.intro hfl hne))
    clear h hb hbb hbl hln hfl hne
    go_enter Tryz.func46, Tryz.ntmps46
    go_upto_region 5 with (go_at_call 56; refine HK.out.mono ?_; rintro e W1 ⟨lv1, gv1, rfl, h1, m1⟩)
    have hlt := h1.lt
    obtain ⟨hln, hfl, hne⟩ := HL.out
    obtain ⟨n, hn⟩ : ∃ n, d.line.length = n := ⟨_, rfl⟩
    have hll : (d.line ++ [10]).length = n + 1 := by simp [hn]
    have hn0 : 0 < n := by rw [← hn]; exact List.length_pos_iff.2 hne
    obtain ⟨m, hm⟩ : ∃ m, n - 1 = m := ⟨_, rfl⟩
    have hrd : RD W1 lv1 (d.line ++ [10]) := RD.of_own h1.line
    have hline : W1.ownsRow (0 + 1) 5 1 lv1 (d.line ++ [10]).length (bv (d.line ++ [10])) := h1.line
    rw [hll] at hline
    obtain ⟨p1, k1, rfl, hk1⟩ := own_len9 hline
    clear hline
    have c10 : ∀ W, Below W1.heap.size W1 W → W.cell? ⟨R, 10, none⟩ = some (.slice p1 (n + 1) k1) := fun W hW => (h1.below hW).reads.c10
    have x10 := h1.reads.c10
    obtain ⟨uv, huv⟩ : ∃ uv, sliced p1 0 m k1 1 = uv := ⟨_, rfl⟩
    have hcut : ∀ W, (Instr.slice 29 (.slice p1 (n + 1) k1) none (some (.int .i64 (m : Int))) none).run Tryz.prog W = .ok uv W := fun W => huv ▸ cut_h p1 (n + 1) k1 m (by omega) W
    have hpart := hrd.part (i := 0) (j := m) (m := k1) (by omega) (by rw [hll]; omega) (by omega) (Nat.le_refl _)
    rw [huv, List.drop_zero, show List.take m (d.line ++ [10]) = d.line.dropLast by rw [List.take_append_of_le_length (by omega), List.dropLast_eq_take, hn, hm]] at hpart
    have hsub : IntKind.i64.wrap (((n + 1 : Nat) : Int) - 2) = (m : Int) := by rw [IntWalk.i64_in _ (by omega)]; omega
    have hsub' : IntKind.i64.wrap ((n : Int) + 1 - 2) = (m : Int) := by rw [IntWalk.i64_in _ (by omega)]; omega
    obtain ⟨T, hT⟩ : ∃ T, d.line.dropLast = T := ⟨_, rfl⟩
    rw [hT] at hpart HE
    have hTl : T.length ≤ 1000000 := by rw [← hT, List.length_dropLast]; omega
    obtain ⟨o, ho⟩ : ∃ o : Obj, .cells #[.string ⟨#[]⟩, .string ⟨#[]⟩] 78 = o := ⟨_, rfl⟩
    have KS : Hid (∀ W, Below W1.heap.size W1 W → W.cell? ⟨R, 10, none⟩ = some (.slice p1 (n + 1) k1) ∧ (convert 29 9 uv).run Tryz.prog W = .ok (.string (arr T)) W) := Lib.hid fun W hW => ⟨c10 W hW, conv_rd (hpart.below hW)⟩
    have HP : Hid (∀ W, Below W1.heap.size W1 W → _) := Lib.hid fun W hW => parse9_any T W hTl (h1.spans.below hW)
    obtain ⟨⟨fx, fy⟩, hf⟩ : ∃ f, lf T = f := ⟨_, rfl⟩
    rw [hf] at HP HE
    simp only at HP
    have BA : Hid (Below W1.heap.size W1 W1.drew) := Lib.hid (below_drewN (Below.refl _ W1) 1)
    have H1 := Lib.hid h1
    have M1 := Lib.hid m1
    generalize arr T = tx at KS HP
    subst ho
    clear h1 m1 HK hll hrd hk1 c10 huv hpart hT hTl hf HL hne hln hn hn0 hm
    go_region_held3 (fun W => W.cell? ⟨R, 10, none⟩ = some (.slice p1 (n + 1) k1) ∧ (convert 29 9 uv).run Tryz.prog W = .ok (.string tx) W)
      ((refine KS.out _ ?_; first | with_reducible exact BA.out | exact ahead BA.out (below_box _ _) | exact (below_box W1 _).drew | exact (BA.out.setCell hz5 _).setCell hz5 _ | exact (BA.out.setCell (Nat.le_refl _) _).setCell (Nat.le_refl _) _))
      ((go_at_call 57; refine (HP.out _ (by first | exact BA.out | exact (below_box W1 _).drew)).mono ?_; rintro e w5 ⟨ke, rfl, hb'⟩; have HB' := Lib.hid hb';
        replace BA : Hid (Below W1.heap.size W1 w5) := Lib.hid (by first | exact ahead BA.out hb' | exact ahead (below_box W1 _).drew hb'); have hz5 := BA.out.size; clear hb'
        try (have hq9 : w5.heap[W1.heap.size]? = some (.cells #[.string ⟨#[]⟩, .string ⟨#[]⟩] 78 (0, 0)) := (HB'.out.block _ (by simp)).trans (World.alloc_heap_new W1 _); obtain ⟨q0, q1, q2⟩ := two_cells hq9; have HQ9 := Lib.hid hq9; clear hq9)))
    all_goals
      first
      | (obtain ⟨w9, hw9⟩ : ∃ w9, w5.alloc (.cells #[.string fx, .string fy] 78) = w9 := ⟨_, rfl⟩
         have g9 : w9.heap[w5.heap.size]? = some (.cells #[.string fx, .string fy] 78 (0, 0)) := by rw [← hw9]; exact World.alloc_heap_new w5 _
         have b9 : Below W1.heap.size W1 w9 := by rw [← hw9]; exact ahead BA.out (below_box _ _)
         rw [hw9]
         generalize w5.heap.size = Rf at *
         clear hw9)
      | (obtain ⟨w9, hw9⟩ : ∃ w9, (w5.setCell ⟨W1.heap.size, 0, none⟩ (.string fx)).setCell ⟨W1.heap.size, 1, none⟩ (.string fy) = w9 := ⟨_, rfl⟩
         have g9 : w9.heap[W1.heap.size]? = some (.cells #[.string fx, .string fy] 78 (0, 0)) := by rw [← hw9]; exact fld_set9 HQ9.out _ _
         have b9 : Below W1.heap.size W1 w9 := by rw [← hw9]; exact (BA.out.setCell (Nat.le_refl _) _).setCell (Nat.le_refl _) _
         rw [hw9]
         clear q0 q1 q2 HQ9 hw9
         obtain ⟨Rf, hRf⟩ : ∃ Rf, W1.heap.size = Rf := ⟨_, rfl⟩
         have G9 := Lib.hid g9
         rw [hRf] at G9
         simp only [hRf]
         clear g9
         have g9 := G9.out
         clear G9)
    all_goals
      have H9 := Lib.hid (H1.out.below b9)
      have M9 := Lib.hid (M1.out.trans (Moves.of_below b9))
      obtain ⟨r0, r1, r2⟩ := two_cells g9
      have hRf9 : Rf < w9.heap.size := (Array.getElem?_eq_some_iff.1 g9).1
      have hR9 := H9.out.lt
      have c11 := H9.out.reads.c11
      obtain ⟨w6, hw6⟩ : ∃ w6, (w9.alloc (.cells #[.string fx, .string fy] 78)).drew = w6 := ⟨_, rfl⟩
      have b6 : Below w9.heap.size w9 w6 := by rw [← hw6]; exact (below_box w9 _).drew
      have h6 := H9.out.below b6
      have hfs : FS w6 (.slice (some ⟨w9.heap.size, 0, none⟩) 1 1) [⟨fx, fy⟩] := by rw [← hw6]; exact FS.below (fs_one w9 ⟨fx, fy⟩ 78) (below_drewN (Below.refl _ _) 1)
      obtain ⟨v', w3, t0, t1, t2, t3⟩ := append_fs9 w6 53 (0 + 1) gv1 (.slice (some ⟨w9.heap.size, 0, none⟩) 1 1) d.fields [⟨fx, fy⟩] h6.fields hfs (by simp; omega) (by have := h6.lt; have := h6.base; omega)
      have h3 := h6.fielded t2 t1 (d' := { d with bytes := bb, line := d.line ++ [10], fields := d.fields ++ [⟨fx, fy⟩] }) rfl rfl rfl
      have h4 := h3.noLine (d' := { d with bytes := bb, line := [], fields := d.fields ++ [⟨fx, fy⟩] }) rfl rfl rfl
      have m4 := ((M9.out.trans (Moves.of_below b6)).trans (Moves.fielded (R := R) t2 t3 11 v')).trans (Moves.set R (.slice p1 (n + 1) k1) v' _ 10 (.slice none 0 0))
      have HQ := Lib.hid (show TakeQ R l tv lv gv (8, { d with bytes := bb, line := [], fields := d.fields ++ [⟨fx, fy⟩] }) w (.returned (.int .i64 8)) ((w3.setCell ⟨R, 11, none⟩ v').setCell ⟨R, 10, none⟩ (.slice none 0 0)) from
        ⟨_, _, rfl, h4, m4.less fun k hk => by
          rcases hk with hk | hk | hk
          · exact .inl hk
          · simp [Value.ownBlock] at hk
          · exact .inr (.inr hk)⟩)
      have hB := (t2.block R h6.lt (fun e => h6.fields_ne e.symm)).trans h6.blk
      have gg : ∀ i, w3.frozen? ⟨R, i, none⟩ = false := fun i => by simp [World.frozen?, hB]
      have k11 : w3.cell? ⟨R, 11, none⟩ = some gv1 := by simp only [World.cell?, hB]; rfl
      have k10 : w3.cell? ⟨R, 10, none⟩ = some (.slice p1 (n + 1) k1) := by simp only [World.cell?, hB]; rfl
      obtain ⟨p2, l2, q2, rfl⟩ := own_slice t1
      have HR := Lib.hid t0
      subst hw6
      clear h3 h4 m4 t0 t1 t2 t3 h6 b6 hfs hB H9 M9 b9 g9 BA HB' H1 M1 KS HP x10 hcut hsub hsub' hz5
      go_wp2_with fail
      go_region_law (refine step_append_run rfl (.tmp 37) (.tmp 39) 53 rfl gv1 (.slice (some ⟨w9.heap.size, 0, none⟩) 1 1) (.slice p2 l2 q2) w3 (by simp [Act.eval]) (by simp [Act.eval]) HR.out ?_)
    all_goals
      go_wp2_with fail
      go_ret
      rw [HE.out]
      exact HQ.out
end

end Go.Proofs.YtjkccacpffikbaaGreatDoor
