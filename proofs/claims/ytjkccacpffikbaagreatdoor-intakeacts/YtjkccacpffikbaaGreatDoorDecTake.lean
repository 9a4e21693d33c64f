/- What takes a byte, place by place. -/
import Derived.Test.YtjkccacpffikbaaGreatDoorDecMem
import Derived.Test.YtjkccacpffikbaaGreatDoorOwnAppend
namespace Go.Proofs.YtjkccacpffikbaaGreatDoor
open Go.ChangeShapes Go.WideShapes Go.ChangeAt Go.RowKit
open Oc Fl Bk Bd Dk
set_option linter.unusedVariables false
set_option maxRecDepth 100000

theorem text_one (b : UInt8) : text [b] = txb b := by simp [text, txb, every]
theorem word_any (b : UInt8) (w : World) :
    Calls Tryz.prog 53 #[.int .u8 (b.toNat : Int)] w fun e w' => e = .returned (.string ⟨#[b]⟩) ∧ Below w.heap.size w w' := by
  have hn : (w.alloc (.cells #[.int .u8 (b.toNat : Int)] 5)).cell? ⟨w.heap.size, 0, none⟩ = some (.int .u8 (b.toNat : Int)) := (one_cell (new_one w _ _)).1
  have hc := conv_one8 b w.heap.size _ hn
  have hb := Lib.hid (below_box w (.cells #[.int .u8 (b.toNat : Int)] 5))
  clear hn
  go_enter Tryz.func53, Tryz.ntmps53
  go_wp2_with fail
  go_ret
  exact ⟨rfl, hb.out⟩

section
variable {R : Nat} {l : Lim} {d : Ds} {tv lv gv : Value}

set_option maxHeartbeats 2000000 in
theorem dataEnd_any (c : UInt8) (w : World) (h : DA R l d tv lv gv w) :
    Calls Tryz.prog 41 #[.pointer (some ⟨R, 0, none⟩), .int .u8 (c.toNat : Int)] w fun x w' => TakeQ R l tv lv gv (onlyD 13 c 7 d) w x w' := by
  have HF := Lib.hid (only_any 13 c 7 w h)
  clear h
  go_enter Tryz.func41, Tryz.ntmps41
  go_wp2_with (go_at_call 54; refine HF.out.mono ?_; rintro e w' ⟨lv', gv', rfl, h1, h2⟩)
  go_ret
  exact ⟨lv', gv', rfl, h1, h2⟩
set_option maxHeartbeats 2000000 in
theorem dataEndLast_any (c : UInt8) (w : World) (h : DA R l d tv lv gv w) :
    Calls Tryz.prog 42 #[.pointer (some ⟨R, 0, none⟩), .int .u8 (c.toNat : Int)] w fun x w' => TakeQ R l tv lv gv (onlyD 10 c 1 d) w x w' := by
  have HF := Lib.hid (only_any 10 c 1 w h)
  clear h
  go_enter Tryz.func42, Tryz.ntmps42
  go_wp2_with (go_at_call 54; refine HF.out.mono ?_; rintro e w' ⟨lv', gv', rfl, h1, h2⟩)
  go_ret
  exact ⟨lv', gv', rfl, h1, h2⟩
set_option maxHeartbeats 2000000 in
theorem sectionEnd_any (c : UInt8) (w : World) (h : DA R l d tv lv gv w) :
    Calls Tryz.prog 47 #[.pointer (some ⟨R, 0, none⟩), .int .u8 (c.toNat : Int)] w fun x w' => TakeQ R l tv lv gv (onlyD 10 c 13 d) w x w' := by
  have HF := Lib.hid (only_any 10 c 13 w h)
  clear h
  go_enter Tryz.func47, Tryz.ntmps47
  go_wp2_with (go_at_call 54; refine HF.out.mono ?_; rintro e w' ⟨lv', gv', rfl, h1, h2⟩)
  go_ret
  exact ⟨lv', gv', rfl, h1, h2⟩

set_option maxHeartbeats 2000000 in
theorem sizeEnd_any (c : UInt8) (w : World) (h : DA R l d tv lv gv w) :
    Calls Tryz.prog 40 #[.pointer (some ⟨R, 0, none⟩), .int .u8 (c.toNat : Int)] w fun x w' => TakeQ R l tv lv gv (sizeEndD c d) w x w' := by
  obtain ⟨c0, c1, c2, c3, c4, c5, c6, c7, c8, c9, c10, c11, c12, c13⟩ := h.reads
  have f := h.f
  have h1 := h.set 6 (.int .i64 0) (d' := { d with digits := 0 }) (tv' := tv) rfl rfl rfl
  have h2 := h1.set 8 (.int .i64 0) (d' := clearD d) (tv' := tv) rfl rfl rfl
  have hm := (Moves.set R lv gv w 6 (.int .i64 0)).trans (Moves.set R lv gv _ 8 (.int .i64 0))
  have HM := Lib.hid hm
  by_cases h0 : d.left = 0
  · have HE := Lib.hid (show sizeEndD c d = onlyD 10 c 8 (clearD d) from if_pos h0)
    have HF := Lib.hid (only_any 10 c 8 _ h2)
    rw [h0] at c7
    clear h h1 h2 hm h0
    go_enter Tryz.func40, Tryz.ntmps40
    go_wp2_with (go_at_call 54; refine HF.out.mono ?_; rintro e w' ⟨lv', gv', rfl, h1, h2⟩)
    go_ret
    rw [HE.out]
    exact ⟨lv', gv', rfl, h1, HM.out.trans h2⟩
  · have HE := Lib.hid (show sizeEndD c d = onlyD 10 c 5 (clearD d) from if_neg h0)
    have HF := Lib.hid (only_any 10 c 5 _ h2)
    have hz : ((d.left : Int) == 0) = false := beq_eq_false_iff_ne.2 (by omega)
    clear h h1 h2 hm h0
    go_enter Tryz.func40, Tryz.ntmps40
    go_wp2_with (go_at_call 54; refine HF.out.mono ?_; rintro e w' ⟨lv', gv', rfl, h1, h2⟩)
    go_ret
    rw [HE.out]
    exact ⟨lv', gv', rfl, h1, HM.out.trans h2⟩

set_option maxHeartbeats 4000000 in
theorem digit9_any (c : UInt8) (w : World) (h : DA R l d tv lv gv w) (hl : d.left ≤ 4611686018427387903) (hdg : d.digits ≤ 1000) :
    Calls Tryz.prog 37 #[.pointer (some ⟨R, 0, none⟩), .int .u8 (c.toNat : Int)] w fun x w' => TakeQ R l tv lv gv (digitD c d) w x w' := by
  obtain ⟨c0, c1, c2, c3, c4, c5, c6, c7, c8, c9, c10, c11, c12, c13⟩ := h.reads
  have f := h.f
  have HMo := H8.more_any (d.left : Int) (c.toNat : Int) (H8.byte_lo c) (H8.byte_hi c) (by omega) (by omega) w
  by_cases hd : Hx.isd c = true
  · have hge := Hx.isd_dg hd
    have hdn : ((dn c : Nat) : Int) = Hx.dg (c.toNat : Int) := by unfold dn; omega
    have hdl := dn_le9 c
    by_cases hb : 288230376151711743 < d.left
    · have HE := Lib.hid (show digitD c d = failD 3 d by simp [digitD, hd, hb])
      have HF := Lib.hid (fail_any 3 w h)
      rw [H8.more_big _ _ hge (by omega)] at HMo
      replace HMo := Lib.hid HMo
      clear h hge hdn hdl hd
      go_enter Tryz.func37, Tryz.ntmps37
      go_wp2_with (first | (go_at_call 50; refine HMo.out.mono ?_; rintro e w' ⟨rfl, rfl⟩) | (go_at_call 51; refine HF.out.mono ?_; rintro e w' ⟨lv', gv', rfl, h1, h2⟩))
      go_ret
      rw [HE.out]
      exact ⟨lv', gv', rfl, h1, h2⟩
    · rw [H8.more_ok _ _ hge (by omega)] at HMo
      by_cases h16 : d.digits = 16
      · have HE := Lib.hid (show digitD c d = failD 3 d by simp [digitD, hd, hb, h16])
        have HF := Lib.hid (fail_any 3 w h)
        replace HMo := Lib.hid HMo
        rw [h16] at c6
        clear h hge hdn hdl hd
        go_enter Tryz.func37, Tryz.ntmps37
        go_wp2_with (first | (go_at_call 50; refine HMo.out.mono ?_; rintro e w' ⟨rfl, rfl⟩) | (go_at_call 51; refine HF.out.mono ?_; rintro e w' ⟨lv', gv', rfl, h1, h2⟩))
        go_ret
        rw [HE.out]
        exact ⟨lv', gv', rfl, h1, h2⟩
      · have HE := Lib.hid (show digitD c d = (2, { d with left := d.left * 16 + dn c, digits := d.digits + 1 }) by simp [digitD, hd, hb, h16])
        rw [show (d.left : Int) * 16 + Hx.dg (c.toNat : Int) = ((d.left * 16 + dn c : Nat) : Int) by rw [← hdn]; omega] at HMo
        have hz : ((d.digits : Int) == 16) = false := beq_eq_false_iff_ne.2 (by omega)
        have hwr : IntKind.i64.wrap ((d.digits : Int) + 1) = ((d.digits + 1 : Nat) : Int) := by rw [IntWalk.i64_in _ (by omega)]; omega
        have h1 := h.set 7 (.int .u64 ((d.left * 16 + dn c : Nat) : Int)) (d' := { d with left := d.left * 16 + dn c }) (tv' := tv) rfl rfl rfl
        have h2 := h1.set 6 (.int .i64 ((d.digits + 1 : Nat) : Int)) (d' := { d with left := d.left * 16 + dn c, digits := d.digits + 1 }) (tv' := tv) rfl rfl rfl
        have hm := (Moves.set R lv gv w 7 (.int .u64 ((d.left * 16 + dn c : Nat) : Int))).trans (Moves.set R lv gv _ 6 (.int .i64 ((d.digits + 1 : Nat) : Int)))
        have HQ := Lib.hid (show TakeQ R l tv lv gv (2, { d with left := d.left * 16 + dn c, digits := d.digits + 1 }) w (.returned (.int .i64 2)) _ from ⟨lv, gv, rfl, h2, hm⟩)
        replace HMo := Lib.hid HMo
        clear h hge hdn hdl hd h1 h2 hm
        generalize d.left * 16 + dn c = nn at *
        generalize d.digits + 1 = dd at *
        go_enter Tryz.func37, Tryz.ntmps37
        go_wp2_with (first | (go_at_call 50; refine HMo.out.mono ?_; rintro e w' ⟨rfl, rfl⟩))
        go_ret
        rw [HE.out]
        exact HQ.out
  · have hlt : Hx.dg (c.toNat : Int) < 0 := by simp [Hx.isd] at hd; exact hd
    have HE := Lib.hid (show digitD c d = failD 2 d by simp [digitD, hd])
    have HF := Lib.hid (fail_any 2 w h)
    rw [H8.more_form _ _ hlt] at HMo
    replace HMo := Lib.hid HMo
    clear h hlt hd
    go_enter Tryz.func37, Tryz.ntmps37
    go_wp2_with (first | (go_at_call 50; refine HMo.out.mono ?_; rintro e w' ⟨rfl, rfl⟩) | (go_at_call 51; refine HF.out.mono ?_; rintro e w' ⟨lv', gv', rfl, h1, h2⟩))
    go_ret
    rw [HE.out]
    exact ⟨lv', gv', rfl, h1, h2⟩

set_option maxHeartbeats 4000000 in
theorem extension_any (c : UInt8) (w : World) (h : DA R l d tv lv gv w) (hx : d.ext ≤ 1000000) :
    Calls Tryz.prog 39 #[.pointer (some ⟨R, 0, none⟩), .int .u8 (c.toNat : Int)] w fun x w' => TakeQ R l tv lv gv (extD l c d) w x w' := by
  by_cases h13 : c = 13
  · subst h13
    have HQ := Lib.hid (show TakeQ R l tv lv gv (extD l 13 d) w (.returned (.int .i64 4)) w from ⟨lv, gv, rfl, h, Moves.refl _ _⟩)
    clear h
    go_enter Tryz.func39, Tryz.ntmps39
    go_wp2_with fail
    go_ret
    exact HQ.out
  have hne : ((c.toNat : Int) == 13) = false := ub_ne (c := 13) h13
  have HW := Lib.hid (word_any c w)
  have HT : Hid (∀ W, _) := Lib.hid fun W => text_any ⟨#[c]⟩ W (by show (1 : Nat) ≤ _; omega)
  rw [show text (⟨#[c]⟩ : ByteArray).data.toList = txb c from text_one c] at HT
  have H := Lib.hid h
  cases htx : txb c with
  | false =>
    rw [htx] at HT
    have HE := Lib.hid (show extD l c d = failD 2 d by simp [extD, h13, htx])
    clear h htx
    go_enter Tryz.func39, Tryz.ntmps39
    go_wp2_with fail
    refine HW.out.mono ?_
    rintro e w1 ⟨rfl, hb1⟩
    have B1 := Lib.hid hb1
    clear hb1
    go_wp2_with fail
    refine (HT.out _).mono ?_
    rintro e w2 ⟨rfl, hb2⟩
    have HF := Lib.hid (fail_any 2 w2 (H.out.below (ahead B1.out hb2)))
    have B2 := Lib.hid (ahead B1.out hb2)
    clear hb2
    go_wp2_with (go_at_call 51; refine HF.out.mono ?_; rintro e w' ⟨lv', gv', rfl, h1, h2⟩)
    go_ret
    rw [HE.out]
    exact ⟨lv', gv', rfl, h1, (Moves.of_below B2.out).trans h2⟩
  | true =>
    rw [htx] at HT
    by_cases hex : d.ext = l.ext
    · have HE := Lib.hid (show extD l c d = failD 5 d by simp [extD, h13, htx, hex])
      clear h htx
      go_enter Tryz.func39, Tryz.ntmps39
      go_wp2_with fail
      refine HW.out.mono ?_
      rintro e w1 ⟨rfl, hb1⟩
      have B1 := Lib.hid hb1
      clear hb1
      go_wp2_with fail
      refine (HT.out _).mono ?_
      rintro e w2 ⟨rfl, hb2⟩
      have h2 := H.out.below (ahead B1.out hb2)
      obtain ⟨c0, c1, c2, c3, c4, c5, c6, c7, c8, c9, c10, c11, c12, c13⟩ := h2.reads
      have HF : Hid (∀ n, _) := Lib.hid fun n => fail_any 5 (w2.drewN n) (h2.below (below_drewN (Below.refl _ _) n))
      have B2 := Lib.hid (ahead B1.out hb2)
      rw [hex] at c8
      clear hb2 h2
      go_wp2_with fail
      go_quiet (fail)
      go_wp2_with (go_at_call 51; refine (HF.out _).mono ?_; rintro e w' ⟨lv', gv', rfl, h1, h2⟩)
      go_ret
      rw [HE.out]
      exact ⟨lv', gv', rfl, h1, (Moves.of_below (below_drewN B2.out _)).trans h2⟩
    · have HE := Lib.hid (show extD l c d = (3, { d with ext := d.ext + 1 }) by simp [extD, h13, htx, hex])
      have hz : ((d.ext : Int) == (l.ext : Int)) = false := beq_eq_false_iff_ne.2 (by omega)
      have hwr : IntKind.i64.wrap ((d.ext : Int) + 1) = ((d.ext + 1 : Nat) : Int) := by rw [IntWalk.i64_in _ (by omega)]; omega
      clear h htx
      go_enter Tryz.func39, Tryz.ntmps39
      go_wp2_with fail
      refine HW.out.mono ?_
      rintro e w1 ⟨rfl, hb1⟩
      have B1 := Lib.hid hb1
      clear hb1
      go_wp2_with fail
      refine (HT.out _).mono ?_
      rintro e w2 ⟨rfl, hb2⟩
      have h2 := H.out.below (ahead B1.out hb2)
      obtain ⟨c0, c1, c2, c3, c4, c5, c6, c7, c8, c9, c10, c11, c12, c13⟩ := h2.reads
      have f := h2.f
      have B2 := Lib.hid (ahead B1.out hb2)
      have HQ : Hid (∀ n, TakeQ R l tv lv gv (3, { d with ext := d.ext + 1 }) w (.returned (.int .i64 3)) ((w2.drewN n).setCell ⟨R, 8, none⟩ (.int .i64 ((d.ext + 1 : Nat) : Int)))) := Lib.hid fun n =>
        ⟨lv, gv, rfl, (h2.below (below_drewN (Below.refl _ _) n)).set 8 _ (d' := { d with ext := d.ext + 1 }) (tv' := tv) rfl rfl rfl, (Moves.of_below (below_drewN B2.out _)).trans (Moves.set _ _ _ _ _ _)⟩
      clear hb2 h2
      generalize d.ext + 1 = dd at *
      go_wp2_with fail
      go_quiet (fail)
      go_wp2_with fail
      go_ret
      rw [HE.out]
      exact HQ.out _

set_option maxHeartbeats 2000000 in
theorem digitMore_any (c : UInt8) (w : World) (h : DA R l d tv lv gv w) (hl : d.left ≤ 4611686018427387903) (hdg : d.digits ≤ 1000) (hx : d.ext ≤ 1000000) :
    Calls Tryz.prog 38 #[.pointer (some ⟨R, 0, none⟩), .int .u8 (c.toNat : Int)] w fun x w' => TakeQ R l tv lv gv (digitMoreD l c d) w x w' := by
  by_cases h13 : c = 13
  · subst h13
    have HQ := Lib.hid (show TakeQ R l tv lv gv (digitMoreD l 13 d) w (.returned (.int .i64 4)) w from ⟨lv, gv, rfl, h, Moves.refl _ _⟩)
    clear h
    go_enter Tryz.func38, Tryz.ntmps38
    go_wp2_with fail
    go_ret
    exact HQ.out
  have hne : ((c.toNat : Int) == 13) = false := ub_ne (c := 13) h13
  by_cases h59 : c = 59
  · have HF := extension_any c w h hx
    subst h59
    have HE := Lib.hid (show digitMoreD l 59 d = extD l 59 d by simp [digitMoreD])
    replace HF := Lib.hid HF
    clear h
    go_enter Tryz.func38, Tryz.ntmps38
    go_wp2_with (go_at_call 39; refine HF.out.mono ?_; rintro e w' ⟨lv', gv', rfl, h1, h2⟩)
    go_ret
    rw [HE.out]
    exact ⟨lv', gv', rfl, h1, h2⟩
  · have hn2 : ((c.toNat : Int) == 59) = false := ub_ne (c := 59) h59
    have HE := Lib.hid (show digitMoreD l c d = digitD c d by simp [digitMoreD, h13, h59])
    have HF := Lib.hid (digit9_any c w h hl hdg)
    clear h
    go_enter Tryz.func38, Tryz.ntmps38
    go_wp2_with (go_at_call 37; refine HF.out.mono ?_; rintro e w' ⟨lv', gv', rfl, h1, h2⟩)
    go_ret
    rw [HE.out]
    exact ⟨lv', gv', rfl, h1, h2⟩
end

end Go.Proofs.YtjkccacpffikbaaGreatDoor
