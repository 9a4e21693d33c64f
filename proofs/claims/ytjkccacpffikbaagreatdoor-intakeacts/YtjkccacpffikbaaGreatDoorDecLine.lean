/- What takes a byte of a trailer's line: its first one, a name's, a value's, its last one. -/
import Derived.Test.YtjkccacpffikbaaGreatDoorDecKeep
import Derived.Deep.RegionHeld3
namespace Go.Proofs.YtjkccacpffikbaaGreatDoor
open Go.ChangeShapes Go.WideShapes Go.ChangeAt Go.RowKit
open Oc Fl Bk Bd Dk
set_option linter.unusedVariables false
set_option maxRecDepth 100000

theorem own_len9 {W : World} {base n : Nat} {e : TypeId} {size : Nat} {v : Value} {xs : List Value} (h : W.ownsRow base e size v n xs) : ∃ p c, v = .slice p n c ∧ n ≤ c := by
  rcases h.2 with ⟨rfl, rfl⟩ | ⟨g, cap, cur, rfl, _, _, h1, _⟩
  · exact ⟨_, _, rfl, Nat.le_refl _⟩
  · exact ⟨_, _, rfl, h1⟩

section
variable {R : Nat} {l : Lim} {d : Ds} {tv lv gv : Value}

set_option maxHeartbeats 8000000 in
theorem begin_any (c : UInt8) (w : World) (h : DA R l d tv lv gv w) (hbl : d.bytes ≤ 1000000) (hln : d.line.length ≤ 1000000) :
    Calls Tryz.prog 43 #[.pointer (some ⟨R, 0, none⟩), .int .u8 (c.toNat : Int)] w fun x w' => TakeQ R l tv lv gv (beginD l c d) w x w' := by
  by_cases h13 : c = 13
  · subst h13
    have HQ := Lib.hid (show TakeQ R l tv lv gv (beginD l 13 d) w (.returned (.int .i64 12)) w from ⟨lv, gv, rfl, h, Moves.refl _ _⟩)
    clear h
    go_enter Tryz.func43, Tryz.ntmps43
    go_wp2_with fail
    go_ret
    exact HQ.out
  have hne : ((c.toNat : Int) == 13) = false := ub_ne (c := 13) h13
  have HW := Lib.hid (word_any c w)
  have HT : Hid (∀ W, Below w.heap.size w W → _) := Lib.hid fun W hb => token_any ⟨#[c]⟩ W (by show (1 : Nat) ≤ _; omega) (h.spans.below hb)
  rw [show token (⟨#[c]⟩ : ByteArray).data.toList = tkb c from token_one c] at HT
  have H := Lib.hid h
  cases htx : tkb c with
  | false =>
    rw [htx] at HT
    have HE := Lib.hid (show beginD l c d = failD 2 d by simp [beginD, h13, htx])
    clear h htx
    go_enter Tryz.func43, Tryz.ntmps43
    go_wp2_with fail
    refine HW.out.mono ?_
    rintro e w1 ⟨rfl, hb1⟩
    have B1 := Lib.hid hb1
    clear hb1
    go_wp2_with fail
    refine (HT.out _ B1.out).mono ?_
    rintro e w2 ⟨rfl, hb2⟩
    have HF := Lib.hid (fail_any 2 w2 (H.out.below (ahead B1.out hb2)))
    have B2 := Lib.hid (ahead B1.out hb2)
    clear hb2
    go_wp2_with (go_at_call 51; refine HF.out.mono ?_; rintro e w' ⟨lv', gv', rfl, h1, h2⟩)
    go_ret
    rw [HE.out]
    exact ⟨lv', gv', rfl, h1, (Moves.of_below B2.out).trans h2⟩
  | true =>
    rw [htx] at HT
    obtain ⟨pg, cg, hgv, -⟩ := own_len9 h.fields
    subst hgv
    by_cases hex : d.fields.length = l.fields
    · have HE := Lib.hid (show beginD l c d = failD 5 d by simp [beginD, h13, htx, hex])
      clear h htx
      go_enter Tryz.func43, Tryz.ntmps43
      go_wp2_with fail
      refine HW.out.mono ?_
      rintro e w1 ⟨rfl, hb1⟩
      have B1 := Lib.hid hb1
      clear hb1
      go_wp2_with fail
      refine (HT.out _ B1.out).mono ?_
      rintro e w2 ⟨rfl, hb2⟩
      have h2 := H.out.below (ahead B1.out hb2)
      obtain ⟨c0, c1, c2, c3, c4, c5, c6, c7, c8, c9, c10, c11, c12, c13⟩ := h2.reads
      have HF : Hid (∀ n, _) := Lib.hid fun n => fail_any 5 (w2.drewN n) (h2.below (below_drewN (Below.refl _ _) n))
      have B2 := Lib.hid (ahead B1.out hb2)
      rw [hex] at c11 HF
      clear hb2 h2
      go_wp2_with fail
      go_quiet (fail)
      go_wp2_with (go_at_call 51; refine (HF.out _).mono ?_; rintro e w' ⟨lv', gv', rfl, h1, h2⟩)
      go_ret
      rw [HE.out, hex]
      exact ⟨lv', gv', rfl, h1, (Moves.of_below (below_drewN B2.out _)).trans h2⟩
    · have HE := Lib.hid (show beginD l c d = keepD l c 9 d by simp [beginD, h13, htx, hex])
      have hz : ((d.fields.length : Int) == (l.fields : Int)) = false := beq_eq_false_iff_ne.2 (by omega)
      clear h htx
      go_enter Tryz.func43, Tryz.ntmps43
      go_wp2_with fail
      refine HW.out.mono ?_
      rintro e w1 ⟨rfl, hb1⟩
      have B1 := Lib.hid hb1
      clear hb1
      go_wp2_with fail
      refine (HT.out _ B1.out).mono ?_
      rintro e w2 ⟨rfl, hb2⟩
      have h2 := H.out.below (ahead B1.out hb2)
      obtain ⟨c0, c1, c2, c3, c4, c5, c6, c7, c8, c9, c10, c11, c12, c13⟩ := h2.reads
      have HF : Hid (∀ n, _) := Lib.hid fun n => keep_any c 9 (w2.drewN n) (h2.below (below_drewN (Below.refl _ _) n)) hbl hln
      have B2 := Lib.hid (ahead B1.out hb2)
      clear hb2 h2
      go_wp2_with fail
      go_quiet (fail)
      go_wp2_with (go_at_call 56; refine (HF.out _).mono ?_; rintro e w' ⟨lv', gv', rfl, h1, h2⟩)
      go_ret
      rw [HE.out]
      exact ⟨lv', gv', rfl, h1, (Moves.of_below (below_drewN B2.out _)).trans h2⟩

set_option maxHeartbeats 8000000 in
theorem name9_any (c : UInt8) (w : World) (h : DA R l d tv lv gv w) (hbl : d.bytes ≤ 1000000) (hln : d.line.length ≤ 1000000) :
    Calls Tryz.prog 44 #[.pointer (some ⟨R, 0, none⟩), .int .u8 (c.toNat : Int)] w fun x w' => TakeQ R l tv lv gv (nameD l c d) w x w' := by
  by_cases h58 : c = 58
  · have HF := keep_any c 10 w h hbl hln
    subst h58
    have HE := Lib.hid (show nameD l 58 d = keepD l 58 10 d by simp [nameD])
    replace HF := Lib.hid HF
    clear h
    go_enter Tryz.func44, Tryz.ntmps44
    go_wp2_with (go_at_call 56; refine HF.out.mono ?_; rintro e w' ⟨lv', gv', rfl, h1, h2⟩)
    go_ret
    rw [HE.out]
    exact ⟨lv', gv', rfl, h1, h2⟩
  have hne : ((c.toNat : Int) == 58) = false := ub_ne (c := 58) h58
  have HW := Lib.hid (word_any c w)
  have HT : Hid (∀ W, Below w.heap.size w W → _) := Lib.hid fun W hb => token_any ⟨#[c]⟩ W (by show (1 : Nat) ≤ _; omega) (h.spans.below hb)
  rw [show token (⟨#[c]⟩ : ByteArray).data.toList = tkb c from token_one c] at HT
  have H := Lib.hid h
  cases htx : tkb c with
  | false =>
    rw [htx] at HT
    have HE := Lib.hid (show nameD l c d = failD 2 d by simp [nameD, h58, htx])
    clear h htx
    go_enter Tryz.func44, Tryz.ntmps44
    go_wp2_with fail
    refine HW.out.mono ?_
    rintro e w1 ⟨rfl, hb1⟩
    have B1 := Lib.hid hb1
    clear hb1
    go_wp2_with fail
    refine (HT.out _ B1.out).mono ?_
    rintro e w2 ⟨rfl, hb2⟩
    have HF := Lib.hid (fail_any 2 w2 (H.out.below (ahead B1.out hb2)))
    have B2 := Lib.hid (ahead B1.out hb2)
    clear hb2
    go_wp2_with (go_at_call 51; refine HF.out.mono ?_; rintro e w' ⟨lv', gv', rfl, h1, h2⟩)
    go_ret
    rw [HE.out]
    exact ⟨lv', gv', rfl, h1, (Moves.of_below B2.out).trans h2⟩
  | true =>
    rw [htx] at HT
    have HE := Lib.hid (show nameD l c d = keepD l c 9 d by simp [nameD, h58, htx])
    clear h htx
    go_enter Tryz.func44, Tryz.ntmps44
    go_wp2_with fail
    refine HW.out.mono ?_
    rintro e w1 ⟨rfl, hb1⟩
    have B1 := Lib.hid hb1
    clear hb1
    go_wp2_with fail
    refine (HT.out _ B1.out).mono ?_
    rintro e w2 ⟨rfl, hb2⟩
    have HF := Lib.hid (keep_any c 9 w2 (H.out.below (ahead B1.out hb2)) hbl hln)
    have B2 := Lib.hid (ahead B1.out hb2)
    clear hb2
    go_wp2_with (go_at_call 56; refine HF.out.mono ?_; rintro e w' ⟨lv', gv', rfl, h1, h2⟩)
    go_ret
    rw [HE.out]
    exact ⟨lv', gv', rfl, h1, (Moves.of_below B2.out).trans h2⟩

set_option maxHeartbeats 8000000 in
theorem text9_any (c : UInt8) (w : World) (h : DA R l d tv lv gv w) (hbl : d.bytes ≤ 1000000) (hln : d.line.length ≤ 1000000) :
    Calls Tryz.prog 45 #[.pointer (some ⟨R, 0, none⟩), .int .u8 (c.toNat : Int)] w fun x w' => TakeQ R l tv lv gv (textD l c d) w x w' := by
  by_cases h13 : c = 13
  · have HF := keep_any c 11 w h hbl hln
    subst h13
    have HE := Lib.hid (show textD l 13 d = keepD l 13 11 d by simp [textD])
    replace HF := Lib.hid HF
    clear h
    go_enter Tryz.func45, Tryz.ntmps45
    go_wp2_with (go_at_call 56; refine HF.out.mono ?_; rintro e w' ⟨lv', gv', rfl, h1, h2⟩)
    go_ret
    rw [HE.out]
    exact ⟨lv', gv', rfl, h1, h2⟩
  have hne : ((c.toNat : Int) == 13) = false := ub_ne (c := 13) h13
  have HW := Lib.hid (word_any c w)
  have HT : Hid (∀ W, _) := Lib.hid fun W => text_any ⟨#[c]⟩ W (by show (1 : Nat) ≤ _; omega)
  rw [show text (⟨#[c]⟩ : ByteArray).data.toList = txb c from text_one c] at HT
  have H := Lib.hid h
  cases htx : txb c with
  | false =>
    rw [htx] at HT
    have HE := Lib.hid (show textD l c d = failD 2 d by simp [textD, h13, htx])
    clear h htx
    go_enter Tryz.func45, Tryz.ntmps45
    go_wp2_with fail
    refine HW.out.mono ?_
    rintro e w1 ⟨rfl, hb1⟩
    have B1 := Lib.hid hb1
    clear hb1
    go_wp2_with fail
    refine (HT.out _).mono ?_
    rintro e w2 ⟨rfl, hb2⟩
    have HF := Lib.hid (fail_any 2 w2 (H.out.below (ahead B1.out hb2)))
    have B2 := Lib.hid (ahead B1.out hb2)
    clear hb2
    go_wp2_with (go_at_call 51; refine HF.out.mono ?_; rintro e w' ⟨lv', gv', rfl, h1, h2⟩)
    go_ret
    rw [HE.out]
    exact ⟨lv', gv', rfl, h1, (Moves.of_below B2.out).trans h2⟩
  | true =>
    rw [htx] at HT
    have HE := Lib.hid (show textD l c d = keepD l c 10 d by simp [textD, h13, htx])
    clear h htx
    go_enter Tryz.func45, Tryz.ntmps45
    go_wp2_with fail
    refine HW.out.mono ?_
    rintro e w1 ⟨rfl, hb1⟩
    have B1 := Lib.hid hb1
    clear hb1
    go_wp2_with fail
    refine (HT.out _).mono ?_
    rintro e w2 ⟨rfl, hb2⟩
    have HF := Lib.hid (keep_any c 10 w2 (H.out.below (ahead B1.out hb2)) hbl hln)
    have B2 := Lib.hid (ahead B1.out hb2)
    clear hb2
    go_wp2_with (go_at_call 56; refine HF.out.mono ?_; rintro e w' ⟨lv', gv', rfl, h1, h2⟩)
    go_ret
    rw [HE.out]
    exact ⟨lv', gv', rfl, h1, (Moves.of_below B2.out).trans h2⟩
end

end Go.Proofs.YtjkccacpffikbaaGreatDoor
