/- The reader's size. -/
import Derived.Test.YtilebfpaibajcaaGreatDoorBodyEnd
namespace Go.Proofs.YtilebfpaibajcaaGreatDoor
open Go.ChangeShapes Go.WideShapes Go.ChangeAt Go.RowKit
open Oc Fl Bk Bd
set_option linter.unusedVariables false
set_option maxRecDepth 100000

/-- What a size leaves. -/
def SizeQ (B R : Nat) (tv : Value) (T : List UInt8) (l : Lim) (k : Nat) (dv : Value) (D : List UInt8) (w : World) (x : Ending) (w' : World) : Prop :=
  ∃ k', Solo B R w w' ∧ RAt B R tv T l k' dv D w' ∧
    ((∃ (e : Nat) (s' : St), x = threw e ∧ e ≠ 0 ∧ go l (sz D 0 0) (T.drop k) k = (s', k', e) ∧ s'.data = D) ∨
     (∃ (n c : Nat) (b : UInt8), x = .returned (.int .u64 (n : Int)) ∧ go l (sz D 0 0) (T.drop k) k = go l (sz D n c) (T.drop k') k' ∧ c ≠ 0 ∧ k < k' ∧ T[k']? = some b ∧ Hx.isd b = false ∧ n ≤ 4611686018427387903))

theorem isd_dg {b : UInt8} (h : Hx.isd b = true) : 0 ≤ Hx.dg (b.toNat : Int) := by simpa [Hx.isd] using h
theorem isd_no {b : UInt8} (h : Hx.isd b = false) : ¬ 0 ≤ Hx.dg (b.toNat : Int) := by simpa [Hx.isd] using h
theorem dn_dg {b : UInt8} (h : Hx.isd b = true) : ((dn b : Nat) : Int) = Hx.dg (b.toNat : Int) := by have := isd_dg h; unfold dn; omega
theorem dn_le (b : UInt8) : dn b ≤ 15 := by have := Hx.dg_hi (b.toNat : Int); unfold dn; omega


/-- The walk's words at a byte that is there. -/
theorem next_twice {B R : Nat} {tv : Value} {T : List UInt8} {l : Lim} {k : Nat} {dv : Value} {D : List UInt8} {w : World} (h : RAt B R tv T l k dv D w) {b : UInt8} (hb : T[k]? = some b) (n : Nat) :
    Calls Tryz.prog 80 #[.pointer (some ⟨R, 0, none⟩)] (w.drewN n) fun x w' => x = .returned (.int .u8 (b.toNat : Int)) ∧ ∃ m, w' = w.drewN m :=
  (next_byte (w.drewN n) (h.drewN n) hb).mono fun _ _ ⟨e, m, e'⟩ => ⟨e, _, e'.trans (World.drewN_drewN ..)⟩

set_option maxHeartbeats 8000000 in
theorem size_any {B R : Nat} {tv : Value} {T : List UInt8} {l : Lim} {k : Nat} {dv : Value} {D : List UInt8} (w : World) (h : RAt B R tv T l k dv D w) :
    Calls Tryz.prog 70 #[.pointer (some ⟨R, 0, none⟩)] w fun x w' => SizeQ B R tv T l k dv D w x w' := by
  have H := Lib.hid h
  clear h
  go_enter Tryz.func70, Tryz.ntmps70
  go_wp2_with fail
  go_loopw [3, 4, 5, 6] (fun sv cv mv ev wr => ∃ n c k' : Nat, sv = .int .u64 (n : Int) ∧ cv = .int .i64 (c : Int) ∧ RAt B R tv T l k' dv D wr ∧ Solo B R w wr ∧
    go l (sz D 0 0) (T.drop k) k = go l (sz D n c) (T.drop k') k' ∧ c ≤ 16 ∧ n ≤ 4611686018427387903 ∧ (c = 0 ∧ n = 0 ∧ k' = k ∨ c ≠ 0 ∧ k < k')) (fun _ cv _ _ _ => 17 - (intOf cv).toNat)
  case atStart => exact ⟨0, 0, k, rfl, rfl, H.out, Solo.refl _ _ _, rfl, by omega, by omega, .inl ⟨rfl, rfl, rfl⟩⟩
  case round =>
    obtain ⟨n, c, k', rfl, rfl, h1, h2, hgo, hc, hn, hor⟩ := hrel
    have hk := h1.small
    cases hb : T[k']? with
    | none =>
      have hle : T.length ≤ k' := by simpa using hb
      have HN := Lib.hid (next_end wr h1 hle)
      have HQ := Lib.hid fun m => show SizeQ B R tv T l k dv D w (threw 4) (wr.drewN m) from ⟨k', h2.drewN m, h1.drewN m, .inl ⟨4, _, rfl, by decide, hgo.trans (go_end l _ hle), rfl⟩⟩
      clear hgo h1 h2 hb hle H hk
      rcases hor with ⟨rfl, rfl, -⟩ | ⟨h0, -⟩
      · go_wp2_with (go_at_call 80; refine Calls.mono HN.out ?_; rintro e w' ⟨rfl, m, rfl⟩)
        exact ⟨rfl, HQ.out _⟩
      · have hz : ((c : Int) == 0) = false := beq_eq_false_iff_ne.2 (by omega)
        go_wp2_with (go_at_call 80; refine Calls.mono HN.out ?_; rintro e w' ⟨rfl, m, rfl⟩)
        exact ⟨rfl, HQ.out _⟩
    | some b =>
      have hlt := (List.getElem?_eq_some_iff.1 hb).1
      have HN0 := Lib.hid (next_byte wr h1 hb)
      have HN := Lib.hid fun n => next_twice h1 hb n
      have c4 : ∀ n, (wr.drewN n).cell? ⟨R, 4, none⟩ = some (.int .i64 (k' : Int)) := fun n => h1.c4
      have f4 : ∀ n, (wr.drewN n).frozen? ⟨R, 4, none⟩ = false := fun n => h1.f 4
      have HP := Lib.hid fun n => (h1.drewN n).put (k' + 1) (by omega) (by omega)
      have HS := Lib.hid fun n => (h2.drewN n).set 4 (.int .i64 ((k' + 1 : Nat) : Int))
      have hwk : IntKind.i64.wrap ((k' : Int) + 1) = ((k' + 1 : Nat) : Int) := by rw [IntWalk.i64_in _ (by omega)]; omega
      have hwc : IntKind.i64.wrap ((c : Int) + 1) = ((c + 1 : Nat) : Int) := by rw [IntWalk.i64_in _ (by omega)]; omega
      cases hd : Hx.isd b with
      | false =>
        have hdl := isd_no hd
        rcases hor with ⟨rfl, rfl, rfl⟩ | ⟨h0, hlt'⟩
        · have HM := Lib.hid fun (W : World) => show Calls Tryz.prog 81 #[.int .u64 0, .int .u8 (b.toNat : Int)] W fun e w' => e = .returned (.tuple #[.int .u64 0, .int .i64 2]) ∧ W = w' by
            have := H8.more_any 0 (b.toNat : Int) (H8.byte_lo b) (H8.byte_hi b) (by omega) (by omega) W
            rw [H8.more_form 0 _ (by omega)] at this
            exact this
          have HQ := Lib.hid fun m => show SizeQ B R tv T l k' dv D w (threw 2) (wr.drewN m) from ⟨k', h2.drewN m, h1.drewN m, .inl ⟨2, _, rfl, by decide, sz_none hb hd, rfl⟩⟩
          clear hgo h1 h2 hb H hk hlt hdl hd HP HS
          go_wp2_with (first
            | (go_at_call 80; refine Calls.mono HN0.out ?_; rintro e w' ⟨rfl, m, rfl⟩)
            | (go_at_call 81; refine (HM.out _).mono ?_; rintro e w' ⟨rfl, rfl⟩)
            | (go_at_call 76; refine (giveUp_any _ _ _).mono ?_; rintro e w' ⟨rfl, rfl⟩))
          exact ⟨rfl, HQ.out _⟩
        · have hz : ((c : Int) == 0) = false := beq_eq_false_iff_ne.2 (by omega)
          obtain ⟨d, hdd⟩ : ∃ d, Hx.dg (b.toNat : Int) = d := ⟨_, rfl⟩
          have HD := Lib.hid fun (W : World) => show Calls Tryz.prog 79 #[.int .u8 (b.toNat : Int)] W fun e w' => e = .returned (.int .i64 d) ∧ W = w' from hdd ▸ H8.digit_any (b.toNat : Int) (H8.byte_lo b) (H8.byte_hi b) W
          have hd0 : ¬ 0 ≤ d := by omega
          have hd1 : d < 0 := by omega
          have HQ := Lib.hid fun m => show SizeQ B R tv T l k dv D w (.returned (.int .u64 (n : Int))) (wr.drewN m) from ⟨k', h2.drewN m, h1.drewN m, .inr ⟨n, c, b, rfl, hgo, h0, hlt', hb, hd, hn⟩⟩
          clear hgo h1 h2 hb H hk hlt hdl hd HP HS hdd
          go_wp2_with (first
            | (go_at_call 80; refine Calls.mono HN0.out ?_; rintro e w' ⟨rfl, m, rfl⟩)
            | (go_at_call 79; refine (HD.out _).mono ?_; rintro e w' ⟨rfl, rfl⟩))
          go_ret
          exact HQ.out _
      | true =>
        have hdl := isd_dg hd
        by_cases hbig : c = 16 ∨ 288230376151711743 < n
        · have h0 : c ≠ 0 ∧ k < k' := by rcases hor with ⟨rfl, rfl, -⟩ | h; exact absurd hbig (by omega); exact h
          have hz : ((c : Int) == 0) = false := beq_eq_false_iff_ne.2 (by omega)
          obtain ⟨d, hdd⟩ : ∃ d, Hx.dg (b.toNat : Int) = d := ⟨_, rfl⟩
          have HD := Lib.hid fun (W : World) => show Calls Tryz.prog 79 #[.int .u8 (b.toNat : Int)] W fun e w' => e = .returned (.int .i64 d) ∧ W = w' from hdd ▸ H8.digit_any (b.toNat : Int) (H8.byte_lo b) (H8.byte_hi b) W
          have hd0 : 0 ≤ d := by omega
          have HQ := Lib.hid fun m => show SizeQ B R tv T l k dv D w (threw 3) (wr.drewN m) from ⟨k', h2.drewN m, h1.drewN m, .inl ⟨3, _, rfl, by decide, hgo.trans (sz_big hb hd hbig), rfl⟩⟩
          by_cases hc16 : c = 16
          · subst hc16
            clear hgo h1 h2 hb H hk hlt hdl hd HP HS hdd hbig
            go_wp2_with (first
              | (go_at_call 80; refine Calls.mono HN0.out ?_; rintro e w' ⟨rfl, m, rfl⟩)
              | (go_at_call 79; refine (HD.out _).mono ?_; rintro e w' ⟨rfl, rfl⟩)
              | (go_at_call 76; refine (giveUp_any _ _ _).mono ?_; rintro e w' ⟨rfl, rfl⟩))
            exact ⟨rfl, HQ.out _⟩
          · have hn3 : 288230376151711743 < n := by omega
            have hz16 : ((c : Int) == 16) = false := beq_eq_false_iff_ne.2 (by omega)
            have HM := Lib.hid fun (W : World) => show Calls Tryz.prog 81 #[.int .u64 (n : Int), .int .u8 (b.toNat : Int)] W fun e w' => e = .returned (.tuple #[.int .u64 0, .int .i64 3]) ∧ W = w' by
              have := H8.more_any (n : Int) (b.toNat : Int) (H8.byte_lo b) (H8.byte_hi b) (by omega) (by omega) W
              rw [H8.more_big _ _ hdl (by omega)] at this
              exact this
            clear hgo h1 h2 hb H hk hlt hdl hd HP HS hdd hbig
            go_wp2_with (first
              | (go_at_call 80; first | (refine Calls.mono HN0.out ?_; rintro e w' ⟨rfl, m, rfl⟩) | (refine Calls.mono (HN.out _) ?_; rintro e w' ⟨rfl, m, rfl⟩))
              | (go_at_call 79; refine (HD.out _).mono ?_; rintro e w' ⟨rfl, rfl⟩)
              | (go_at_call 81; refine (HM.out _).mono ?_; rintro e w' ⟨rfl, rfl⟩)
              | (go_at_call 76; refine (giveUp_any _ _ _).mono ?_; rintro e w' ⟨rfl, rfl⟩))
            exact ⟨rfl, HQ.out _⟩
        · have hnew := dn_le b
          have HM := Lib.hid fun (W : World) => show Calls Tryz.prog 81 #[.int .u64 (n : Int), .int .u8 (b.toNat : Int)] W fun e w' => e = .returned (.tuple #[.int .u64 ((16 * n + dn b : Nat) : Int), .int .i64 0]) ∧ W = w' by
            have := H8.more_any (n : Int) (b.toNat : Int) (H8.byte_lo b) (H8.byte_hi b) (by omega) (by omega) W
            rw [H8.more_ok _ _ hdl (by omega), ← dn_dg hd, show (n : Int) * 16 + (dn b : Int) = ((16 * n + dn b : Nat) : Int) by omega] at this
            exact this
          have HG := Lib.hid (hgo.trans (sz_digit (l := l) (D := D) hb hd (by omega) (by omega)))
          have hn' : 16 * n + dn b ≤ 4611686018427387903 := by omega
          have hc' : c + 1 ≤ 16 := by omega
          have HO := Lib.hid (show k < k' + 1 by omega)
          generalize 16 * n + dn b = n' at *
          have hz16 : ((c : Int) == 16) = false := beq_eq_false_iff_ne.2 (by omega)
          obtain ⟨d, hdd⟩ : ∃ d, Hx.dg (b.toNat : Int) = d := ⟨_, rfl⟩
          have HD := Lib.hid fun (W : World) => show Calls Tryz.prog 79 #[.int .u8 (b.toNat : Int)] W fun e w' => e = .returned (.int .i64 d) ∧ W = w' from hdd ▸ H8.digit_any (b.toNat : Int) (H8.byte_lo b) (H8.byte_hi b) W
          have hd0 : 0 ≤ d := by omega
          clear hgo h1 h2 hb H hk hlt hdl hd hdd hbig
          rcases hor with ⟨rfl, rfl, rfl⟩ | ⟨h0, hlt'⟩
          · go_wp2_with (first
              | (go_at_call 80; refine Calls.mono HN0.out ?_; rintro e w' ⟨rfl, m, rfl⟩)
              | (go_at_call 81; refine (HM.out _).mono ?_; rintro e w' ⟨rfl, rfl⟩))
            go_roundw
            · exact ⟨n', 1, k' + 1, rfl, rfl, HP.out _, HS.out _, HG.out, by omega, by omega, .inr ⟨by omega, HO.out⟩⟩
            · decide
          · have hz : ((c : Int) == 0) = false := beq_eq_false_iff_ne.2 (by omega)
            go_wp2_with (first
              | (go_at_call 80; first | (refine Calls.mono HN0.out ?_; rintro e w' ⟨rfl, m, rfl⟩) | (refine Calls.mono (HN.out _) ?_; rintro e w' ⟨rfl, m, rfl⟩))
              | (go_at_call 79; refine (HD.out _).mono ?_; rintro e w' ⟨rfl, rfl⟩)
              | (go_at_call 81; refine (HM.out _).mono ?_; rintro e w' ⟨rfl, rfl⟩))
            go_roundw
            · exact ⟨n', c + 1, k' + 1, rfl, rfl, HP.out _, HS.out _, HG.out, by omega, by omega, .inr ⟨by omega, HO.out⟩⟩
            · simp only [intOf]; omega

end Go.Proofs.YtilebfpaibajcaaGreatDoor
