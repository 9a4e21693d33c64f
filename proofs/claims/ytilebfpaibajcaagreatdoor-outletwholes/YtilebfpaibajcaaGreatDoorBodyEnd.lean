/- The reader's end. -/
import Derived.Test.YtilebfpaibajcaaGreatDoorBodyReader
namespace Go.Proofs.YtilebfpaibajcaaGreatDoor
open Go.ChangeShapes Go.WideShapes Go.ChangeAt Go.RowKit
open Oc Fl Bk Bd
set_option linter.unusedVariables false
set_option maxRecDepth 100000

theorem byte_ne {b c : UInt8} (h : b ≠ c) : (((b.toNat : Int)) == (c.toNat : Int)) = false := beq_eq_false_iff_ne.2 (fun e => h (UInt8.toNat.inj (by omega)))
theorem bne_of_beq {a b : Int} {t : Bool} (h : (a == b) = t) : (a != b) = !t := by unfold bne; rw [h]

theorem ends_none {T : List UInt8} {k : Nat} (h : T[k]? = none) : ends (T.drop k) = (0, 4) := by
  have hle : T.length ≤ k := by simpa using h
  rw [drop_none hle]; rfl
theorem ends_bad {T : List UInt8} {k : Nat} {b : UInt8} (h : T[k]? = some b) (hb : b ≠ 13) : ends (T.drop k) = (0, 2) := by
  rw [drop_some h]
  cases T.drop (k + 1) <;> simp [ends, hb]
theorem ends_half {T : List UInt8} {k : Nat} (h : T[k]? = some 13) (h1 : T[k + 1]? = none) : ends (T.drop k) = (1, 4) := by
  have hle : T.length ≤ k + 1 := by simpa using h1
  rw [drop_some h, drop_none hle]; rfl
theorem ends_half_bad {T : List UInt8} {k : Nat} {b : UInt8} (h : T[k]? = some 13) (h1 : T[k + 1]? = some b) (hb : b ≠ 10) : ends (T.drop k) = (1, 2) := by
  rw [drop_some h, drop_some h1]; simp [ends, hb]
theorem ends_good {T : List UInt8} {k : Nat} (h : T[k]? = some 13) (h1 : T[k + 1]? = some 10) : ends (T.drop k) = (2, 0) := by
  rw [drop_some h, drop_some h1]; rfl

/-- What an end leaves. -/
def EndQ (B R : Nat) (tv : Value) (T : List UInt8) (l : Lim) (k : Nat) (dv : Value) (D : List UInt8) (w : World) (E : Nat × Nat) (x : Ending) (w' : World) : Prop :=
  Solo B R w w' ∧ RAt B R tv T l (k + E.1) dv D w' ∧ (E.2 = 0 → x = .returned (.tuple #[])) ∧ (E.2 ≠ 0 → x = threw E.2)

set_option maxHeartbeats 4000000 in
theorem end_any {B R : Nat} {tv : Value} {T : List UInt8} {l : Lim} {k : Nat} {dv : Value} {D : List UInt8} (w : World) (h : RAt B R tv T l k dv D w) :
    Calls Tryz.prog 72 #[.pointer (some ⟨R, 0, none⟩)] w fun x w' => EndQ B R tv T l k dv D w (ends (T.drop k)) x w' := by
  obtain ⟨E, hE⟩ : ∃ E, ends (T.drop k) = E := ⟨_, rfl⟩
  have H := Lib.hid h
  have HE := Lib.hid hE
  rw [hE]
  clear h hE
  go_enter Tryz.func72, Tryz.ntmps72
  go_wp2_with fail
  go_loopw [3] (fun i wr => (i = .int .i64 0 ∧ RAt B R tv T l k dv D wr ∧ Solo B R w wr) ∨ (i = .int .i64 1 ∧ T[k]? = some 13 ∧ RAt B R tv T l (k + 1) dv D wr ∧ Solo B R w wr) ∨ (i = .int .i64 2 ∧ T[k]? = some 13 ∧ T[k + 1]? = some 10 ∧ RAt B R tv T l (k + 2) dv D wr ∧ Solo B R w wr)) (fun i _ => 2 - (intOf i).toNat)
  case atStart => exact .inl ⟨rfl, H.out, Solo.refl _ _ _⟩
  case round =>
    rcases hrel with ⟨rfl, h1, h2⟩ | ⟨rfl, h13, h1, h2⟩ | ⟨rfl, h13, h10, h1, h2⟩
    · cases hb : T[k]? with
      | none =>
        have hle : T.length ≤ k := by simpa using hb
        have HN := Lib.hid (next_end (wr.drewN 1) (h1.drewN 1) hle)
        have HQ := Lib.hid fun m => show EndQ B R tv T l k dv D w E (threw 4) (wr.drewN m) by
          rw [← HE.out, ends_none hb]
          exact ⟨h2.drewN m, h1.drewN m, fun h => by simp at h, fun _ => rfl⟩
        clear h1 h2 hb hle H HE
        go_wp2_with fail
        refine wp_region_any (by kernel_rfl) ?_
        change wpAny _ _ _ _ _ _ _ (World.drew _)
        refine wpAny_take (i := 0) (v := .pointer (some ⟨R, 0, none⟩)) rfl (by kernel_rfl) (by kernel_rfl) (by kernel_rfl) (fun _ _ _ h => h) (Or.inl ⟨by rfl, by intro w; go_simp⟩) ?_
        refine wpAny_take (i := 2) (v := .int .i64 0) rfl (by kernel_rfl) (by kernel_rfl) (by kernel_rfl) (fun _ _ _ h => h) (Or.inl ⟨by rfl, by intro w; go_simp⟩) ?_
        refine wpAny_ready (rs := [1, 3]) (by kernel_rfl) (by simp) ?_
        refine AllReady.cons rfl (fun K hK => ?_) (AllReady.cons rfl (fun K hK => ?_) AllReady.nil)
        · go_simp
          go_wp2_with (go_at_call 80; refine Calls.mono HN.out ?_; rintro e w' ⟨rfl, m, rfl⟩)
          exact ⟨rfl, HQ.out _⟩
        · go_simp
          refine hK _ _ ?_
          clear hK K
          refine wpAny_ready (rs := [1]) (by kernel_rfl) (by simp) ?_
          refine AllReady.cons rfl (fun K hK => ?_) AllReady.nil
          go_simp
          go_wp2_with (go_at_call 80; refine Calls.mono HN.out ?_; rintro e w' ⟨rfl, m, rfl⟩)
          exact ⟨rfl, HQ.out _⟩
      | some b =>
        by_cases hv : b = 13
        · subst hv
          have hlt := (List.getElem?_eq_some_iff.1 hb).1
          have HN := Lib.hid fun n => next_byte (wr.drewN n) (h1.drewN n) hb
          have hbq : ((((13 : UInt8).toNat : Int)) != ((({ data := #[13, 10] } : ByteArray)[0].toNat : Int))) = false := rfl
          have c4 : ∀ n, (wr.drewN n).cell? ⟨R, 4, none⟩ = some (.int .i64 ((k : Nat) : Int)) := fun n => h1.c4
          have f4 : ∀ n, (wr.drewN n).frozen? ⟨R, 4, none⟩ = false := fun n => h1.f 4
          have HB := Lib.hid hb
          have HP := Lib.hid fun n => (h1.drewN n).put (k + 1) (by omega) (by omega)
          have HS := Lib.hid fun n => (h2.drewN n).set 4 (.int .i64 ((k + 1 : Nat) : Int))
          have hk := h1.small
          have hw : IntKind.i64.wrap (((k : Nat) : Int) + 1) = ((k + 1 : Nat) : Int) := by rw [IntWalk.i64_in _ (by omega)]; omega
          generalize hkk : k = kk at *
          clear h1 h2 hb hlt H
          go_wp2_with fail
          go_quiet ((go_at_call 80; exact Calls.quiet_of (HN.out _)))
          go_wp2_with fail
          go_roundw
          · subst hkk; exact .inr (.inl ⟨rfl, trivial, HP.out _, HS.out _⟩)
          · decide
        · have HN := Lib.hid fun n => next_byte (wr.drewN n) (h1.drewN n) hb
          have hbq : (((b.toNat : Int)) != ((({ data := #[13, 10] } : ByteArray)[0].toNat : Int))) = true := bne_of_beq (byte_ne hv)
          have HQ := Lib.hid fun n => show EndQ B R tv T l k dv D w E (threw 2) (wr.drewN n) by
            rw [← HE.out, ends_bad hb hv]
            exact ⟨h2.drewN n, h1.drewN n, fun h => by simp at h, fun _ => rfl⟩
          clear h1 h2 hb H HE
          go_wp2_with fail
          go_quiet ((go_at_call 80; exact Calls.quiet_of (HN.out _)))
          go_wp2_with (go_at_call 76; refine (giveUp_any _ _ _).mono ?_; rintro e w' ⟨rfl, rfl⟩)
          exact ⟨rfl, HQ.out _⟩
    · cases hb : T[k + 1]? with
      | none =>
        have hle : T.length ≤ k + 1 := by simpa using hb
        have HN := Lib.hid (next_end (wr.drewN 1) (h1.drewN 1) hle)
        have HQ := Lib.hid fun m => show EndQ B R tv T l k dv D w E (threw 4) (wr.drewN m) by
          rw [← HE.out, ends_half h13 hb]
          exact ⟨h2.drewN m, h1.drewN m, fun h => by simp at h, fun _ => rfl⟩
        clear h1 h2 hb hle H HE
        go_wp2_with fail
        refine wp_region_any (by kernel_rfl) ?_
        change wpAny _ _ _ _ _ _ _ (World.drew _)
        refine wpAny_take (i := 0) (v := .pointer (some ⟨R, 0, none⟩)) rfl (by kernel_rfl) (by kernel_rfl) (by kernel_rfl) (fun _ _ _ h => h) (Or.inl ⟨by rfl, by intro w; go_simp⟩) ?_
        refine wpAny_take (i := 2) (v := .int .i64 1) rfl (by kernel_rfl) (by kernel_rfl) (by kernel_rfl) (fun _ _ _ h => h) (Or.inl ⟨by rfl, by intro w; go_simp⟩) ?_
        refine wpAny_ready (rs := [1, 3]) (by kernel_rfl) (by simp) ?_
        refine AllReady.cons rfl (fun K hK => ?_) (AllReady.cons rfl (fun K hK => ?_) AllReady.nil)
        · go_simp
          go_wp2_with (go_at_call 80; refine Calls.mono HN.out ?_; rintro e w' ⟨rfl, m, rfl⟩)
          exact ⟨rfl, HQ.out _⟩
        · go_simp
          refine hK _ _ ?_
          clear hK K
          refine wpAny_ready (rs := [1]) (by kernel_rfl) (by simp) ?_
          refine AllReady.cons rfl (fun K hK => ?_) AllReady.nil
          go_simp
          go_wp2_with (go_at_call 80; refine Calls.mono HN.out ?_; rintro e w' ⟨rfl, m, rfl⟩)
          exact ⟨rfl, HQ.out _⟩
      | some b =>
        by_cases hv : b = 10
        · subst hv
          have hlt := (List.getElem?_eq_some_iff.1 hb).1
          have HN := Lib.hid fun n => next_byte (wr.drewN n) (h1.drewN n) hb
          have hbq : ((((10 : UInt8).toNat : Int)) != ((({ data := #[13, 10] } : ByteArray)[1].toNat : Int))) = false := rfl
          have c4 : ∀ n, (wr.drewN n).cell? ⟨R, 4, none⟩ = some (.int .i64 ((k + 1 : Nat) : Int)) := fun n => h1.c4
          have f4 : ∀ n, (wr.drewN n).frozen? ⟨R, 4, none⟩ = false := fun n => h1.f 4
          have HB := Lib.hid hb
          have HP := Lib.hid fun n => (h1.drewN n).put (k + 1 + 1) (by omega) (by omega)
          have HS := Lib.hid fun n => (h2.drewN n).set 4 (.int .i64 ((k + 1 + 1 : Nat) : Int))
          have hk := h1.small
          have hw : IntKind.i64.wrap (((k + 1 : Nat) : Int) + 1) = ((k + 1 + 1 : Nat) : Int) := by rw [IntWalk.i64_in _ (by omega)]; omega
          generalize hkk : k + 1 = kk at *
          clear h1 h2 hb hlt H
          go_wp2_with fail
          go_quiet ((go_at_call 80; exact Calls.quiet_of (HN.out _)))
          go_wp2_with fail
          go_roundw
          · subst hkk; exact .inr (.inr ⟨rfl, h13, trivial, HP.out _, HS.out _⟩)
          · decide
        · have HN := Lib.hid fun n => next_byte (wr.drewN n) (h1.drewN n) hb
          have hbq : (((b.toNat : Int)) != ((({ data := #[13, 10] } : ByteArray)[1].toNat : Int))) = true := bne_of_beq (byte_ne hv)
          have HQ := Lib.hid fun n => show EndQ B R tv T l k dv D w E (threw 2) (wr.drewN n) by
            rw [← HE.out, ends_half_bad h13 hb hv]
            exact ⟨h2.drewN n, h1.drewN n, fun h => by simp at h, fun _ => rfl⟩
          clear h1 h2 hb H HE
          go_wp2_with fail
          go_quiet ((go_at_call 80; exact Calls.quiet_of (HN.out _)))
          go_wp2_with (go_at_call 76; refine (giveUp_any _ _ _).mono ?_; rintro e w' ⟨rfl, rfl⟩)
          exact ⟨rfl, HQ.out _⟩
    · have HQ := Lib.hid (show EndQ B R tv T l k dv D w E (.returned (.tuple #[])) wr by
        rw [← HE.out, ends_good h13 h10]
        exact ⟨h2, h1, fun _ => rfl, fun h => absurd rfl h⟩)
      clear h1 h2 H HE
      go_wp2_with fail
      go_end0
      exact HQ.out

end Go.Proofs.YtilebfpaibajcaaGreatDoor
