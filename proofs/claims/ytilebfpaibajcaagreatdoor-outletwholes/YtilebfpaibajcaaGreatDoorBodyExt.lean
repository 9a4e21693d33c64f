/- The reader's extension. -/
import Derived.Test.YtilebfpaibajcaaGreatDoorMD
import Derived.Test.YtilebfpaibajcaaGreatDoorBodySize
namespace Go.Proofs.YtilebfpaibajcaaGreatDoor
open Go.ChangeShapes Go.WideShapes Go.ChangeAt Go.RowKit
open Oc Fl Bk Bd
set_option linter.unusedVariables false
set_option maxRecDepth 100000

/-- The state at an extension's byte j. -/
def exS (D : List UInt8) (n c j : Nat) : St := if j = 0 then sz D n c else ex D n j
theorem exS_data (D : List UInt8) (n c j : Nat) : (exS D n c j).data = D := by unfold exS; split <;> rfl
theorem exS_step {l : Lim} {T D : List UInt8} {n c k j : Nat} {b : UInt8} (hc : c ≠ 0) (h0 : T[k]? = some 59) (h : T[k + j]? = some b) (hb : txb b = true) (hj : j < l.ext) : go l (exS D n c j) (T.drop (k + j)) (k + j) = go l (exS D n c (j + 1)) (T.drop (k + (j + 1))) (k + (j + 1)) := by
  unfold exS
  rw [if_neg (by omega : ¬ j + 1 = 0)]
  cases j with
  | zero => rw [if_pos rfl]; exact sz_semi h0 hc (by omega)
  | succ j => rw [if_neg (by omega)]; exact ex_text h hb hj
theorem exS_limit {l : Lim} {T D : List UInt8} {n c k j : Nat} {b : UInt8} (hc : c ≠ 0) (h0 : T[k]? = some 59) (h : T[k + j]? = some b) (hb : txb b = true) (hj : l.ext ≤ j) : go l (exS D n c j) (T.drop (k + j)) (k + j) = (exS D n c j, k + j, 5) := by
  unfold exS
  cases j with
  | zero => rw [if_pos rfl]; exact sz_semi_no h0 hc (by omega)
  | succ j => rw [if_neg (by omega)]; exact ex_limit h hb hj
theorem exS_bad {l : Lim} {T D : List UInt8} {n c k j : Nat} {b : UInt8} (h0 : T[k]? = some 59) (h : T[k + j]? = some b) (hb : txb b = false) (h13 : b ≠ 13) : go l (exS D n c j) (T.drop (k + j)) (k + j) = (exS D n c j, k + j, 2) := by
  unfold exS
  cases j with
  | zero =>
    rw [Nat.add_zero, h0] at h
    cases h
    exact absurd hb (by decide)
  | succ j => rw [if_neg (by omega)]; exact ex_bad h hb h13

/-- What an extension leaves. -/
def ExtQ (B R : Nat) (tv : Value) (T : List UInt8) (l : Lim) (k n c : Nat) (dv : Value) (D : List UInt8) (w : World) (x : Ending) (w' : World) : Prop :=
  ∃ k', Solo B R w w' ∧ RAt B R tv T l k' dv D w' ∧
    ((∃ (e : Nat) (s' : St), x = threw e ∧ e ≠ 0 ∧ go l (sz D n c) (T.drop k) k = (s', k', e) ∧ s'.data = D) ∨
     (∃ s : St, x = .returned (.tuple #[]) ∧ go l (sz D n c) (T.drop k) k = go l s (T.drop k') k' ∧ Head s T D n k' ∧ k ≤ k'))

theorem text_one (b : UInt8) : text [b] = txb b := by simp [text, txb, every]

set_option maxHeartbeats 8000000 in
theorem ext_any {B R : Nat} {tv : Value} {T : List UInt8} {l : Lim} {k n c : Nat} {dv : Value} {D : List UInt8} {b : UInt8} (w : World) (h : RAt B R tv T l k dv D w) (hc : c ≠ 0) (hb0 : T[k]? = some b) (hi0 : Hx.isd b = false) :
    Calls Tryz.prog 71 #[.pointer (some ⟨R, 0, none⟩)] w fun x w' => ExtQ B R tv T l k n c dv D w x w' := by
  have HN0 := Lib.hid (next_byte w h hb0)
  by_cases h59 : b = 59
  case neg =>
    have hne := bne_of_beq (byte_ne h59)
    have hne' : ((b.toNat : Int) != 59) = true := hne
    have HQ := Lib.hid fun m => show ExtQ B R tv T l k n c dv D w (.returned (.tuple #[])) (w.drewN m) from ⟨k, (Solo.refl _ _ _).drewN m, h.drewN m, .inr ⟨_, rfl, rfl, .inl ⟨c, b, rfl, hc, hb0, hi0, h59⟩, Nat.le_refl _⟩⟩
    clear h hb0 hi0 hne
    go_enter Tryz.func71, Tryz.ntmps71
    go_wp2_with (go_at_call 80; refine Calls.mono HN0.out ?_; rintro e w' ⟨rfl, m, rfl⟩)
    first | go_end0 | trace_state
    exact HQ.out _
  subst h59
  have H := Lib.hid h
  have HB0 := Lib.hid hb0
  have c1 : ∀ m, (w.drewN m).cell? ⟨R, 1, none⟩ = some (.int .i64 (l.ext : Int)) := fun m => h.c1
  clear h hb0 hi0
  go_enter Tryz.func71, Tryz.ntmps71
  go_wp2_with (go_at_call 80; refine Calls.mono HN0.out ?_; rintro e w' ⟨rfl, m, rfl⟩)
  go_loopw [2] (fun rv wr => ∃ j : Nat, rv = .int .i64 ((l.ext - j : Nat) : Int) ∧ j ≤ l.ext ∧ RAt B R tv T l (k + j) dv D wr ∧ Solo B R w wr ∧ go l (sz D n c) (T.drop k) k = go l (exS D n c j) (T.drop (k + j)) (k + j)) (fun rv _ => (intOf rv).toNat)
  case atStart => exact ⟨0, rfl, by omega, H.out.drewN _, (Solo.refl _ _ _).drewN _, rfl⟩
  case round =>
    obtain ⟨j, rfl, hj, h1, h2, hgo⟩ := hrel
    have hk := h1.small
    have hl := h1.lims
    obtain ⟨q, hq⟩ : ∃ q, k + j = q := ⟨_, rfl⟩
    cases hb : T[k + j]? with
    | none =>
      have hle : T.length ≤ k + j := by simpa using hb
      have HN := Lib.hid (next_end (wr.drewN 1) (h1.drewN 1) hle)
      have HQ := Lib.hid fun m => show ExtQ B R tv T l k n c dv D w (threw 4) (wr.drewN m) from ⟨k + j, h2.drewN m, h1.drewN m, .inl ⟨4, _, rfl, by decide, hgo.trans (go_end l _ hle), exS_data ..⟩⟩
      clear hgo h1 h2 hb hle H hk hl c1
      go_wp2_with fail
      refine wp_region_any (by kernel_rfl) ?_
      change wpAny _ _ _ _ _ _ _ (World.drew _)
      refine wpAny_take (i := 0) (v := .pointer (some ⟨R, 0, none⟩)) rfl (by kernel_rfl) (by kernel_rfl) (by kernel_rfl) (fun _ _ _ h => h) (Or.inl ⟨by rfl, by intro w; go_simp⟩) ?_
      refine wpAny_ready (rs := [1, 2]) (by kernel_rfl) (by simp) ?_
      refine AllReady.cons rfl (fun K hK => ?_) (AllReady.cons rfl (fun K hK => ?_) AllReady.nil)
      · go_simp
        go_wp2_with (go_at_call 80; refine Calls.mono HN.out ?_; rintro e w' ⟨rfl, m, rfl⟩)
        exact ⟨rfl, HQ.out _⟩
      · go_simp
        refine hK _ _ ?_
        clear hK K
        refine wpAny_ready (rs := [1]) (by kernel_rfl) (by simp) ?_
        refine AllReady.cons rfl (fun K hK => ?_) AllReady.nil
        go_simp
        go_wp2_with (go_at_call 80; refine Calls.mono HN.out ?_; rintro e w' ⟨rfl, m, rfl⟩)
        exact ⟨rfl, HQ.out _⟩
    | some b =>
      have HN := Lib.hid fun n => next_byte (wr.drewN n) (h1.drewN n) hb
      by_cases h13 : b = 13
      · subst h13
        have hbq : ((((13 : UInt8).toNat : Int)) != ((({ data := #[13] } : ByteArray)[0].toNat : Int))) = false := rfl
        have hj0 : j ≠ 0 := by intro h0; subst h0; rw [Nat.add_zero, HB0.out] at hb; cases hb
        have HQ := Lib.hid fun m => show ExtQ B R tv T l k n c dv D w (.returned (.tuple #[])) (wr.drewN m) from ⟨k + j, h2.drewN m, h1.drewN m, .inr ⟨_, rfl, hgo, .inr ⟨j, by unfold exS; rw [if_neg hj0], hb⟩, by omega⟩⟩
        clear hgo h1 h2 hb H hk hl c1
        go_wp2_with fail
        go_quiet ((go_at_call 80; exact Calls.quiet_of (HN.out _)))
        go_wp2_with fail
        first | go_end0 | trace_state
        exact HQ.out _
      · have hbq : (((b.toNat : Int)) != ((({ data := #[13] } : ByteArray)[0].toNat : Int))) = true := bne_of_beq (byte_ne h13)
        have hlt := (List.getElem?_eq_some_iff.1 hb).1
        obtain ⟨p, cap, htv, hcap, h3⟩ := h1.slice
        have c0 : ∀ m, (wr.drewN m).cell? ⟨R, 0, none⟩ = some (.slice p T.length cap) := fun m => htv ▸ h1.c0
        have c4 : ∀ m, (wr.drewN m).cell? ⟨R, 4, none⟩ = some (.int .i64 (q : Int)) := fun m => hq ▸ h1.c4
        obtain ⟨q1, hq1⟩ : ∃ q1, q + 1 = q1 := ⟨_, rfl⟩
        have hwq : IntKind.i64.wrap ((q : Int) + 1) = (q1 : Int) := by rw [IntWalk.i64_in _ (by omega)]; omega
        obtain ⟨sv, hsv⟩ : ∃ sv, sliced p q q1 cap 1 = sv := ⟨_, rfl⟩
        have hcut : ∀ W, (Instr.slice 35 (.slice p T.length cap) (some (.int .i64 (q : Int))) (some (.int .i64 (q1 : Int))) none).run Tryz.prog W = .ok sv W := fun W => hsv ▸ cut_lh p T.length cap q q1 (by omega) (by omega) W
        have hone : (T.take q1).drop q = [b] := by rw [← hq1, List.drop_take, drop_some (hq ▸ hb)]; simp
        have hconv : ∀ m, (convert 35 9 sv).run Tryz.prog (wr.drewN m) = .ok (.string ⟨#[b]⟩) (wr.drewN m) := fun m => by
          have := conv_rd ((htv ▸ (h1.drewN m).text : RD (wr.drewN m) (.slice p T.length cap) T).part (i := q) (j := q1) (m := cap) (by omega) (by omega) (by omega) (by omega))
          rw [hone, hsv] at this
          exact this
        obtain ⟨t, ht⟩ : ∃ t, txb b = t := ⟨_, rfl⟩
        have HT := Lib.hid fun (W : World) => show Calls Tryz.prog 82 #[.string ⟨#[b]⟩] W fun e w' => e = .returned (.bool t) ∧ Below W.heap.size W w' by
          have := text_any ⟨#[b]⟩ W (by show (1 : Nat) ≤ _; decide)
          rw [show (⟨#[b]⟩ : ByteArray).data.toList = [b] from rfl, text_one, ht] at this
          exact this
        have H1 := Lib.hid h1
        have H2 := Lib.hid h2
        have HG := Lib.hid hgo
        have HB := Lib.hid hb
        have HHT := Lib.hid ht
        have HQQ := Lib.hid hq
        have HQ1 := Lib.hid hq1
        clear h1 h2 hgo hb ht hone hsv htv h3 H c1 hq hq1 hlt hk hcap
        go_wp2_with fail
        go_quiet ((go_at_call 80; exact Calls.quiet_of (HN.out _)))
        go_wp2_with fail
        go_region_with (go_at_call 82; refine (HT.out _).mono ?_; rintro e w' ⟨rfl, hbw⟩)
        all_goals
          have hr := (H1.out.drewN _).below hbw
          have hs := (H2.out.drewN _).trans (Solo.of_below (B := B) (R := R) hbw (H1.out.drewN _).base.2)
          clear c0 c4 hcut hconv hbw
          have c4 : w'.cell? ⟨R, 4, none⟩ = some (.int .i64 (q : Int)) := HQQ.out ▸ hr.c4
          have f4 := hr.f 4
          have hp := Lib.hid (hr.put (k + (j + 1)) (by omega) (by have := (List.getElem?_eq_some_iff.1 HB.out).1; omega))
          have hps := Lib.hid (hs.set 4 (.int .i64 ((k + (j + 1) : Nat) : Int)))
          rw [show k + (j + 1) = q1 by have := HQQ.out; have := HQ1.out; omega] at hp hps
          have hr' := Lib.hid hr
          have hs' := Lib.hid hs
          clear hr hs
          cases t with
          | false =>
            go_wp2_with (go_at_call 76; refine (giveUp_any _ _ _).mono ?_; rintro e w'' ⟨rfl, rfl⟩)
            exact ⟨rfl, k + j, hs'.out, hr'.out, .inl ⟨2, _, rfl, by decide, HG.out.trans (exS_bad HB0.out HB.out HHT.out h13), exS_data ..⟩⟩
          | true =>
            by_cases hj' : j = l.ext
            · have hz : (((l.ext - j : Nat) : Int) == 0) = true := by rw [beq_iff_eq]; omega
              go_wp2_with (go_at_call 76; refine (giveUp_any _ _ _).mono ?_; rintro e w'' ⟨rfl, rfl⟩)
              exact ⟨rfl, k + j, hs'.out, hr'.out, .inl ⟨5, _, rfl, by decide, HG.out.trans (exS_limit hc HB0.out HB.out HHT.out (by omega)), exS_data ..⟩⟩
            · have hz : (((l.ext - j : Nat) : Int) == 0) = false := by rw [beq_eq_false_iff_ne]; omega
              have hwr : IntKind.i64.wrap (((l.ext - j : Nat) : Int) - 1) = ((l.ext - (j + 1) : Nat) : Int) := by rw [IntWalk.i64_in _ (by omega)]; omega
              go_wp2_with fail
              go_roundw
              · refine ⟨j + 1, rfl, by omega, ?_, hps.out, HG.out.trans (exS_step hc HB0.out HB.out HHT.out (by omega))⟩
                rw [show k + (j + 1) = q1 by have := HQQ.out; have := HQ1.out; omega]
                exact hp.out
              · simp only [intOf]; omega

end Go.Proofs.YtilebfpaibajcaaGreatDoor
