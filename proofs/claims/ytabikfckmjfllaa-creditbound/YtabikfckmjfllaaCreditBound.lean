/- The laws CreditBound and CreditGrants. -/
import Derived.Test.YtabikfckmjfllaaCreditBack
namespace Go.Proofs.Ytabikfckmjfllaa
open Go.ChangeShapes Go.WideShapes Go.ChangeAt Go.RowKit
set_option linter.unusedVariables false

/-- A row of l numbers from 0 to B. -/
def IntsAt (W : World) (kd : IntKind) (p : Option Addr) (l : Nat) (B : Int) : Prop :=
  ∀ i, i < l → ∃ ad z, p = some ad ∧ W.cell? (ad.add i) = some (.int kd z) ∧ 0 ≤ z ∧ z ≤ B
theorem IntsAt.below {W W' : World} {kd : IntKind} {p : Option Addr} {l : Nat} {B : Int} (h : IntsAt W kd p l B) (hb : Below W.heap.size W W') : IntsAt W' kd p l B := fun i hi => by
  obtain ⟨ad, z, e, h1, h2⟩ := h i hi
  exact ⟨ad, z, e, (hb.cell (World.block_lt_of_cell? W _ h1)).trans h1, h2⟩
theorem row_ints {w : World} {kd : IntKind} {B : Int} (hB : ∀ n, (Lit.int kd n).wf = true → 0 ≤ n ∧ n ≤ B) {p : Option Addr} {l c : Nat} {zs : List Int} (h : (p = none ∧ l = 0 ∧ c = 0 ∧ zs = []) ∨
    ∃ x, p = some x ∧ l ≤ c ∧ c ≤ maxLen ∧ zs.length = c ∧ (∀ i, i < zs.length → w.cell? (x.add i) = some (.int kd (zs.getD i 0))) ∧ ∀ n ∈ zs, (Lit.int kd n).wf = true) : IntsAt w kd p l B ∧ l ≤ maxLen := by
  rcases h with ⟨rfl, rfl, rfl, rfl⟩ | ⟨x, rfl, h1, h2, h3, h4, h5⟩
  · exact ⟨fun i hi => by omega, by simp⟩
  · refine ⟨fun i hi => ?_, by omega⟩
    have hiz : i < zs.length := by omega
    have e : zs.getD i 0 = zs[i] := by simp [List.getD, List.getElem?_eq_getElem hiz]
    exact ⟨x, zs[i], rfl, by rw [h4 i hiz, e], hB _ (h5 zs[i] (List.getElem_mem hiz))⟩

set_option maxRecDepth 20000 in
set_option maxHeartbeats 2000000 in
theorem bound_walk (n : Int) (n0 : 0 ≤ n) (n1 : n ≤ 65535) (p : Option Addr) (l c : Nat) (w : World) (hI : IntsAt w .u16 p l 65535) (hl : l ≤ maxLen) :
    Calls Try.prog 4 #[.int .u16 n, .slice p l c] w fun e w' => e = .returned (.bool true) ∧ Below w.heap.size w w' := by
  obtain ⟨N, hN⟩ : ∃ N : Nat, n + 1 = (N : Int) := ⟨(n + 1).toNat, by omega⟩
  have hN1 : 1 ≤ N := by omega
  have hN2 : N ≤ 65536 := by omega
  have hwN : IntKind.i64.wrap (n + 1) = (N : Int) := by rw [hN]; exact IntWalk.i64_in _ (by omega)
  have HI := Lib.hid hI
  simp only [maxLen] at hl
  clear hN hI
  by_cases h100 : 100 < l
  · have h100' : (100 : Int) < (l : Int) := by omega
    go_enter Try.func4, Try.ntmps4
    go_wp2_with (go_at_call 7; refine (cred_wakes _).mono ?_; rintro e w0 ⟨rfl, hb0⟩)
    go_ret
    exact ⟨rfl, hb0⟩
  have h100' : ¬ ((100 : Int) < (l : Int)) := by omega
  go_enter Try.func4, Try.ntmps4
  go_wp2_with (go_at_call 7; refine (cred_wakes _).mono ?_; rintro e w0 ⟨rfl, hb0⟩)
  refine (cred_new_any w0 N hN1 hN2).mono ?_
  rintro e w1 ⟨R, rfl, hc, hR, b1⟩
  have B1 : Below w.heap.size w w1 := hb0.trans (b1.mono hb0.size)
  have hRw : w.heap.size ≤ R := Nat.le_trans hb0.size hR
  have HC := Lib.hid hc
  clear hc b1 hb0
  go_wp2_with fail
  go_loopw [7, 32] (fun z i wr => ∃ (k hd o g : Nat), i = .int .i64 (k : Int) ∧ z = .int .i64 (hd : Int) ∧ k ≤ l ∧ o + hd = N ∧ g ≤ k * 65536 ∧ CredAt wr R o 0 hd g ∧ Below w.heap.size w wr) (fun _ i _ => l - (intOf i).toNat)
  case atStart => exact ⟨0, 0, N, 0, rfl, rfl, Nat.zero_le _, rfl, Nat.zero_le _, HC.out, B1⟩
  case round =>
    clear HC B1
    obtain ⟨k, hd, o, g, rfl, rfl, hk, hoN, hg, hc, hB⟩ := hrel
    by_cases hlt : k < l
    · have hlt' : (k : Int) < (l : Int) := by omega
      obtain ⟨ad, z, rfl, e1, z0, z1⟩ := HI.out.below hB k hlt
      by_cases hpar : k % 2 = 0
      · have hpar' : (k : Int) % 2 = 0 := by omega
        obtain ⟨t, ht⟩ : ∃ t, min z.toNat o = t := ⟨_, rfl⟩
        have hto : t ≤ o := by omega
        have h1 := take_any wr R o 0 hd g z hc
        rw [ht, Nat.zero_add] at h1
        have h1 := Lib.hid h1
        clear hc hpar ht
        go_wp2_with fail
        refine h1.out.mono ?_
        rintro e w2 ⟨rfl, hc, s2⟩
        obtain ⟨o1, ho1⟩ : ∃ o1, o - t = o1 := ⟨_, rfl⟩
        have h2 := use_ok w2 R _ _ _ _ t hc (Nat.le_refl _)
        rw [Nat.sub_self, ho1] at h2
        have h2 := Lib.hid h2
        have hs1 : o1 + (hd + t) = N := by omega
        have hw1 : IntKind.i64.wrap ((hd : Int) + (t : Int)) = ((hd + t : Nat) : Int) := by rw [← Int.natCast_add]; exact IntWalk.i64_in _ (by omega)
        have hw2 : IntKind.i64.wrap ((o1 : Int) + ((hd + t : Nat) : Int)) = (N : Int) := by rw [← Int.natCast_add, hs1]; exact IntWalk.i64_in _ (by omega)
        obtain ⟨hd', hhd'⟩ : ∃ hd', hd + t = hd' := ⟨_, rfl⟩
        rw [hhd'] at hw1 hw2 hs1 h2
        have hle : ¬ ((N : Int) < (hd' : Int)) := by omega
        have S1 := Lib.hid hs1
        clear hc h1 ho1 hoN hhd' hs1
        go_wp2_with fail
        refine h2.out.mono ?_
        rintro e w3 ⟨rfl, hc, s3⟩
        have h3 := Lib.hid (held_any w3 R _ _ _ _ hc)
        have h4 := Lib.hid (open_any w3 R _ _ _ _ hc)
        have HC := Lib.hid hc
        clear hc h2
        go_wp2_with (first
          | (go_at_call 13; refine h3.out.mono ?_; rintro e w' ⟨rfl, rfl⟩)
          | (go_at_call 11; refine h4.out.mono ?_; rintro e w' ⟨rfl, rfl⟩))
        go_roundw
        case rel => exact ⟨k + 1, hd', o1, g, by go_num, rfl, by omega, S1.out, Nat.le_trans hg (Nat.mul_le_mul_right _ (Nat.le_succ k)), HC.out, (s2.trans s3).below hB hRw hB.size⟩
        case measure => simp [intOf]; omega
      · have hpar' : (k : Int) % 2 = 1 := by omega
        obtain ⟨t, ht⟩ : ∃ t, min z.toNat hd = t := ⟨_, rfl⟩
        have hto : t ≤ hd := by omega
        have hmin : min z (hd : Int) = (t : Int) := by omega
        obtain ⟨hd', hhd'⟩ : ∃ hd', hd - t = hd' := ⟨_, rfl⟩
        have h1 := give_ok wr R o 0 hd g t hc (by omega) hto
        rw [hhd'] at h1
        have h1 := Lib.hid h1
        have hs1 : (o + t) + hd' = N := by omega
        have hw1 : IntKind.i64.wrap ((hd : Int) - (t : Int)) = (hd' : Int) := by
          have : (hd : Int) - (t : Int) = (hd' : Int) := by omega
          rw [this]; exact IntWalk.i64_in _ (by omega)
        obtain ⟨o1, ho1⟩ : ∃ o1, o + t = o1 := ⟨_, rfl⟩
        rw [ho1] at hs1 h1
        have hw2 : IntKind.i64.wrap ((o1 : Int) + (hd' : Int)) = (N : Int) := by rw [← Int.natCast_add, hs1]; exact IntWalk.i64_in _ (by omega)
        have hle : ¬ ((N : Int) < (hd' : Int)) := by omega
        have htb : t ≤ 65536 := by omega
        have hgt : g + t ≤ (k + 1) * 65536 := by omega
        have S1 := Lib.hid hs1
        clear hc hpar ht hoN hhd' ho1 hs1
        go_wp2_with fail
        refine h1.out.mono ?_
        rintro e w3 ⟨rfl, hc, s3⟩
        have h3 := Lib.hid (held_any w3 R _ _ _ _ hc)
        have h4 := Lib.hid (open_any w3 R _ _ _ _ hc)
        have HC := Lib.hid hc
        clear hc h1
        go_wp2_with (first
          | (go_at_call 13; refine h3.out.mono ?_; rintro e w' ⟨rfl, rfl⟩)
          | (go_at_call 11; refine h4.out.mono ?_; rintro e w' ⟨rfl, rfl⟩))
        go_roundw
        case rel => exact ⟨k + 1, hd', o1, g + t, by go_num, rfl, by omega, S1.out, hgt, HC.out, s3.below hB hRw hB.size⟩
        case measure => simp [intOf]; omega
    · have hlt' : ¬ ((k : Int) < (l : Int)) := by omega
      clear hc
      go_wp2_with fail
      go_ret
      exact ⟨rfl, hB⟩
theorem bound_said (n : Int) (wn : (Lit.int .u16 n).wf = true) (p : Option Addr) (l c : Nat) (zs : List Int) (w : World) (h : (p = none ∧ l = 0 ∧ c = 0 ∧ zs = []) ∨
    ∃ x, p = some x ∧ l ≤ c ∧ c ≤ maxLen ∧ zs.length = c ∧ (∀ i, i < zs.length → w.cell? (x.add i) = some (.int .u16 (zs.getD i 0))) ∧ ∀ n ∈ zs, (Lit.int .u16 n).wf = true) :
    Calls Try.prog 4 #[.int .u16 n, .slice p l c] w fun e w' => e = .returned (.bool true) ∧ Below w.heap.size w w' := by
  obtain ⟨h1, h2⟩ := row_ints (fun n h => bounds_u16 h) h
  exact bound_walk n (bounds_u16 wn).1 (bounds_u16 wn).2 p l c w h1 h2

set_option maxRecDepth 20000 in
set_option maxHeartbeats 2000000 in
theorem grants_walk (n : Int) (n0 : 0 ≤ n) (n1 : n ≤ 65535) (p : Option Addr) (l c : Nat) (w : World) (hI : IntsAt w .u8 p l 255) (hl : l ≤ maxLen) :
    Calls Try.prog 6 #[.int .u16 n, .slice p l c] w fun e w' => e = .returned (.bool true) ∧ Below w.heap.size w w' := by
  obtain ⟨N, hN⟩ : ∃ N : Nat, n + 1 = (N : Int) := ⟨(n + 1).toNat, by omega⟩
  have hN1 : 1 ≤ N := by omega
  have hN2 : N ≤ 65536 := by omega
  have hwN : IntKind.i64.wrap (n + 1) = (N : Int) := by rw [hN]; exact IntWalk.i64_in _ (by omega)
  have HI := Lib.hid hI
  simp only [maxLen] at hl
  clear hN hI
  by_cases h100 : 100 < l
  · have h100' : (100 : Int) < (l : Int) := by omega
    go_enter Try.func6, Try.ntmps6
    go_wp2_with (go_at_call 7; refine (cred_wakes _).mono ?_; rintro e w0 ⟨rfl, hb0⟩)
    go_ret
    exact ⟨rfl, hb0⟩
  have h100' : ¬ ((100 : Int) < (l : Int)) := by omega
  go_enter Try.func6, Try.ntmps6
  go_wp2_with (go_at_call 7; refine (cred_wakes _).mono ?_; rintro e w0 ⟨rfl, hb0⟩)
  refine (cred_new_any w0 N hN1 hN2).mono ?_
  rintro e w1 ⟨R, rfl, hc, hR, b1⟩
  have B1 : Below w.heap.size w w1 := hb0.trans (b1.mono hb0.size)
  have hRw : w.heap.size ≤ R := Nat.le_trans hb0.size hR
  have HC := Lib.hid hc
  clear hc b1 hb0
  go_wp2_with fail
  go_loopw [7, 31] (fun z i wr => ∃ (k hd o g u : Nat), i = .int .i64 (k : Int) ∧ z = .int .i64 (u : Int) ∧ k ≤ l ∧ u = g + hd ∧ u ≤ k * 65536 ∧ CredAt wr R o 0 hd g ∧ Below w.heap.size w wr) (fun _ i _ => l - (intOf i).toNat)
  case atStart => exact ⟨0, 0, N, 0, 0, rfl, rfl, Nat.zero_le _, rfl, Nat.zero_le _, HC.out, B1⟩
  case round =>
    clear HC B1
    obtain ⟨k, hd, o, g, u, rfl, rfl, hk, hug, hu, hc, hB⟩ := hrel
    by_cases hlt : k < l
    · have hlt' : (k : Int) < (l : Int) := by omega
      obtain ⟨ad, z, rfl, e1, z0, z1⟩ := HI.out.below hB k hlt
      obtain ⟨t, ht⟩ : ∃ t, min z.toNat o = t := ⟨_, rfl⟩
      have hto : t ≤ o := by omega
      have hsum := hc.sum
      have h1 := take_any wr R o 0 hd g z hc
      rw [ht, Nat.zero_add] at h1
      have h1 := Lib.hid h1
      clear hc ht
      go_wp2_with fail
      refine h1.out.mono ?_
      rintro e w2 ⟨rfl, hc, s2⟩
      have h2 := use_ok w2 R _ _ _ _ t hc (Nat.le_refl _)
      rw [Nat.sub_self] at h2
      obtain ⟨hd', hhd'⟩ : ∃ hd', hd + t = hd' := ⟨_, rfl⟩
      obtain ⟨u', hu'⟩ : ∃ u', u + t = u' := ⟨_, rfl⟩
      have hw1 : IntKind.i64.wrap ((u : Int) + (t : Int)) = (u' : Int) := by rw [← Int.natCast_add, hu']; exact IntWalk.i64_in _ (by omega)
      rw [hhd'] at h2
      have h2 := Lib.hid h2
      have hug' : u' = g + hd' := by omega
      have hub : u' ≤ (k + 1) * 65536 := by omega
      have hhb : hd' ≤ 65536 := by omega
      have UG := Lib.hid hug'
      clear hc h1 hug hhd' hu' hug'
      go_wp2_with fail
      refine h2.out.mono ?_
      rintro e w3 ⟨rfl, hc, s3⟩
      obtain ⟨x, hx⟩ : ∃ x, hd' / 2 = x := ⟨_, rfl⟩
      have hxd : x ≤ hd' := by omega
      have hquo : (hd' : Int) / 2 = (x : Int) := by omega
      have hug2 := UG.out
      have h4 := Lib.hid (give_ok w3 R _ _ _ _ x hc (by omega) hxd)
      have h3 := Lib.hid (held_any w3 R _ _ _ _ hc)
      clear hc h2 hx hug2
      go_wp2_with (first
          | (go_at_call 13; refine h3.out.mono ?_; rintro e w' ⟨rfl, rfl⟩))
      refine h4.out.mono ?_
      rintro e w4 ⟨rfl, hc, s4⟩
      have h5 := Lib.hid (held_any w4 R _ _ _ _ hc)
      have h6 := Lib.hid (grants_any w4 R _ _ _ _ hc)
      obtain ⟨hd2, hhd2⟩ : ∃ hd2, hd' - x = hd2 := ⟨_, rfl⟩
      obtain ⟨g2, hg2⟩ : ∃ g2, g + x = g2 := ⟨_, rfl⟩
      rw [hhd2] at h5 hc
      rw [hg2] at h6 hc
      have hug2 := UG.out
      have hug3 : u' = g2 + hd2 := by omega
      have hw3 : IntKind.i64.wrap ((u' : Int) - (hd2 : Int)) = (g2 : Int) := by
        have : (u' : Int) - (hd2 : Int) = (g2 : Int) := by omega
        rw [this]; exact IntWalk.i64_in _ (by omega)
      have HC := Lib.hid hc
      have UG3 := Lib.hid hug3
      clear hc h3 h4 hhd2 hg2 hug2 hug3 hquo
      go_wp2_with (first
          | (go_at_call 13; refine h5.out.mono ?_; rintro e w' ⟨rfl, rfl⟩)
          | (go_at_call 14; refine h6.out.mono ?_; rintro e w' ⟨rfl, rfl⟩))
      go_roundw
      case rel => exact ⟨k + 1, hd2, _, g2, u', by go_num, rfl, by omega, UG3.out, hub, HC.out, (s2.trans (s3.trans s4)).below hB hRw hB.size⟩
      case measure => simp [intOf]; omega
    · have hlt' : ¬ ((k : Int) < (l : Int)) := by omega
      clear hc hug
      go_wp2_with fail
      go_ret
      exact ⟨rfl, hB⟩
theorem grants_said (n : Int) (wn : (Lit.int .u16 n).wf = true) (p : Option Addr) (l c : Nat) (zs : List Int) (w : World) (h : (p = none ∧ l = 0 ∧ c = 0 ∧ zs = []) ∨
    ∃ x, p = some x ∧ l ≤ c ∧ c ≤ maxLen ∧ zs.length = c ∧ (∀ i, i < zs.length → w.cell? (x.add i) = some (.int .u8 (zs.getD i 0))) ∧ ∀ n ∈ zs, (Lit.int .u8 n).wf = true) :
    Calls Try.prog 6 #[.int .u16 n, .slice p l c] w fun e w' => e = .returned (.bool true) ∧ Below w.heap.size w w' := by
  obtain ⟨h1, h2⟩ := row_ints (fun n h => bounds_u8 h) h
  exact grants_walk n (bounds_u16 wn).1 (bounds_u16 wn).2 p l c w h1 h2

end Go.Proofs.Ytabikfckmjfllaa
