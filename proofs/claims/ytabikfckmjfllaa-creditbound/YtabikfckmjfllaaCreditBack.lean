/- The law's wakes; the law CreditBack. -/
import Derived.Test.YtabikfckmjfllaaCreditSmall
namespace Go.Proofs.Ytabikfckmjfllaa
open Go.ChangeShapes Go.WideShapes Go.ChangeAt Go.RowKit
set_option linter.unusedVariables false

set_option maxHeartbeats 1000000 in
theorem cred_wakes (w : World) : Calls Try.prog 7 #[] w fun e w' => e = .returned (.bool true) ∧ Below w.heap.size w w' := by
  go_enter Try.func7, Try.ntmps7
  go_wp2_with fail
  refine (cred_new_any w 5 (by decide) (by decide)).mono ?_
  rintro e w1 ⟨R, rfl, hc, hR, b1⟩
  have h1 := Lib.hid (take_any w1 R 5 0 0 0 3 hc)
  clear hc
  go_wp2_with fail
  refine h1.out.mono ?_
  rintro e w2 ⟨rfl, hc, s2⟩
  have h2 := Lib.hid (take_any w2 R 2 3 0 0 3 hc)
  clear hc h1
  go_wp2_with fail
  refine h2.out.mono ?_
  rintro e w3 ⟨rfl, hc, s3⟩
  have h3 := Lib.hid (use_any w3 R 0 5 0 0 4 hc)
  clear hc h2
  go_wp2_with fail
  refine h3.out.mono ?_
  rintro e w4 ⟨rfl, hc, s4⟩
  have h4 := Lib.hid (give_any w4 R 0 1 4 0 5 hc (by decide))
  clear hc h3
  go_wp2_with fail
  refine h4.out.mono ?_
  rintro e w5 ⟨rfl, hc, s5⟩
  have h5 := Lib.hid (give_any w5 R 0 1 4 0 4 hc (by decide))
  clear hc h4
  go_wp2_with fail
  refine h5.out.mono ?_
  rintro e w6 ⟨rfl, hc, s6⟩
  have h6 := Lib.hid (return_any w6 R 4 1 0 4 1 hc)
  clear hc h5
  go_wp2_with fail
  refine h6.out.mono ?_
  rintro e w7 ⟨rfl, hc, s7⟩
  have h7 := Lib.hid (open_any w7 R 5 0 0 4 hc)
  clear hc h6
  go_wp2_with fail
  refine h7.out.mono ?_
  rintro e w8 ⟨rfl, rfl⟩
  go_wp2_with fail
  go_ret
  exact ⟨rfl, ((s2.trans s3).trans (s4.trans (s5.trans (s6.trans s7)))).below b1 hR b1.size⟩

set_option maxHeartbeats 1000000 in
theorem back_walk (n a b : Int) (n0 : 0 ≤ n) (n1 : n ≤ 65535) (a0 : 0 ≤ a) (a1 : a ≤ 65535) (b0 : 0 ≤ b) (b1 : b ≤ 65535) (w : World) :
    Calls Try.prog 5 #[.int .u16 n, .int .u16 a, .int .u16 b] w fun e w' => e = .returned (.bool true) ∧ Below w.heap.size w w' := by
  obtain ⟨N, hN⟩ : ∃ N : Nat, n + 1 = (N : Int) := ⟨(n + 1).toNat, by omega⟩
  have hN1 : 1 ≤ N := by omega
  have hN2 : N ≤ 65536 := by omega
  have hwN : IntKind.i64.wrap (n + 1) = (N : Int) := by rw [hN]; exact IntWalk.i64_in _ (by omega)
  clear hN
  go_enter Try.func5, Try.ntmps5
  go_wp2_with (go_at_call 7; refine (cred_wakes _).mono ?_; rintro e w0 ⟨rfl, hb0⟩)
  refine (cred_new_any w0 N hN1 hN2).mono ?_
  rintro e w1 ⟨R, rfl, hc, hR, b1⟩
  have B1 : Below w.heap.size w w1 := hb0.trans (b1.mono hb0.size)
  have hRw : w.heap.size ≤ R := Nat.le_trans hb0.size hR
  obtain ⟨k, hk⟩ : ∃ k, min a.toNat N = k := ⟨_, rfl⟩
  have hkN : k ≤ N := by omega
  have h1 := take_any w1 R N 0 0 0 a hc
  rw [hk, Nat.zero_add] at h1
  have h1 := Lib.hid h1
  clear hc hk b1 hb0
  go_wp2_with fail
  refine h1.out.mono ?_
  rintro e w2 ⟨rfl, hc, s2⟩
  have h2 := use_ok w2 R _ _ _ _ k hc (Nat.le_refl _)
  rw [Nat.sub_self, Nat.zero_add] at h2
  have h2 := Lib.hid h2
  clear hc h1
  go_wp2_with fail
  refine h2.out.mono ?_
  rintro e w3 ⟨rfl, hc, s3⟩
  obtain ⟨o, ho⟩ : ∃ o, N - k = o := ⟨_, rfl⟩
  obtain ⟨t, ht⟩ : ∃ t, min b.toNat o = t := ⟨_, rfl⟩
  have hoN : o + k = N := by omega
  have hto : t ≤ o := by omega
  rw [ho] at hc
  have h3 := take_any w3 R o 0 k 0 b hc
  rw [ht, Nat.zero_add] at h3
  have h3 := Lib.hid h3
  clear hc h2 ho ht
  go_wp2_with fail
  refine h3.out.mono ?_
  rintro e w4 ⟨rfl, hc, s4⟩
  have h4 := return_ok w4 R _ _ _ _ t hc (Nat.le_refl _)
  rw [Nat.sub_self] at h4
  have h4 := Lib.hid h4
  have h5 := Lib.hid (open_any w4 R _ _ _ _ hc)
  have h6 := Lib.hid (held_any w4 R _ _ _ _ hc)
  clear hc h3
  go_wp2_with (first
    | (go_at_call 11; refine h5.out.mono ?_; rintro e w' ⟨rfl, rfl⟩)
    | (go_at_call 13; refine h6.out.mono ?_; rintro e w' ⟨rfl, rfl⟩))
  refine h4.out.mono ?_
  rintro e w5 ⟨rfl, hc, s5⟩
  have h7 := Lib.hid (taken_any w5 R _ _ _ _ hc)
  have h8 := Lib.hid (open_any w5 R _ _ _ _ hc)
  have h9 := Lib.hid (held_any w5 R _ _ _ _ hc)
  have h10 := Lib.hid (grants_any w5 R _ _ _ _ hc)
  clear hc h4 h5 h6
  go_wp2_with (first
    | (go_at_call 12; refine h7.out.mono ?_; rintro e w' ⟨rfl, rfl⟩)
    | (go_at_call 11; refine h8.out.mono ?_; rintro e w' ⟨rfl, rfl⟩)
    | (go_at_call 13; refine h9.out.mono ?_; rintro e w' ⟨rfl, rfl⟩)
    | (go_at_call 14; refine h10.out.mono ?_; rintro e w' ⟨rfl, rfl⟩))
  go_ret
  exact ⟨rfl, ((s2.trans s3).trans (s4.trans s5)).below B1 hRw B1.size⟩
theorem back_said (n a b : Int) (wn : (Lit.int .u16 n).wf = true) (wa : (Lit.int .u16 a).wf = true) (wb : (Lit.int .u16 b).wf = true) (w : World) :
    Calls Try.prog 5 #[.int .u16 n, .int .u16 a, .int .u16 b] w fun e w' => e = .returned (.bool true) ∧ Below w.heap.size w w' := by
  have h0 := bounds_u16 wn
  have h1 := bounds_u16 wa
  have h2 := bounds_u16 wb
  exact back_walk n a b h0.1 h0.2 h1.1 h1.2 h2.1 h2.2 w

end Go.Proofs.Ytabikfckmjfllaa
