/- The document's Put answers a number's text. -/
import Derived.Test.YtgedaplljnpilaaWalksC
namespace Go.Proofs.Ytgedaplljnpilaa
open Go.ChangeShapes Go.WideShapes Go.ChangeAt Go.RowKit
open Hx
set_option linter.unusedVariables false

theorem ret_str {a b : ByteArray} (h : a = b) : Ending.returned (.string a) = .returned (.string b) := by rw [h]
theorem small_cut : ∀ d : Nat, d < 16 → small.extract d (d + 1) = ⟨#[hexd d]⟩ := by decide
theorem run_small (n : Int) (h0 : 0 ≤ n % 16) (h1 : n % 16 < 16) (wx : World) :
    (Instr.slice 9 (.string ⟨#[48, 49, 50, 51, 52, 53, 54, 55, 56, 57, 97, 98, 99, 100, 101, 102]⟩) (some (.int .i64 (n % 16))) (some (.int .i64 (n % 16 + 1))) none).run Try.prog wx = .ok (.string ⟨#[hexd (n % 16).toNat]⟩) wx := by
  rw [run_slice_string (P := Try.prog) (t := 9) (s := small) (k := .i64) (k' := .i64) (i := n % 16) (j := n % 16 + 1) (h := Try.underlying9) (h0 := h0) (h1 := by omega) (h2 := by show _ ≤ ((16 : Nat) : Int); omega)]
  rw [show (n % 16 + 1).toNat = (n % 16).toNat + 1 from by omega, small_cut _ (by omega)]
theorem put_small (n : Int) (h0 : 0 ≤ n) (h : n < 16) : (⟨#[hexd (n % 16).toNat]⟩ : ByteArray) = ⟨(put n.toNat).toArray⟩ := by
  rw [put, dif_pos (by omega), show (n % 16).toNat = n.toNat from by omega]
theorem put_great (n : Int) (h0 : 0 ≤ n) (h : ¬ n < 16) : put n.toNat = put (n / 16).toNat ++ [hexd (n % 16).toNat] := by
  rw [put, dif_neg (by omega), show (n / 16).toNat = n.toNat / 16 from by omega, show (n % 16).toNat = n.toNat % 16 from by omega]

theorem run_put (n : Int) (h0 : 0 ≤ n) (h : ¬ n < 16) (h1 : n ≤ 18446744073709551615) (wx : World) :
    (Op.stringOp .add ⟨(put (n / 16).toNat).toArray⟩ ⟨#[hexd (n % 16).toNat]⟩).run Try.prog wx = .ok (.string ⟨(put n.toNat).toArray⟩) wx := by
  have hl := put_len16 (n / 16).toNat (by omega)
  refine (run_string_add_sum (P := Try.prog) (w := wx) _ _ (by show (put (n / 16).toNat).toArray.size + 1 ≤ _; rw [List.size_toArray]; omega)).trans ?_
  rw [put_great n h0 h]
  congr 2

set_option maxHeartbeats 400000 in
theorem rput_any (k : Nat) : ∀ (n : Int) (w : World), n < k → 0 ≤ n → n ≤ 18446744073709551615 →
    Calls Try.prog 14 #[.int .u64 n] w fun e w' => e = .returned (.string ⟨(put n.toNat).toArray⟩) ∧ ∃ m, w' = w.drewN m := by
  induction k with
  | zero => intro n w hk h0 _; omega
  | succ k ih =>
    intro n w hk h0 h1
    have IH := Lib.hid ih
    clear ih
    have hd0 : 0 ≤ n % 16 := by omega
    have hd1 : n % 16 < 16 := by omega
    have hsl := run_small n hd0 hd1
    by_cases hn : n < 16
    · go_enter Try.func14, Try.ntmps14
      go_wp2_with fail
      go_ret
      exact ⟨ret_str (put_small n h0 hn), 0, rfl⟩
    · have HC := Lib.hid fun wx => IH.out (n / 16) wx (by omega) (by omega) (by omega)
      have hq : IntKind.u64.wrap (n.tdiv 16) = n / 16 := by
        rw [Int.tdiv_eq_ediv_of_nonneg h0]; exact IntWalk.u64_in _ (by omega)
      have hp : IntKind.i64.wrap (n % 16 + 1) = n % 16 + 1 := IntWalk.i64_in _ (by omega)
      have hadd := run_put n h0 hn h1
      go_enter Try.func14, Try.ntmps14
      go_wp2_with fail
      go_quiet ((go_at_call 14; exact Calls.quiet_of (HC.out _)))
      go_wp2_with fail
      go_ret
      exact ⟨rfl, _, rfl⟩


set_option maxHeartbeats 400000 in
theorem more_walk_bad (n c : Int) (n0 : 0 ≤ n) (n1 : n ≤ 18446744073709551615) (c0 : 0 ≤ c) (c1 : c ≤ 255) (hd : dg c < 0) (w : World) :
    Calls Try.prog 4 #[.int .u64 n, .int .u8 c] w fun e w' => e = .returned (.bool true) ∧ Grown w w' := by
  have hm := more_form n c hd
  have hm1 := congrArg Prod.fst hm
  have hm2 := congrArg Prod.snd hm
  clear hm
  go_enter Try.func4, Try.ntmps4
  go_wp2_with fail
  refine (wakes_any _).mono ?_; rintro e w' ⟨rfl, rfl⟩
  go_wp2_with fail
  refine (more_any _ _ c0 c1 n0 n1 _).mono ?_; rintro e w' ⟨rfl, rfl⟩
  go_wp2_with fail
  refine (rdigit_any _ c0 c1 _).mono ?_; rintro e w' ⟨rfl, rfl⟩
  go_wp2_with fail
  refine (digit_any _ c0 c1 _).mono ?_; rintro e w' ⟨rfl, rfl⟩
  go_wp2_with fail
  go_ret
  exact ⟨rfl, Grown.refl _⟩

theorem grown_drewN {W w' : World} (h : Grown W w') (n : Nat) : Grown W (w'.drewN n) := h
theorem conv_one (b : UInt8) (g : Nat) (wx : World) (h : wx.cell? ⟨g, 0, none⟩ = some (.int .u8 (b.toNat : Int))) :
    (convert 34 9 (.slice (some ⟨g, 0, none⟩) 1 1)).run Try.prog wx = .ok (.string ⟨#[b]⟩) wx :=
  run_convert_bytes_back (P := Try.prog) wx 34 9 5 ⟨g, 0, none⟩ 1 [b] Try.underlying34 Try.underlying5 Try.underlying9 (fun j hj => by
    obtain rfl : j = 0 := by simpa using hj
    exact h)
theorem add_one (n : Int) (h0 : 0 ≤ n) (h1 : n ≤ 18446744073709551615) (b : UInt8) (wx : World) :
    (Op.stringOp .add ⟨(put n.toNat).toArray⟩ ⟨#[b]⟩).run Try.prog wx = .ok (.string ⟨(put n.toNat ++ [b]).toArray⟩) wx := by
  have hl := put_len16 n.toNat (by omega)
  refine (run_string_add_sum (P := Try.prog) (w := wx) _ _ (by show (put n.toNat).toArray.size + 1 ≤ _; rw [List.size_toArray]; omega)).trans ?_
  congr 2
theorem rparse_more (n : Int) (h0 : 0 ≤ n) (h1 : n ≤ 18446744073709551615) (b : UInt8) (hd : 0 ≤ dg (b.toNat : Int)) (w : World) :
    Calls Try.prog 8 #[.string ⟨(put n.toNat ++ [b]).toArray⟩] w fun e w' => e = .returned (.tuple #[.int .u64 (more n b.toNat).1, .int .i64 (more n b.toNat).2]) ∧ w = w' := by
  have hl := put_len16 n.toNat (by omega)
  refine (rparse_any _ w (by show (put n.toNat ++ [b]).toArray.size ≤ _; simp; omega)).mono fun e w' h => ?_
  have e1 : parse (⟨(put n.toNat ++ [b]).toArray⟩ : ByteArray).data.toList = more n b.toNat := by
    show parse (put n.toNat ++ [b]) = _
    rw [parse_put_more _ _ hd, show ((n.toNat : Nat) : Int) = n from by omega]
  rw [e1] at h
  exact h

set_option maxHeartbeats 400000 in
theorem more_walk_ok (n : Int) (b : UInt8) (n0 : 0 ≤ n) (n1 : n ≤ 18446744073709551615) (hd : 0 ≤ dg (b.toNat : Int)) (w : World) :
    Calls Try.prog 4 #[.int .u64 n, .int .u8 (b.toNat : Int)] w fun e w' => e = .returned (.bool true) ∧ Grown w w' := by
  have HP := Lib.hid fun wx => rput_any (n.toNat + 1) n wx (by omega) n0 n1
  have c0 := byte_lo b
  have c1 := byte_hi b
  have hcv1 := fun q => conv_one b w.heap.size ((w.drewN q).alloc (.cells #[.int .u8 (b.toNat : Int)] 5)) (World.cell?_alloc_new (w := w.drewN q) _ _ 0)
  have hcv2 := fun q => conv_one b w.heap.size ((w.alloc (.cells #[.int .u8 (b.toNat : Int)] 5)).drewN q) (by go_simp)
  have hcv3 := conv_one b w.heap.size (w.alloc (.cells #[.int .u8 (b.toNat : Int)] 5)).drew (by go_simp)
  have hcv4 := conv_one b w.heap.size (w.drew.alloc (.cells #[.int .u8 (b.toNat : Int)] 5)) (by go_simp)
  have hadd := add_one n n0 n1 b
  go_enter Try.func4, Try.ntmps4
  go_wp2_with fail
  refine (wakes_any _).mono ?_; rintro e w' ⟨rfl, rfl⟩
  go_wp2_with fail
  refine (more_any _ _ c0 c1 n0 n1 _).mono ?_; rintro e w' ⟨rfl, rfl⟩
  go_wp2_with fail
  refine (rdigit_any _ c0 c1 _).mono ?_; rintro e w' ⟨rfl, rfl⟩
  go_wp2_with fail
  refine (digit_any _ c0 c1 _).mono ?_; rintro e w' ⟨rfl, rfl⟩
  go_wp2_with fail
  go_region_with (first | (go_at_call 14; refine (HP.out _).mono ?_; rintro e w' ⟨rfl, m, rfl⟩) | (go_at_call 8; refine (rparse_more n n0 n1 b hd _).mono ?_; rintro e w' ⟨rfl, rfl⟩))
  all_goals
    go_wp2_with fail
    go_ret
    refine ⟨rfl, ?_⟩
    repeat (first | exact Grown.refl _ | refine grown_drewN ?_ _ | refine Grown.drew ?_ | refine Grown.alloc ?_ _ _)

theorem more_walk (a0 a1 : Int) (w0 : (Lit.int .u64 a0).wf = true) (w1 : (Lit.int .u8 a1).wf = true) (w : World) :
    Calls Try.prog 4 #[.int .u64 a0, .int .u8 a1] w fun e w' => e = .returned (.bool true) ∧ Grown w w' := by
  have b0 := bounds_u64 w0
  have b1 := bounds_u8 w1
  by_cases hd : dg a1 < 0
  · exact more_walk_bad a0 a1 b0.1 (by omega) b1.1 (by omega) hd w
  · obtain ⟨b, rfl⟩ : ∃ b : UInt8, a1 = (b.toNat : Int) := ⟨UInt8.ofNat a1.toNat, by simp; omega⟩
    exact more_walk_ok a0 b b0.1 (by omega) (by omega) w

end Go.Proofs.Ytgedaplljnpilaa
