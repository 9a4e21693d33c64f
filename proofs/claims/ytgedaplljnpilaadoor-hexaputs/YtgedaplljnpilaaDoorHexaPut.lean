/- The document's Put answers a number's text. -/
import Derived.Test.YtgedaplljnpilaaDoorHexaSmall
namespace Go.Proofs.YtgedaplljnpilaaDoor
open Go.ChangeShapes Go.WideShapes Go.ChangeAt Go.RowKit
open Hx
set_option linter.unusedVariables false

theorem small_cut : ∀ d : Nat, d < 16 → small.extract d (d + 1) = ⟨#[hexd d]⟩ := by decide
theorem run_small (n : Int) (h0 : 0 ≤ n % 16) (h1 : n % 16 < 16) (wx : World) :
    (Instr.slice 9 (.string ⟨#[48, 49, 50, 51, 52, 53, 54, 55, 56, 57, 97, 98, 99, 100, 101, 102]⟩) (some (.int .i64 (n % 16))) (some (.int .i64 (n % 16 + 1))) none).run Tryd.prog wx = .ok (.string ⟨#[hexd (n % 16).toNat]⟩) wx := by
  rw [run_slice_string (P := Tryd.prog) (t := 9) (s := small) (k := .i64) (k' := .i64) (i := n % 16) (j := n % 16 + 1) (h := Tryd.underlying9) (h0 := h0) (h1 := by omega) (h2 := by show _ ≤ ((16 : Nat) : Int); omega)]
  rw [show (n % 16 + 1).toNat = (n % 16).toNat + 1 from by omega, small_cut _ (by omega)]
theorem put_small (n : Int) (h0 : 0 ≤ n) (h : n < 16) : (⟨#[hexd (n % 16).toNat]⟩ : ByteArray) = ⟨(put n.toNat).toArray⟩ := by
  rw [put, dif_pos (by omega), show (n % 16).toNat = n.toNat from by omega]
theorem put_great (n : Int) (h0 : 0 ≤ n) (h : ¬ n < 16) : put n.toNat = put (n / 16).toNat ++ [hexd (n % 16).toNat] := by
  rw [put, dif_neg (by omega), show (n / 16).toNat = n.toNat / 16 from by omega, show (n % 16).toNat = n.toNat % 16 from by omega]

theorem run_put (n : Int) (h0 : 0 ≤ n) (h : ¬ n < 16) (h1 : n ≤ 18446744073709551615) (wx : World) :
    (Op.stringOp .add ⟨(put (n / 16).toNat).toArray⟩ ⟨#[hexd (n % 16).toNat]⟩).run Tryd.prog wx = .ok (.string ⟨(put n.toNat).toArray⟩) wx := by
  have hl := put_len16 (n / 16).toNat (by omega)
  refine (run_string_add_sum (P := Tryd.prog) (w := wx) _ _ (by show (put (n / 16).toNat).toArray.size + 1 ≤ _; rw [List.size_toArray]; omega)).trans ?_
  rw [put_great n h0 h]
  congr 2

set_option maxHeartbeats 400000 in
theorem rput_any (k : Nat) : ∀ (n : Int) (w : World), n < k → 0 ≤ n → n ≤ 18446744073709551615 →
    Calls Tryd.prog 8 #[.int .u64 n] w fun e w' => e = .returned (.string ⟨(put n.toNat).toArray⟩) ∧ ∃ m, w' = w.drewN m := by
  induction k with
  | zero => intro n w hk h0 _; omega
  | succ k ih =>
    intro n w hk h0 h1
    have IH := Lib.hid ih
    clear ih
    have hd0 : 0 ≤ n % 16 := by omega
    have hd1 : n % 16 < 16 := by omega
    have hsl := run_small n hd0 hd1
    by_cases hn : n < 16
    · go_enter Tryd.func8, Tryd.ntmps8
      go_wp2_with fail
      go_ret
      exact ⟨ret_str (put_small n h0 hn), 0, rfl⟩
    · have HC := Lib.hid fun wx => IH.out (n / 16) wx (by omega) (by omega) (by omega)
      have hq : IntKind.u64.wrap (n.tdiv 16) = n / 16 := by
        rw [Int.tdiv_eq_ediv_of_nonneg h0]; exact IntWalk.u64_in _ (by omega)
      have hp : IntKind.i64.wrap (n % 16 + 1) = n % 16 + 1 := IntWalk.i64_in _ (by omega)
      have hadd := run_put n h0 hn h1
      go_enter Tryd.func8, Tryd.ntmps8
      go_wp2_with fail
      go_quiet ((go_at_call 8; exact Calls.quiet_of (HC.out _)))
      go_wp2_with fail
      go_ret
      exact ⟨rfl, _, rfl⟩



end Go.Proofs.YtgedaplljnpilaaDoor
