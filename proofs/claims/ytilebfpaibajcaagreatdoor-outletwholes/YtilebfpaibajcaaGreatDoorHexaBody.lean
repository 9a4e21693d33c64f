/- What hexa.Digit, hexa.More and the document's Digit and Put answer; under names of their own. -/
import Derived.Test.YtilebfpaibajcaaGreatDoorRows
import Derived.Test.YtilebfpaibajcaaGreatDoorHexaMath
import Derived.WalkKit
import Derived.WalkLawsBesides
import Derived.ProofKit
import Derived.OpenShut
import Derived.Handy
import Derived.Outline
import Derived.Lib.Hide
import Derived.Deep.QuietTactic
import Derived.BigQuiet
import Derived.Deep.RegionWith
import Derived.Deep.DeepMust
import Derived.Maps.AppendAt
namespace Go.Proofs.YtilebfpaibajcaaGreatDoor.H8
open Go.ChangeShapes Go.WideShapes Go.ChangeAt Go.RowKit
open Hx
set_option linter.unusedVariables false
set_option maxRecDepth 100000

theorem ret_int {k : IntKind} {a b : Int} (h : a = b) : Ending.returned (.int k a) = .returned (.int k b) := by rw [h]
theorem ret_str {a b : ByteArray} (h : a = b) : Ending.returned (.string a) = .returned (.string b) := by rw [h]
theorem ret_two {k j : IntKind} {a b c d : Int} (h : a = b) (g : c = d) : Ending.returned (.tuple #[.int k a, .int j c]) = .returned (.tuple #[.int k b, .int j d]) := by rw [h, g]

set_option maxHeartbeats 400000 in
theorem digit_any (c : Int) (h0 : 0 ≤ c) (h1 : c ≤ 255) (w : World) :
    Calls Tryz.prog 79 #[.int .u8 c] w fun e w' => e = .returned (.int .i64 (dg c)) ∧ w = w' := by
  go_enter Tryz.func79, Tryz.ntmps79
  go_wp2_with fail
  all_goals
    go_ret
    exact ⟨ret_int (by unfold dg; (repeat' split) <;> omega), rfl⟩

theorem more_form (n c : Int) (h : dg c < 0) : more n c = (0, 2) := by unfold more; rw [if_pos h]
theorem more_big (n c : Int) (h : 0 ≤ dg c) (g : 288230376151711743 < n) : more n c = (0, 3) := by unfold more; rw [if_neg (by omega), if_pos g]
theorem more_ok (n c : Int) (h : 0 ≤ dg c) (g : n ≤ 288230376151711743) : more n c = (n * 16 + dg c, 0) := by unfold more; rw [if_neg (by omega), if_neg (by omega)]

set_option maxHeartbeats 400000 in
theorem more_any (n c : Int) (h0 : 0 ≤ c) (h1 : c ≤ 255) (n0 : 0 ≤ n) (n1 : n ≤ 18446744073709551615) (w : World) :
    Calls Tryz.prog 81 #[.int .u64 n, .int .u8 c] w fun e w' => e = .returned (.tuple #[.int .u64 (more n c).1, .int .i64 (more n c).2]) ∧ w = w' := by
  have hlo := dg_lo c
  have hhi := dg_hi c
  go_enter Tryz.func81, Tryz.ntmps81
  go_wp2_with (go_at_call 79; refine (digit_any _ h0 h1 _).mono ?_; rintro e w' ⟨rfl, rfl⟩)
  all_goals
    go_ret2
  · exact ⟨ret_two (by rw [more_form n c (by omega)]) (by rw [more_form n c (by omega)]), rfl⟩
  · exact ⟨ret_two (by rw [more_big n c (by omega) (by omega)]) (by rw [more_big n c (by omega) (by omega)]), rfl⟩
  · exact ⟨ret_two (by rw [more_ok n c (by omega) (by omega)]) (by rw [more_ok n c (by omega) (by omega)]), rfl⟩

theorem byte_lo (c : UInt8) : (0 : Int) ≤ (c.toNat : Int) := by omega
theorem byte_hi (c : UInt8) : (c.toNat : Int) ≤ 255 := by have := c.toNat_lt; omega
/-- The digits' two lists. -/
abbrev small : ByteArray := ⟨#[48, 49, 50, 51, 52, 53, 54, 55, 56, 57, 97, 98, 99, 100, 101, 102]⟩
abbrev great : ByteArray := ⟨#[48, 49, 50, 51, 52, 53, 54, 55, 56, 57, 65, 66, 67, 68, 69, 70]⟩
theorem small_hexd : ∀ (k : Nat) (h : k < small.size), small[k] = hexd k := by decide

theorem small_dg : ∀ (k : Nat) (h : k < small.size), dg (small[k].toNat : Int) = k := by decide
theorem great_dg : ∀ (k : Nat) (h : k < great.size), dg (great[k].toNat : Int) = k := by decide
theorem both_dg : ∀ (k : Nat) (h : k < small.size) (g : k < great.size), dg (small[k].toNat : Int) = k ∧ ((small[k].toNat : Int) = 48 + k ∧ (great[k].toNat : Int) = 48 + k ∧ k < 10 ∨ (small[k].toNat : Int) = 87 + k ∧ (great[k].toNat : Int) = 55 + k ∧ 10 ≤ k) := by decide
theorem either {k : Nat} {c : Int} (h : k < small.size) (g : k < great.size) (e : ((small[k].toNat : Int) == c) = true ∨ ((great[k].toNat : Int) == c) = true) : dg c = k := by
  rcases e with e | e
  · rw [beq_iff_eq] at e; rw [← e]; exact small_dg k h
  · rw [beq_iff_eq] at e; rw [← e]; exact great_dg k g
theorem neither {k : Nat} {c : Int} (h : k < small.size) (g : k < great.size) (e : ((small[k].toNat : Int) == c) = false ∧ ((great[k].toNat : Int) == c) = false) : dg c ≠ k := by
  obtain ⟨e1, e2⟩ := e
  rw [beq_eq_false_iff_ne] at e1 e2
  obtain ⟨_, hb⟩ := both_dg k h g
  have hk : k < 16 := h
  unfold dg
  (repeat' split) <;> omega

set_option maxHeartbeats 400000 in
theorem rdigit_any (c : Int) (h0 : 0 ≤ c) (h1 : c ≤ 255) (w : World) :
    Calls Tryz.prog 57 #[.int .u8 c] w fun e w' => e = .returned (.int .i64 (dg c)) ∧ w = w' := by
  go_enter Tryz.func57, Tryz.ntmps57
  go_wp2
  go_loop [5] (fun i => ∃ k : Nat, k ≤ 16 ∧ i = .int .i64 k ∧ (dg c < 0 ∨ k ≤ dg c)) (fun i => 16 - (intOf i).toNat)
  case atStart => exact ⟨0, Nat.zero_le _, rfl, by omega⟩
  case round =>
    obtain ⟨k, hk, rfl, hd⟩ := hrel
    by_cases hlt : k < 16
    · go_wp2
      · go_ret
        exact ⟨ret_int (by rw [‹(_ : Int) = c›.symm]; exact (small_dg k hlt).symm), rfl⟩
      · go_ret
        exact ⟨ret_int (either hlt hlt ‹_›).symm, rfl⟩
      · have hn := neither hlt hlt ‹_›
        go_round
        case rel => exact ⟨k + 1, by omega, by go_num, by omega⟩
        case measure => simp [intOf]; omega
    · go_wp2
      go_ret
      exact ⟨ret_int (by have := dg_hi c; have := dg_lo c; omega), rfl⟩

theorem small_cut : ∀ d : Nat, d < 16 → small.extract d (d + 1) = ⟨#[hexd d]⟩ := by decide
theorem run_small (n : Int) (h0 : 0 ≤ n % 16) (h1 : n % 16 < 16) (wx : World) :
    (Instr.slice 9 (.string ⟨#[48, 49, 50, 51, 52, 53, 54, 55, 56, 57, 97, 98, 99, 100, 101, 102]⟩) (some (.int .i64 (n % 16))) (some (.int .i64 (n % 16 + 1))) none).run Tryz.prog wx = .ok (.string ⟨#[hexd (n % 16).toNat]⟩) wx := by
  rw [run_slice_string (P := Tryz.prog) (t := 9) (s := small) (k := .i64) (k' := .i64) (i := n % 16) (j := n % 16 + 1) (h := Tryz.underlying9) (h0 := h0) (h1 := by omega) (h2 := by show _ ≤ ((16 : Nat) : Int); omega)]
  rw [show (n % 16 + 1).toNat = (n % 16).toNat + 1 from by omega, small_cut _ (by omega)]
theorem put_small (n : Int) (h0 : 0 ≤ n) (h : n < 16) : (⟨#[hexd (n % 16).toNat]⟩ : ByteArray) = ⟨(put n.toNat).toArray⟩ := by
  rw [put, dif_pos (by omega), show (n % 16).toNat = n.toNat from by omega]
theorem put_great (n : Int) (h0 : 0 ≤ n) (h : ¬ n < 16) : put n.toNat = put (n / 16).toNat ++ [hexd (n % 16).toNat] := by
  rw [put, dif_neg (by omega), show (n / 16).toNat = n.toNat / 16 from by omega, show (n % 16).toNat = n.toNat % 16 from by omega]

theorem run_put (n : Int) (h0 : 0 ≤ n) (h : ¬ n < 16) (h1 : n ≤ 18446744073709551615) (wx : World) :
    (Op.stringOp .add ⟨(put (n / 16).toNat).toArray⟩ ⟨#[hexd (n % 16).toNat]⟩).run Tryz.prog wx = .ok (.string ⟨(put n.toNat).toArray⟩) wx := by
  have hl := put_len16 (n / 16).toNat (by omega)
  refine (run_string_add_sum (P := Tryz.prog) (w := wx) _ _ (by show (put (n / 16).toNat).toArray.size + 1 ≤ _; rw [List.size_toArray]; omega)).trans ?_
  rw [put_great n h0 h]
  congr 2

set_option maxHeartbeats 400000 in
theorem rput_any (k : Nat) : ∀ (n : Int) (w : World), n < k → 0 ≤ n → n ≤ 18446744073709551615 →
    Calls Tryz.prog 56 #[.int .u64 n] w fun e w' => e = .returned (.string ⟨(put n.toNat).toArray⟩) ∧ ∃ m, w' = w.drewN m := by
  induction k with
  | zero => intro n w hk h0 _; omega
  | succ k ih =>
    intro n w hk h0 h1
    have IH := Lib.hid ih
    clear ih
    have hd0 : 0 ≤ n % 16 := by omega
    have hd1 : n % 16 < 16 := by omega
    have hsl := run_small n hd0 hd1
    by_cases hn : n < 16
    · go_enter Tryz.func56, Tryz.ntmps56
      go_wp2_with fail
      go_ret
      exact ⟨ret_str (put_small n h0 hn), 0, rfl⟩
    · have HC := Lib.hid fun wx => IH.out (n / 16) wx (by omega) (by omega) (by omega)
      have hq : IntKind.u64.wrap (n.tdiv 16) = n / 16 := by
        rw [Int.tdiv_eq_ediv_of_nonneg h0]; exact IntWalk.u64_in _ (by omega)
      have hp : IntKind.i64.wrap (n % 16 + 1) = n % 16 + 1 := IntWalk.i64_in _ (by omega)
      have hadd := run_put n h0 hn h1
      go_enter Tryz.func56, Tryz.ntmps56
      go_wp2_with fail
      go_quiet ((go_at_call 56; exact Calls.quiet_of (HC.out _)))
      go_wp2_with fail
      go_ret
      exact ⟨rfl, _, rfl⟩



end Go.Proofs.YtilebfpaibajcaaGreatDoor.H8
