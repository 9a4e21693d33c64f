/- What hexa.Digit, hexa.More and the document's Digit answer. -/
import Derived.Test.YtgedaplljnpilaaRows
import Derived.Test.YtgedaplljnpilaaMath
import Derived.WalkKit
import Derived.WalkLawsBesides
import Derived.ProofKit
import Derived.OpenShut
import Derived.Handy
import Derived.Outline
import Derived.Lib.Hide
import Derived.Deep.QuietTactic
import Derived.BigQuiet
import Derived.Deep.RegionWith
namespace Go.Proofs.Ytgedaplljnpilaa
open Go.ChangeShapes Go.WideShapes Go.ChangeAt Go.RowKit
open Hx
set_option linter.unusedVariables false

theorem ret_int {k : IntKind} {a b : Int} (h : a = b) : Ending.returned (.int k a) = .returned (.int k b) := by rw [h]
theorem ret_two {k j : IntKind} {a b c d : Int} (h : a = b) (g : c = d) : Ending.returned (.tuple #[.int k a, .int j c]) = .returned (.tuple #[.int k b, .int j d]) := by rw [h, g]

set_option maxHeartbeats 400000 in
theorem digit_any (c : Int) (h0 : 0 ≤ c) (h1 : c ≤ 255) (w : World) :
    Calls Try.prog 13 #[.int .u8 c] w fun e w' => e = .returned (.int .i64 (dg c)) ∧ w = w' := by
  go_enter Try.func13, Try.ntmps13
  go_wp2_with fail
  all_goals
    go_ret
    exact ⟨ret_int (by unfold dg; (repeat' split) <;> omega), rfl⟩

theorem more_form (n c : Int) (h : dg c < 0) : more n c = (0, 2) := by unfold more; rw [if_pos h]
theorem more_big (n c : Int) (h : 0 ≤ dg c) (g : 288230376151711743 < n) : more n c = (0, 3) := by unfold more; rw [if_neg (by omega), if_pos g]
theorem more_ok (n c : Int) (h : 0 ≤ dg c) (g : n ≤ 288230376151711743) : more n c = (n * 16 + dg c, 0) := by unfold more; rw [if_neg (by omega), if_neg (by omega)]

set_option maxHeartbeats 400000 in
theorem more_any (n c : Int) (h0 : 0 ≤ c) (h1 : c ≤ 255) (n0 : 0 ≤ n) (n1 : n ≤ 18446744073709551615) (w : World) :
    Calls Try.prog 11 #[.int .u64 n, .int .u8 c] w fun e w' => e = .returned (.tuple #[.int .u64 (more n c).1, .int .i64 (more n c).2]) ∧ w = w' := by
  have hlo := dg_lo c
  have hhi := dg_hi c
  go_enter Try.func11, Try.ntmps11
  go_wp2_with (go_at_call 13; refine (digit_any _ h0 h1 _).mono ?_; rintro e w' ⟨rfl, rfl⟩)
  all_goals
    go_ret2
  · exact ⟨ret_two (by rw [more_form n c (by omega)]) (by rw [more_form n c (by omega)]), rfl⟩
  · exact ⟨ret_two (by rw [more_big n c (by omega) (by omega)]) (by rw [more_big n c (by omega) (by omega)]), rfl⟩
  · exact ⟨ret_two (by rw [more_ok n c (by omega) (by omega)]) (by rw [more_ok n c (by omega) (by omega)]), rfl⟩

/-- The digits' two lists. -/
abbrev small : ByteArray := ⟨#[48, 49, 50, 51, 52, 53, 54, 55, 56, 57, 97, 98, 99, 100, 101, 102]⟩
abbrev great : ByteArray := ⟨#[48, 49, 50, 51, 52, 53, 54, 55, 56, 57, 65, 66, 67, 68, 69, 70]⟩
theorem small_hexd : ∀ (k : Nat) (h : k < small.size), small[k] = hexd k := by decide
theorem small_dg : ∀ (k : Nat) (h : k < small.size), dg (small[k].toNat : Int) = k := by decide
theorem great_dg : ∀ (k : Nat) (h : k < great.size), dg (great[k].toNat : Int) = k := by decide
theorem both_dg : ∀ (k : Nat) (h : k < small.size) (g : k < great.size), dg (small[k].toNat : Int) = k ∧ ((small[k].toNat : Int) = 48 + k ∧ (great[k].toNat : Int) = 48 + k ∧ k < 10 ∨ (small[k].toNat : Int) = 87 + k ∧ (great[k].toNat : Int) = 55 + k ∧ 10 ≤ k) := by decide
theorem either {k : Nat} {c : Int} (h : k < small.size) (g : k < great.size) (e : ((small[k].toNat : Int) == c) = true ∨ ((great[k].toNat : Int) == c) = true) : dg c = k := by
  rcases e with e | e
  · rw [beq_iff_eq] at e; rw [← e]; exact small_dg k h
  · rw [beq_iff_eq] at e; rw [← e]; exact great_dg k g
theorem neither {k : Nat} {c : Int} (h : k < small.size) (g : k < great.size) (e : ((small[k].toNat : Int) == c) = false ∧ ((great[k].toNat : Int) == c) = false) : dg c ≠ k := by
  obtain ⟨e1, e2⟩ := e
  rw [beq_eq_false_iff_ne] at e1 e2
  obtain ⟨_, hb⟩ := both_dg k h g
  have hk : k < 16 := h
  unfold dg
  (repeat' split) <;> omega

set_option maxHeartbeats 400000 in
theorem rdigit_any (c : Int) (h0 : 0 ≤ c) (h1 : c ≤ 255) (w : World) :
    Calls Try.prog 12 #[.int .u8 c] w fun e w' => e = .returned (.int .i64 (dg c)) ∧ w = w' := by
  go_enter Try.func12, Try.ntmps12
  go_wp2
  go_loop [5] (fun i => ∃ k : Nat, k ≤ 16 ∧ i = .int .i64 k ∧ (dg c < 0 ∨ k ≤ dg c)) (fun i => 16 - (intOf i).toNat)
  case atStart => exact ⟨0, Nat.zero_le _, rfl, by omega⟩
  case round =>
    obtain ⟨k, hk, rfl, hd⟩ := hrel
    by_cases hlt : k < 16
    · go_wp2
      · go_ret
        exact ⟨ret_int (by rw [‹(_ : Int) = c›.symm]; exact (small_dg k hlt).symm), rfl⟩
      · go_ret
        exact ⟨ret_int (either hlt hlt ‹_›).symm, rfl⟩
      · have hn := neither hlt hlt ‹_›
        go_round
        case rel => exact ⟨k + 1, by omega, by go_num, by omega⟩
        case measure => simp [intOf]; omega
    · go_wp2
      go_ret
      exact ⟨ret_int (by have := dg_hi c; have := dg_lo c; omega), rfl⟩

end Go.Proofs.Ytgedaplljnpilaa
