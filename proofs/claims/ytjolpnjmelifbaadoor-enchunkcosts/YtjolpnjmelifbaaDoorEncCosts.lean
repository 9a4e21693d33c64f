/- The law EnchunkCosts. -/
import Derived.Test.YtjolpnjmelifbaaDoorEncWake
namespace Go.Proofs.YtjolpnjmelifbaaDoor
open Go.ChangeShapes Go.WideShapes Go.ChangeAt Go.RowKit
open Oc Fl Bk Bd
set_option linter.unusedVariables false
set_option maxRecDepth 100000

/-- How many digits a number has; 0 has none here. -/
def dgs (n : Nat) : Nat := if n = 0 then 0 else (Hx.put n).length
theorem dgs_zero : dgs 0 = 0 := rfl
theorem dgs_step {n : Nat} (h : 0 < n) : dgs n = dgs (n / 16) + 1 := by
  unfold dgs
  rw [if_neg (by omega), Hx.put]
  by_cases h16 : n < 16
  · rw [dif_pos h16, if_pos (by omega)]; rfl
  · rw [dif_neg h16, if_neg (by omega), List.length_append]; rfl
theorem dgs_le {n : Nat} (h : n ≤ 9223372036854775807) : dgs n ≤ 16 := by
  unfold dgs
  have := Hx.put_len16 n (by omega)
  split <;> omega
theorem cst_dgs {n : Nat} (h : 0 < n) : cst n = dgs n + 4 := by rw [cst_pos (by omega)]; unfold dgs; rw [if_neg (by omega)]

set_option maxHeartbeats 2000000 in
theorem costs10_walk (n : Int) (w : World) (h0 : -9223372036854775808 ≤ n) (h1 : n ≤ 9223372036854775807) (hz : Tz w) :
    Calls Tryd.prog 5 #[.int .i64 n] w fun e w' => e = .returned (.bool true) ∧ Below w.heap.size w w' := by
  have HW := Lib.hid (wakes10 w hz)
  have HZ := Lib.hid hz
  clear hz
  by_cases hn : 1 ≤ n
  · obtain ⟨m, rfl⟩ : ∃ m : Nat, n = m := ⟨n.toNat, by omega⟩
    have hn' : ((m : Int) ≥ 1) := hn
    have hdl := dgs_le (n := m / 16) (by omega)
    go_enter Tryd.func5, Tryd.ntmps5
    go_wp2_with fail
    refine HW.out.mono ?_
    rintro e w1 ⟨rfl, hb1⟩
    have B1 := Lib.hid hb1
    clear hb1 HW
    have HQ := Lib.hid (cst_dgs (n := m) (by omega))
    have HS := Lib.hid (dgs_step (n := m) (by omega))
    obtain ⟨q, hqq⟩ : ∃ q, m / 16 = q := ⟨_, rfl⟩
    have HQ2 := Lib.hid hqq
    rw [hqq] at hdl HS
    have hqb : q ≤ 9223372036854775807 := by omega
    clear hqq
    go_wp2_with fail
    go_loopw [3, 4] (fun t k wr => ∃ (u j : Nat), u ≤ 9223372036854775807 ∧ j ≤ 16 ∧ t = .int .i64 ((5 + j : Nat) : Int) ∧ k = .int .i64 (u : Int) ∧ Hid (dgs u + j = dgs q) ∧ Hid (Below w.heap.size w wr)) (fun _ k _ => (intOf k).toNat)
    case atStart => exact ⟨q, 0, hqb, by omega, rfl, by congr 1; have := HQ2.out; omega, Lib.hid rfl, B1⟩
    case round =>
      clear B1
      obtain ⟨u, j, hu, hj, rfl, rfl, HJ, B1⟩ := hrel
      by_cases hu0 : 0 < u
      · have hs := dgs_step hu0
        have hJ := HJ.out
        have HN := Lib.hid (show dgs (u / 16) + (j + 1) = dgs q by omega)
        have hj1 : j + 1 ≤ 16 := by omega
        clear hs hJ
        go_wp2_with fail
        go_roundw
        case rel => exact ⟨u / 16, j + 1, by omega, hj1, by go_num, by go_num, HN, B1⟩
        case measure => simp [intOf]; omega
      · obtain rfl : u = 0 := by omega
        have hJ := HJ.out
        rw [dgs_zero] at hJ
        have HK := Lib.hid (cost_any m (by omega) wr (HZ.out.below B1.out))
        have hcm : (cst m : Int) = ((5 + j : Nat) : Int) := by have := HQ.out; have := HS.out; omega
        rw [hcm] at HK
        clear hJ hcm
        generalize 5 + j = s at *
        go_wp2_with fail
        refine HK.out.mono ?_
        rintro e w2 ⟨rfl, hb2⟩
        have B2 := Lib.hid (ahead B1.out hb2)
        clear hb2
        go_wp2_with fail
        go_ret
        exact ⟨rfl, B2.out⟩
  · have hn' : ¬ (n ≥ 1) := hn
    go_enter Tryd.func5, Tryd.ntmps5
    go_wp2_with fail
    refine HW.out.mono ?_
    rintro e w1 ⟨rfl, hb1⟩
    have B1 := Lib.hid hb1
    clear hb1 HW
    have HK := Lib.hid (cost_neg n (by omega) w1)
    go_wp2_with fail
    refine HK.out.mono ?_
    rintro e w2 ⟨rfl, hb2⟩
    have B2 := Lib.hid (ahead B1.out hb2)
    clear hb2
    go_wp2_with fail
    go_ret
    exact ⟨rfl, B2.out⟩

theorem costs10_data {H : Type} {enc : TypeId × Value → H} {W : World} {base : Nat} {v0 : Value} {d0 : DataW H} {p0 : List MemPlace} (u0 : Value.okWide Tryd.prog W .any base 3 v0) (h0 : DataW.Trod enc Tryd.prog W 0 (fun _ => true) true 3 v0 d0 p0) (hz : Tz W) :
    Calls Tryd.prog 5 #[v0] W fun e w' => e = .returned (.bool true) ∧ Below W.heap.size W w' := by
  obtain ⟨a, rfl, _, _, w0⟩ := open_int Tryd.underlying3 u0 h0
  have b := bounds_i64 w0
  exact costs10_walk a W b.1 b.2 hz

end Go.Proofs.YtjolpnjmelifbaaDoor
