/- Whether pieces are too great for the statements: what the document's Great answers. -/
import Derived.Test.YtnmjdpmfmbgoeaaRRRWireMem
namespace Go.Proofs.YtnmjdpmfmbgoeaaRRR
open Go.ChangeShapes Go.WideShapes Go.ChangeAt Go.RowKit
open Wr
set_option linter.unusedVariables false
set_option maxRecDepth 100000

theorem ret_bool16 {a b : Bool} (h : a = b) : Ending.returned (.bool a) = Ending.returned (.bool b) := by rw [h]
set_option maxHeartbeats 4000000 in
theorem great16_any (L : List (List UInt8)) (p : Option Addr) (c : Nat) (w : World) (hL : CS w (.slice p L.length c) L) (hl : L.length ≤ 140737488355328) (hx : ∀ x ∈ L, x.length ≤ 140737488355328) :
    Calls Try.prog 6 #[.slice p L.length c] w fun e w' => e = .returned (.bool (decide (600 < wgt L))) ∧ w = w' := by
  have HL := Lib.hid hL
  have HX := Lib.hid hx
  clear hL hx
  go_enter Try.func6, Try.ntmps6
  go_wp2_with fail
  go_loop [3, 4] (fun s i => ∃ (k : Nat), k ≤ L.length ∧ i = .int .i64 k ∧ s = .int .i64 (wgt (L.take k) : Nat) ∧ wgt (L.take k) ≤ 140737488356000) (fun _ i => L.length - (intOf i).toNat)
  case atStart => exact ⟨0, Nat.zero_le _, rfl, rfl, by simp [wgt]⟩
  case round =>
    obtain ⟨k, hk, rfl, rfl, hbk⟩ := hrel
    have hbl := wgt_le_take L k
    by_cases hlt : k < L.length
    · by_cases h2 : (600 : Int) < (wgt (L.take k) : Int)
      · have HR := Lib.hid (show decide (600 < wgt L) = true from decide_eq_true (by omega))
        have h2' : ¬ (wgt (L.take k) : Int) ≤ 600 := by omega
        clear hbl
        generalize wgt (L.take k) = M at *
        go_wp2_with fail
        go_ret
        exact ⟨ret_bool16 (by rw [HR.out]), rfl⟩
      · obtain ⟨x, hx⟩ : ∃ x, L[k]? = some x := ⟨_, List.getElem?_eq_getElem hlt⟩
        obtain ⟨-, ad, pu, cu, rfl, c0, -⟩ := HL.out.at hx
        have hxz := HX.out x (List.mem_of_getElem? hx)
        have HB := Lib.hid (wgt_take hx)
        clear hx hbl
        have h2' : (wgt (L.take k) : Int) ≤ 600 := by omega
        generalize hM' : wgt (L.take (k + 1)) = M' at HB
        have HM' := Lib.hid hM'
        clear hM'
        generalize wgt (L.take k) = M at *
        obtain ⟨xl, hxl⟩ : ∃ xl, x.length = xl := ⟨_, rfl⟩
        rw [hxl] at HB c0 hxz
        clear hxl
        have k1 : (0 : Int) ≤ (k : Int) := by omega
        have k2 : (k : Int) < (L.length : Int) := by omega
        have hbN : M' ≤ 140737488356000 := by have := HB.out; omega
        have e1 : IntKind.i64.wrap ((M : Int) + (xl : Int)) = (M : Int) + (xl : Int) := IntWalk.i64_in _ (by omega)
        have e2 : IntKind.i64.wrap ((M : Int) + (xl : Int) + 1) = (M : Int) + (xl : Int) + 1 := IntWalk.i64_in _ (by omega)
        go_wp2_with fail
        go_roundw
        case rel => exact ⟨k + 1, by omega, by go_num, by congr 1; have := HB.out; have := HM'.out; omega, by have := HM'.out; omega⟩
        case measure => simp [intOf]; omega
    · obtain rfl : k = L.length := by omega
      rw [List.take_length] at *
      generalize hM : wgt L = M at *
      have HM := Lib.hid hM
      clear hM
      go_wp2_with fail
      go_ret
      exact ⟨ret_bool16 (by have := HM.out; simp; omega), rfl⟩

end Go.Proofs.YtnmjdpmfmbgoeaaRRR
