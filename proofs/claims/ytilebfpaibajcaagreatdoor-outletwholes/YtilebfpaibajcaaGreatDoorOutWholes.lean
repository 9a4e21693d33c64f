/- The law OutletWholes, from what its example and outlet.Whole answer. -/
import Derived.Test.YtilebfpaibajcaaGreatDoorOutRef
import Derived.Test.YtilebfpaibajcaaGreatDoorFiltTable
import Derived.Deep.RegionHeld3
namespace Go.Proofs.YtilebfpaibajcaaGreatDoor
open Go.ChangeShapes Go.WideShapes Go.ChangeAt Go.RowKit
open Oc Fl Bk Bd Ot
set_option linter.unusedVariables false
set_option maxRecDepth 100000

theorem box14 {w W : World} {k s : Int} (hb : Below (w.alloc (.cells #[.int .i64 k, .int .u64 s] 24)).heap.size (w.alloc (.cells #[.int .i64 k, .int .u64 s] 24)) W) : W.cell? ⟨w.heap.size, 0, none⟩ = some (.int .i64 k) ∧ W.cell? ⟨w.heap.size, 1, none⟩ = some (.int .u64 s) := by
  have := (hb.block w.heap.size (by simp)).trans (World.alloc_heap_new w _)
  simp [World.cell?, this]

set_option maxHeartbeats 4000000 in
theorem wholes14_walk (k s : Int) (T : List UInt8) (p : Option Addr) (c : Nat) (w : World) (hT : RD w (.slice p T.length c) T)
    (hW : ∀ W, Below w.heap.size w W → Calls Tryz.prog 6 #[] W fun e w' => e = .returned (.bool true) ∧ Below W.heap.size W w')
    (hO : ∀ W, Below w.heap.size w W → T.length ≤ 500 → Calls Tryz.prog 22 #[fr14 k s, .slice p T.length c] W fun e w' => e = .returned (.bool (wholeF k s T)) ∧ Below W.heap.size W w') :
    Calls Tryz.prog 5 #[fr14 k s, .slice p T.length c] w fun e w' => e = .returned (.bool true) ∧ Below w.heap.size w w' := by
  obtain ⟨w0, hw0⟩ : ∃ w0, w.alloc (.cells #[.int .i64 k, .int .u64 s] 24) = w0 := ⟨_, rfl⟩
  have b0 : Below w.heap.size w w0 := by rw [← hw0]; exact below_box _ _
  have C0 : Hid (∀ W, Below w0.heap.size w0 W → W.cell? ⟨w.heap.size, 0, none⟩ = some (.int .i64 k) ∧ W.cell? ⟨w.heap.size, 1, none⟩ = some (.int .u64 s)) := Lib.hid fun W hb => box14 (by rw [hw0]; exact hb)
  have W0 := Lib.hid hw0
  have B0 := Lib.hid b0
  have HW := Lib.hid (hW w0 b0)
  have HO := Lib.hid hO
  have HT := Lib.hid hT
  clear hw0 b0 hW hO hT
  unfold fr14
  by_cases hl : (500 : Int) < (T.length : Int)
  · go_enter Tryz.func5, Tryz.ntmps5
    go_wp2_with fail
    rw [W0.out]
    refine HW.out.mono ?_
    rintro e w1 ⟨rfl, hb1⟩
    have B1 := Lib.hid (ahead B0.out hb1)
    have D1 : Below w1.heap.size w1 w1.drew := (Below.refl _ _).drew
    replace D1 := Lib.hid D1
    clear hb1
    go_wp2_with fail
    go_quiet (fail)
    go_wp2_with fail
    go_ret
    exact ⟨rfl, by first | exact B1.out | exact B1.out.drew | exact ⟨B1.out.os, B1.out.tape, B1.out.output, B1.out.size, B1.out.block⟩⟩
  · have hl2 : T.length ≤ 500 := by omega
    have H1 : Hid (∀ W, Below w.heap.size w W → _) := Lib.hid fun W hb => HO.out W hb hl2
    have H2 : Hid (∀ W, Below w.heap.size w W → _) := Lib.hid fun W hb => rwhole14_any k s T p c W (HT.out.below hb) (by omega)
    unfold fr14 at H1 H2
    have hbb : (wholeF k s T == wholeF k s T) = true := by simp
    generalize wholeF k s T = b at *
    have hdec : decide ((500 : Int) < (T.length : Int)) = false := decide_eq_false hl
    go_enter Tryz.func5, Tryz.ntmps5
    go_wp2_with fail
    rw [W0.out]
    refine HW.out.mono ?_
    rintro e w1 ⟨rfl, hb1⟩
    have KF : Hid (∀ W, Below w1.heap.size w1 W → W.cell? ⟨w.heap.size, 0, none⟩ = some (.int .i64 k) ∧ W.cell? ⟨w.heap.size, 1, none⟩ = some (.int .u64 s)) := Lib.hid fun W h => C0.out W (ahead hb1 h)
    have B1 := Lib.hid (ahead B0.out hb1)
    have BA : Hid (Below w1.heap.size w1 w1.drew) := Lib.hid ((Below.refl _ _).drew)
    clear hb1
    go_wp2_with fail
    go_region_held3 (fun W => W.cell? ⟨w.heap.size, 0, none⟩ = some (.int .i64 k) ∧ W.cell? ⟨w.heap.size, 1, none⟩ = some (.int .u64 s))
      ((refine KF.out _ ?_; with_reducible exact BA.out))
      (first
      | (go_at_call 22; refine (H1.out _ (ahead B1.out BA.out)).mono ?_; rintro e w' ⟨rfl, hb'⟩; replace BA := Lib.hid (ahead BA.out hb'); clear hb')
      | (go_at_call 21; refine (H2.out _ (ahead B1.out BA.out)).mono ?_; rintro e w' ⟨rfl, hb'⟩; replace BA := Lib.hid (ahead BA.out hb'); clear hb'))
    all_goals
      rename_i hHeld
      clear hHeld
      go_wp2_with fail
      go_ret
      exact ⟨rfl, ahead B1.out BA.out⟩

end Go.Proofs.YtilebfpaibajcaaGreatDoor
