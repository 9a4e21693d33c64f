/- The laws' example. -/
import Derived.Test.YtjkccacpffikbaaDoorIntNew
import Derived.Lib.SlBytesConst
namespace Go.Proofs.YtjkccacpffikbaaDoor
open Go.ChangeShapes Go.WideShapes Go.ChangeAt Go.RowKit
open Go.Shelf
open Oc Fl Bk Bd Dk Ik
set_option linter.unusedVariables false
set_option maxRecDepth 100000

set_option maxHeartbeats 2000000 in
theorem wakes12 (w : World) (hsp : Spans w) : Calls Tryd.prog 6 #[] w fun e w' => e = .returned (.bool true) ∧ Below w.heap.size w w' := by
  have hcv := fun (w : World) (C : Array Value) (n c : Nat) => Lib.run_convert_bytes_const (P := Tryd.prog) w 25 5 C n c Tryd.underlying25 Tryd.underlying5
  have HN := Lib.hid (newI 1 3 ⟨0, 0, 0⟩ w (by decide) (fun h => absurd rfl h) (by decide) (by decide) hsp)
  unfold lim3 fr12 at HN
  rw [show newK 1 3 ⟨0, 0, 0⟩ = .fix 3 0 from rfl] at HN
  have HCV := Lib.hid hcv
  clear hsp hcv
  go_enter Tryd.func6, Tryd.ntmps6
  go_wp2_with fail
  refine HN.out.mono ?_
  rintro e w1 ⟨R, M, rfl, hd1, hm1, hb1⟩
  have hcv1 := HCV.out w1 #[.int .u8 97, .int .u8 98, .int .u8 99, .int .u8 100] 4 4
  obtain ⟨w2, hw2⟩ : ∃ w2, w1.alloc (.cells #[.int .u8 97, .int .u8 98, .int .u8 99, .int .u8 100] 5 (4, 5)) = w2 := ⟨_, rfl⟩
  have b2 : Below w1.heap.size w1 w2 := by rw [← hw2]; exact below_box _ _
  have r2 : RD w2 (.slice (some ⟨w1.heap.size, 0, none⟩) 4 4) [97, 98, 99, 100] := by rw [← hw2]; exact rd_lit w1 [97, 98, 99, 100] (4, 5) (by decide)
  have HP := Lib.hid (putI (b := [97, 98, 99, 100]) (some ⟨w1.heap.size, 0, none⟩) 4 (hd1.below b2) r2 (fun _ g hg hm => by have h1 := hd1.lt hm; simp [Value.ownBlock] at hg; omega) (by decide) (by decide))
  have W2 := Lib.hid hw2
  have B2 := Lib.hid (ahead hb1 b2)
  have HM1 := Lib.hid hm1
  have hz1 := hb1.size
  have hz2 := b2.size
  clear hw2 r2 b2 hm1 hb1 hd1 HN
  go_wp2_with fail
  rw [W2.out]
  refine HP.out.mono ?_
  rintro e w3 ⟨M3, p3, c3, he, hi3, m3, hrd3, hown3⟩
  rw [show dataP (.fix 3 0) 0 [97, 98, 99, 100] = [97, 98, 99] from rfl, show numP (.fix 3 0) 0 [97, 98, 99, 100] = 3 from rfl, show errP (.fix 3 0) 0 [97, 98, 99, 100] = 0 from rfl] at he
  rw [show dataP (.fix 3 0) 0 [97, 98, 99, 100] = [97, 98, 99] from rfl] at hrd3
  rw [show nextP (.fix 3 0) 0 [97, 98, 99, 100] = .fix 0 3 from rfl] at hi3
  subst he
  obtain ⟨B3, HM3⟩ := Moves.low B2.out m3 (by omega) HM1.out
  have HB3 := Lib.hid B3
  have hcc : (convert 25 9 (.slice p3 3 c3)).run Tryd.prog w3 = .ok (.string ⟨#[97, 98, 99]⟩) w3 := conv_rd hrd3
  have HD := Lib.hid (doneI hi3)
  rw [show doneK (.fix 0 3) = true from rfl] at HD
  clear hi3 m3 hrd3 hown3 B3 HM3 HP hcv1
  go_wp2_with fail
  refine HD.out.mono ?_
  rintro e w6 ⟨rfl, rfl⟩
  go_wp2_with fail
  go_ret
  exact ⟨rfl, HB3.out⟩

end Go.Proofs.YtjkccacpffikbaaDoor
