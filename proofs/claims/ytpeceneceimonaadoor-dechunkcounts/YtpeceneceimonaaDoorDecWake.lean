/- The laws' example. -/
import Derived.Test.YtpeceneceimonaaDoorDecAt
import Derived.Lib.SlBytesConst
namespace Go.Proofs.YtpeceneceimonaaDoor
open Go.ChangeShapes Go.WideShapes Go.ChangeAt Go.RowKit
open Go.Shelf
open Oc Fl Bk Bd Dk
set_option linter.unusedVariables false
set_option maxRecDepth 100000

theorem wk1 : cont ⟨0, 0, 0⟩ (sz [] 0 0, 0, 4) [51] = (sz [] 3 1, 1, 4) := by rfl
theorem wk2 : cont ⟨0, 0, 0⟩ (sz [] 3 1, 1, 4) [13, 10, 97, 98] = (⟨3, 1, 1, 0, 0, [], [97, 98], []⟩, 5, 4) := by rfl

set_option maxHeartbeats 2000000 in
theorem wakes9 (w : World) (hsp : Spans w) : Calls Tryd.prog 7 #[] w fun e w' => e = .returned (.bool true) ∧ Below w.heap.size w w' := by
  have hcv := fun (w : World) (C : Array Value) (n c : Nat) => Lib.run_convert_bytes_const (P := Tryd.prog) w 26 5 C n c Tryd.underlying26 Tryd.underlying5
  have HN := Lib.hid (newX ⟨0, 0, 0⟩ w (by decide) hsp)
  unfold lim3 at HN
  have HCV := Lib.hid hcv
  clear hsp hcv
  go_enter Tryd.func7, Tryd.ntmps7
  go_wp2_with fail
  refine HN.out.mono ?_
  rintro e w1 ⟨R, M, rfl, hd1, hm1, hb1⟩
  have hcv1 := HCV.out w1 #[.int .u8 51] 1 1
  obtain ⟨w2, hw2⟩ : ∃ w2, w1.alloc (.cells #[.int .u8 51] 5 (1, 2)) = w2 := ⟨_, rfl⟩
  have b2 : Below w1.heap.size w1 w2 := by rw [← hw2]; exact below_box _ _
  have r2 : RD w2 (.slice (some ⟨w1.heap.size, 0, none⟩) 1 1) [51] := by rw [← hw2]; exact rd_lit w1 [51] (1, 2) (by decide)
  have HP := Lib.hid (putX w2 (hd1.below b2) r2 (fun g hg hm => by have h1 := (hd1.lt hm).2; simp [Value.ownBlock] at hg; omega) (by decide) (by decide) (by decide))
  have W2 := Lib.hid hw2
  have B2 := Lib.hid (ahead hb1 b2)
  have HM1 := Lib.hid hm1
  have hz1 := hb1.size
  have hz2 := b2.size
  clear hw2 r2 b2 hm1 hb1 hd1 HN
  go_wp2_with fail
  rw [W2.out]
  refine HP.out.mono ?_
  rintro e w3 ⟨M3, p3, c3, D3, n3, he, hd3, m3, hat3, hn3, hdat3, hrd3, hown3⟩
  rw [wk1] at he hd3 hdat3
  subst he
  obtain ⟨B3, HM3⟩ := Moves.low B2.out m3 (by omega) HM1.out
  have hcv3 := HCV.out w3 #[.int .u8 13, .int .u8 10, .int .u8 97, .int .u8 98] 4 4
  obtain ⟨w4, hw4⟩ : ∃ w4, w3.alloc (.cells #[.int .u8 13, .int .u8 10, .int .u8 97, .int .u8 98] 5 (4, 5)) = w4 := ⟨_, rfl⟩
  have b4 : Below w3.heap.size w3 w4 := by rw [← hw4]; exact below_box _ _
  have r4 : RD w4 (.slice (some ⟨w3.heap.size, 0, none⟩) 4 4) [13, 10, 97, 98] := by rw [← hw4]; exact rd_lit w3 [13, 10, 97, 98] (4, 5) (by decide)
  have HP4 := Lib.hid (putX w4 (hd3.below b4) r4 (fun g hg hm => by have h1 := (hd3.lt hm).2; simp [Value.ownBlock] at hg; omega) (by decide) (by decide) (by decide))
  have W4 := Lib.hid hw4
  have B4 := Lib.hid (ahead B3 b4)
  have HM4 := Lib.hid HM3
  have hz3 := m3.size
  have hz4 := b4.size
  clear hw4 r4 b4 HM3 B3 hd3 m3 hat3 hn3 hdat3 hrd3 hown3 HP
  go_wp2_with fail
  rw [W4.out]
  refine HP4.out.mono ?_
  rintro e w5 ⟨M5, p5, c5, D5, n5, he, hd5, m5, hat5, hn5, hdat5, hrd5, hown5⟩
  rw [wk2] at he hd5 hdat5 hat5
  simp only [sz, List.nil_append] at hdat5 hat5
  subst hdat5
  obtain rfl : n5 = 4 := by omega
  subst he
  obtain ⟨B5, HM5⟩ := Moves.low B4.out m5 (by omega) HM4.out
  have HB5 := Lib.hid B5
  have hcc : (convert 26 9 (.slice p5 2 c5)).run Tryd.prog w5 = .ok (.string ⟨#[97, 98]⟩) w5 := conv_rd hrd5
  have HLF := Lib.hid (leftXA w5 hd5)
  rw [show leftX (⟨3, 1, 1, 0, 0, [], [97, 98], []⟩, 5, 4) = 1 from rfl] at HLF
  clear hd5 m5 hat5 hn5 hrd5 hown5 B5 HM5 HP4 hcv1 hcv3
  go_wp2_with fail
  refine HLF.out.mono ?_
  rintro e w6 ⟨rfl, rfl⟩
  go_wp2_with fail
  go_ret
  exact ⟨rfl, HB5.out⟩

end Go.Proofs.YtpeceneceimonaaDoor
