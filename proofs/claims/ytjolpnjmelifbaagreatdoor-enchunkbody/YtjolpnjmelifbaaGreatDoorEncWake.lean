/- The laws' examples; the document's Same of two that read alike. -/
import Derived.Test.YtjolpnjmelifbaaGreatDoorEncSmall
import Derived.Test.YtjolpnjmelifbaaGreatDoorByteSame
import Derived.Lib.SlBytesConst
namespace Go.Proofs.YtjolpnjmelifbaaGreatDoor
open Go.ChangeShapes Go.WideShapes Go.ChangeAt Go.RowKit
open Oc Fl Bk Bd
set_option linter.unusedVariables false
set_option maxRecDepth 100000

/-- The document's Same, of what reads alike. -/
theorem same10 (w : World) (p q : Option Addr) (n c m d : Nat) (xs : List UInt8) (hx : RD w (.slice p n c) xs) (hy : RD w (.slice q m d) xs) :
    Calls Tryz.prog 12 #[.slice p n c, .slice q m d] w fun e w' => e = .returned (.bool true) ∧ Below w.heap.size w w' :=
  (same_any w p q n c m d xs xs hx hy).mono fun _ _ ⟨h1, k, h2⟩ => ⟨by rw [h1]; simp, by rw [h2]; exact drewN_below8 w k⟩

theorem wk10 : ck [] [97, 98, 99] = [51, 13, 10, 97, 98, 99, 13, 10] := by simp [ck, Hx.put, Hx.hexd]
theorem wk10c : cst 16 = 6 := by simp [cst, Hx.put]

set_option maxHeartbeats 2000000 in
theorem wakes10 (w : World) (hz : Tz w) : Calls Tryz.prog 4 #[] w fun e w' => e = .returned (.bool true) ∧ Below w.heap.size w w' := by
  have hcv := fun (w : World) (C : Array Value) (n c : Nat) => Lib.run_convert_bytes_const (P := Tryz.prog) w 25 5 C n c Tryz.underlying25 Tryz.underlying5
  have hcv1 := hcv w #[.int .u8 97, .int .u8 98, .int .u8 99] 3 3
  obtain ⟨w2, hw2⟩ : ∃ w2, w.alloc (.cells #[.int .u8 97, .int .u8 98, .int .u8 99] 5 (3, 4)) = w2 := ⟨_, rfl⟩
  have b2 : Below w.heap.size w w2 := by rw [← hw2]; exact below_box _ _
  have r2 : RD w2 (.slice (some ⟨w.heap.size, 0, none⟩) 3 3) [97, 98, 99] := by rw [← hw2]; exact rd_lit w [97, 98, 99] (3, 4) (by decide)
  have HC := Lib.hid (chunk10_any [97, 98, 99] (some ⟨w.heap.size, 0, none⟩) 3 w2 r2 (by decide) (hz.below b2))
  have W2 := Lib.hid hw2
  have B2 := Lib.hid b2
  have HZ := Lib.hid hz
  clear hw2 r2 b2 hz hcv
  go_enter Tryz.func4, Tryz.ntmps4
  go_wp2_with fail
  rw [W2.out]
  refine HC.out.mono ?_
  rintro e w3 ⟨v, rfl, hO⟩
  have hcc : (convert 25 9 v).run Tryz.prog w3 = .ok (.string ⟨#[51, 13, 10, 97, 98, 99, 13, 10]⟩) w3 := by
    have := hO.rd
    rw [wk10] at this
    exact conv_rd this
  have b3 := ahead B2.out hO.below
  have HK := Lib.hid (cost_any 16 (by decide) w3 (HZ.out.below b3))
  rw [wk10c] at HK
  have B3 := Lib.hid b3
  obtain ⟨p, c, rfl⟩ := hO.slice
  clear b3 hO HC hcv1
  go_wp2_with fail
  refine HK.out.mono ?_
  rintro e w4 ⟨rfl, hb4⟩
  have B4 := Lib.hid (ahead B3.out hb4)
  clear hb4
  go_wp2_with fail
  go_ret
  exact ⟨rfl, B4.out⟩

end Go.Proofs.YtjolpnjmelifbaaGreatDoor
