/- The laws' example. -/
import Derived.Test.YtnmjdpmfmbgoeaaRRRWireNew
import Derived.Test.YtnmjdpmfmbgoeaaRRRWireRef
import Derived.Lib.SlBytesConst
namespace Go.Proofs.YtnmjdpmfmbgoeaaRRR
open Go.ChangeShapes Go.WideShapes Go.ChangeAt Go.RowKit
open Wr
set_option linter.unusedVariables false
set_option maxRecDepth 100000

theorem RD.sol16 {R : Nat} {W W' : World} {v : Value} {xs : List UInt8} (h : RD W v xs) (hne : ∀ g, v.ownBlock = some g → g ≠ R) (s : Sol10 R W W') : RD W' v xs := by
  refine h.keep fun hx g hg => ?_
  obtain ⟨g', e, hlt⟩ := h.lt hx
  rw [hg] at e
  cases e
  exact s.block g hlt (hne g hg)
theorem wkR1 : rd ⟨[[97, 98], [], [99]], false, 1, 0, false⟩ 1 = (⟨[[98], [], [99]], true, 1, 1, false⟩, [97], 0) := by rfl
theorem wkR2 : rd ⟨[[98], [], [99]], true, 1, 1, false⟩ 9 = (⟨[[], [], [99]], true, 1, 2, false⟩, [98], 0) := by rfl
theorem wkR3 : rd ⟨[[], [], [99]], true, 1, 2, false⟩ 9 = (⟨[[99]], false, 1, 2, false⟩, [], 0) := by rfl
theorem wkR4 : rd ⟨[[99]], false, 1, 2, false⟩ 9 = (⟨[[]], true, 1, 3, false⟩, [99], 0) := by rfl
theorem wkR5 : rd ⟨[[]], true, 1, 3, false⟩ 9 = (⟨[], false, 1, 3, false⟩, [], 7) := by rfl

set_option maxHeartbeats 4000000 in
theorem wakes16 (w : World) : Calls Try.prog 5 #[] w fun e w' => e = .returned (.bool true) ∧ Below w.heap.size w w' := by
  have hcv := fun (w : World) (C : Array Value) (n c : Nat) => Lib.run_convert_bytes_const (P := Try.prog) w 34 5 C n c Try.underlying34 Try.underlying5
  have hcv1 := hcv w #[.int .u8 97, .int .u8 98] 2 2
  obtain ⟨w1, hw1⟩ : ∃ w1, w.alloc (.cells #[.int .u8 97, .int .u8 98] 5 (2, 3)) = w1 := ⟨_, rfl⟩
  have hcv2 := hcv w1 #[.int .u8 99] 1 1
  obtain ⟨w2, hw2⟩ : ∃ w2, w1.alloc (.cells #[.int .u8 99] 5 (1, 2)) = w2 := ⟨_, rfl⟩
  have z1 : w1.heap.size = w.heap.size + 1 := by rw [← hw1]; simp
  have z2 : w2.heap.size = w.heap.size + 2 := by rw [← hw2]; simp [z1]
  have b1 : Below w.heap.size w w1 := by rw [← hw1]; exact below_box _ _
  have b2 : Below w1.heap.size w1 w2 := by rw [← hw2]; exact below_box _ _
  have r1 : RD w1 (.slice (some ⟨w.heap.size, 0, none⟩) 2 2) [97, 98] := by rw [← hw1]; exact rd_lit w [97, 98] (2, 3) (by decide)
  have r2 : RD w2 (.slice (some ⟨w1.heap.size, 0, none⟩) 1 1) [99] := by rw [← hw2]; exact rd_lit w1 [99] (1, 2) (by decide)
  obtain ⟨w3, hw3⟩ : ∃ w3, w2.alloc (.cells #[.slice (some ⟨w.heap.size, 0, none⟩) 2 2, .slice none 0 0, .slice (some ⟨w1.heap.size, 0, none⟩) 1 1] 34) = w3 := ⟨_, rfl⟩
  have b3 : Below w2.heap.size w2 w3 := by rw [← hw3]; exact below_box _ _
  have n3 : w3.heap[w2.heap.size]? = some (.cells #[.slice (some ⟨w.heap.size, 0, none⟩) 2 2, .slice none 0 0, .slice (some ⟨w1.heap.size, 0, none⟩) 1 1] 34 (0, 0)) := by rw [← hw3]; exact heap_alloc_new _ _
  have hcs : CS w3 (.slice (some ⟨w2.heap.size, 0, none⟩) ([[97, 98], [], [99]] : List (List UInt8)).length 3) [[97, 98], [], [99]] := by
    refine ⟨[.slice (some ⟨w.heap.size, 0, none⟩) 2 2, .slice none 0 0, .slice (some ⟨w1.heap.size, 0, none⟩) 1 1], ⟨rfl, some ⟨w2.heap.size, 0, none⟩, 3, rfl, by decide, by decide, (fun h => by cases h), fun ad hp i u hu => ?_⟩, rfl, fun i u x hu hx => ?_⟩
    · cases hp
      obtain ⟨⟨g0, g1, g2⟩, -⟩ := three16 n3
      match i, hu with
      | 0, hu => simp at hu; subst hu; rw [Addr.add_zero']; exact g0
      | 1, hu => simp at hu; subst hu; exact g1
      | 2, hu => simp at hu; subst hu; exact g2
      | i + 3, hu => simp at hu
    · match i, hu, hx with
      | 0, hu, hx => simp at hu hx; subst hu hx; exact (r1.below b2).below b3
      | 1, hu, hx => simp at hu hx; subst hu hx; exact RD.nil _
      | 2, hu, hx => simp at hu hx; subst hu hx; exact r2.below b3
      | i + 3, hu, hx => simp at hu
  have B3 := Lib.hid (ahead (ahead b1 b2) b3)
  have HN := Lib.hid (new16_any 1 w3 (by decide) hcs (by decide) (by decide))
  simp only [List.length_cons, List.length_nil, Nat.zero_add, Nat.reduceAdd] at HN
  rw [z1] at hcv2 hw3
  rw [z2] at HN
  have W1 := Lib.hid hw1
  have W2 := Lib.hid hw2
  have W3 := Lib.hid hw3
  rw [← hw1] at hcv2
  clear hcv hw1 hw2 hw3 z1 z2 b1 b2 b3 r1 r2 n3 hcs
  go_enter Try.func5, Try.ntmps5
  go_wp2_with fail
  rw [W1.out, W2.out, W3.out, show w.heap.size + 1 + 1 = w.heap.size + 2 from rfl]
  clear W1 W2 W3 hcv1 hcv2
  refine HN.out.mono ?_
  rintro e' w4 ⟨R, M, rfl, hs, hb4, hM⟩
  have hR := hs.lt
  have hz3 := B3.out.size
  have HR := Lib.hid (show w.heap.size ≤ R ∧ R < w4.heap.size from ⟨by have := hM R hR.1; omega, hR.2 R hR.1⟩)
  have HB := Lib.hid (ahead B3.out hb4)
  have HS := Lib.hid hs
  clear hs hb4 hM hR hz3 HN B3
  have HK := Lib.hid (read16_any 1 w4 HS.out (by decide) (by decide))
  rw [wkR1] at HK
  go_wp2_with fail
  refine HK.out.mono ?_
  rintro e' w5 ⟨v, rfl, hs, hrd, hown, hsol⟩
  clear HK HS
  replace hrd : RD w5 v [97] := hrd
  have HS : Hid (SrcAt R ⟨[[98], [], [99]], true, 1, 1, false⟩ M w5) := Lib.hid hs
  have HO1 := Lib.hid (show ∀ g, v.ownBlock = some g → g ≠ R from fun g hg => by have := hown g hg; have := HR.out; omega)
  have HZ := Lib.hid hsol.size
  obtain ⟨p1, c1, rfl, -⟩ := id hrd
  have HD1 := Lib.hid hrd
  have HL1 := Lib.hid hsol
  replace HR : Hid (w.heap.size ≤ R ∧ R < w5.heap.size) := Lib.hid ⟨HR.out.1, by have := HZ.out; have := HR.out; omega⟩
  replace HB : Hid (Below w.heap.size w w5) := Lib.hid (hsol.below HB.out HR.out.1 HB.out.size)
  clear hs hrd hown hsol HZ
  dsimp only [List.length_cons, List.length_nil]
  have HK := Lib.hid (read16_any 9 w5 HS.out (by decide) (by decide))
  rw [wkR2] at HK
  go_wp2_with fail
  refine HK.out.mono ?_
  rintro e' w6 ⟨v, rfl, hs, hrd, hown, hsol⟩
  clear HK HS
  replace hrd : RD w6 v [98] := hrd
  have HS : Hid (SrcAt R ⟨[[], [], [99]], true, 1, 2, false⟩ M w6) := Lib.hid hs
  have HO2 := Lib.hid (show ∀ g, v.ownBlock = some g → g ≠ R from fun g hg => by have := hown g hg; have := HR.out; omega)
  have HZ := Lib.hid hsol.size
  obtain ⟨p2, c2, rfl, -⟩ := id hrd
  have HD2 := Lib.hid hrd
  have HL2 := Lib.hid hsol
  replace HR : Hid (w.heap.size ≤ R ∧ R < w6.heap.size) := Lib.hid ⟨HR.out.1, by have := HZ.out; have := HR.out; omega⟩
  replace HB : Hid (Below w.heap.size w w6) := Lib.hid (hsol.below HB.out HR.out.1 HB.out.size)
  clear hs hrd hown hsol HZ
  dsimp only [List.length_cons, List.length_nil]
  have HK := Lib.hid (read16_any 9 w6 HS.out (by decide) (by decide))
  rw [wkR3] at HK
  go_wp2_with fail
  refine HK.out.mono ?_
  rintro e' w7 ⟨v, rfl, hs, hrd, hown, hsol⟩
  clear HK HS
  replace hrd : RD w7 v [] := hrd
  have HS : Hid (SrcAt R ⟨[[99]], false, 1, 2, false⟩ M w7) := Lib.hid hs
  have HO3 := Lib.hid (show ∀ g, v.ownBlock = some g → g ≠ R from fun g hg => by have := hown g hg; have := HR.out; omega)
  have HZ := Lib.hid hsol.size
  obtain ⟨p3, c3, rfl, -⟩ := id hrd
  have HD3 := Lib.hid hrd
  have HL3 := Lib.hid hsol
  replace HR : Hid (w.heap.size ≤ R ∧ R < w7.heap.size) := Lib.hid ⟨HR.out.1, by have := HZ.out; have := HR.out; omega⟩
  replace HB : Hid (Below w.heap.size w w7) := Lib.hid (hsol.below HB.out HR.out.1 HB.out.size)
  clear hs hrd hown hsol HZ
  dsimp only [List.length_cons, List.length_nil]
  have HK := Lib.hid (read16_any 9 w7 HS.out (by decide) (by decide))
  rw [wkR4] at HK
  go_wp2_with fail
  refine HK.out.mono ?_
  rintro e' w8 ⟨v, rfl, hs, hrd, hown, hsol⟩
  clear HK HS
  replace hrd : RD w8 v [99] := hrd
  have HS : Hid (SrcAt R ⟨[[]], true, 1, 3, false⟩ M w8) := Lib.hid hs
  have HO4 := Lib.hid (show ∀ g, v.ownBlock = some g → g ≠ R from fun g hg => by have := hown g hg; have := HR.out; omega)
  have HZ := Lib.hid hsol.size
  obtain ⟨p4, c4, rfl, -⟩ := id hrd
  have HD4 := Lib.hid hrd
  have HL4 := Lib.hid hsol
  replace HR : Hid (w.heap.size ≤ R ∧ R < w8.heap.size) := Lib.hid ⟨HR.out.1, by have := HZ.out; have := HR.out; omega⟩
  replace HB : Hid (Below w.heap.size w w8) := Lib.hid (hsol.below HB.out HR.out.1 HB.out.size)
  clear hs hrd hown hsol HZ
  dsimp only [List.length_cons, List.length_nil]
  have HK := Lib.hid (read16_any 9 w8 HS.out (by decide) (by decide))
  rw [wkR5] at HK
  go_wp2_with fail
  refine HK.out.mono ?_
  rintro e' w9 ⟨v, rfl, hs, hrd, hown, hsol⟩
  clear HK HS
  replace hrd : RD w9 v [] := hrd
  have HS : Hid (SrcAt R ⟨[], false, 1, 3, false⟩ M w9) := Lib.hid hs
  have HO5 := Lib.hid (show ∀ g, v.ownBlock = some g → g ≠ R from fun g hg => by have := hown g hg; have := HR.out; omega)
  have HZ := Lib.hid hsol.size
  obtain ⟨p5, c5, rfl, -⟩ := id hrd
  have HD5 := Lib.hid hrd
  have HL5 := Lib.hid hsol
  replace HR : Hid (w.heap.size ≤ R ∧ R < w9.heap.size) := Lib.hid ⟨HR.out.1, by have := HZ.out; have := HR.out; omega⟩
  replace HB : Hid (Below w.heap.size w w9) := Lib.hid (hsol.below HB.out HR.out.1 HB.out.size)
  clear hs hrd hown hsol HZ
  dsimp only [List.length_cons, List.length_nil]
  have hc1 : (convert 34 9 (.slice p1 1 c1)).run Try.prog w9 = .ok (.string ⟨#[97]⟩) w9 := conv_rd ((((HD1.out.sol16 HO1.out HL2.out).sol16 HO1.out HL3.out).sol16 HO1.out HL4.out).sol16 HO1.out HL5.out)
  have hc2 : (convert 34 9 (.slice p2 1 c2)).run Try.prog w9 = .ok (.string ⟨#[98]⟩) w9 := conv_rd (((HD2.out.sol16 HO2.out HL3.out).sol16 HO2.out HL4.out).sol16 HO2.out HL5.out)
  have hc4 : (convert 34 9 (.slice p4 1 c4)).run Try.prog w9 = .ok (.string ⟨#[99]⟩) w9 := conv_rd (HD4.out.sol16 HO4.out HL5.out)
  clear HD1 HD2 HD3 HD4 HD5 HL1 HL2 HL3 HL4 HL5 HO1 HO2 HO3 HO4 HO5 HS HR
  go_wp2_with fail
  go_ret
  exact ⟨rfl, HB.out⟩

end Go.Proofs.YtnmjdpmfmbgoeaaRRR
