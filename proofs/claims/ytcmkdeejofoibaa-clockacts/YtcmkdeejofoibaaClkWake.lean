/- The laws' example, from what the program's clock answers. -/
import Derived.Test.YtcmkdeejofoibaaClkForms
namespace Go.Proofs.Ytcmkdeejofoibaa
open Go.ChangeShapes Go.WideShapes Go.ChangeAt Go.RowKit
open Ck
set_option linter.unusedVariables false
set_option maxRecDepth 100000

theorem is_two (W : World) (x y : Int) (t : TypeId) : IS (W.alloc (.cells #[.int .i64 x, .int .i64 y] t)) (.slice (some ⟨W.heap.size, 0, none⟩) 2 2) [x, y] := by
  have hn := heap_alloc_new W (.cells #[.int .i64 x, .int .i64 y] t (0, 0))
  refine ⟨rfl, some ⟨W.heap.size, 0, none⟩, 2, rfl, Nat.le_refl _, by decide, (fun h => by cases h), fun ad hp i u hu => ?_⟩
  cases hp
  match i, hu with
  | 0, hu => simp only [iv, List.map_cons, List.getElem?_cons_zero, Option.some.injEq] at hu; subst hu; exact (two15 hn).1.1
  | 1, hu => simp only [iv, List.map_cons, List.getElem?_cons_succ, List.getElem?_cons_zero, Option.some.injEq] at hu; subst hu; exact (two15 hn).1.2
  | i + 2, hu => simp [iv] at hu

set_option maxHeartbeats 4000000 in
theorem wakes15 {C : Nat → Cs → (Nat → Prop) → World → Prop} (F : Forms15 C) (w : World) : Calls Try.prog 7 #[] w fun e w' => e = .returned (.bool true) ∧ Below w.heap.size w w' := by
  have HF := Lib.hid F
  have HN := Lib.hid (F.new w)
  obtain ⟨x1, hx1⟩ : ∃ x, setC ⟨0, []⟩ 7 5 = x := ⟨_, rfl⟩
  obtain ⟨x2, hx2⟩ : ∃ x, setC x1 3 5 = x := ⟨_, rfl⟩
  have hv : setE 5 = 0 ∧ advL x2 5 = [3, 7] ∧ advE 5 = 0 := by
    subst hx2 hx1
    exact ⟨rfl, rfl, rfl⟩
  have f1 : Fit x1 := by rw [← hx1]; exact fit_set fit_new 7 5 (by decide) (by decide)
  have hl1 : x1.l.length = 1 := by rw [← hx1]; rfl
  have f2 : Fit x2 := by rw [← hx2]; exact fit_set f1 3 5 (by omega) (by decide)
  have HV := Lib.hid (And.intro hv (And.intro f1 f2))
  have H1 := Lib.hid hx1
  have H2 := Lib.hid hx2
  clear F hx1 hx2 hv f1 f2 hl1
  go_enter Try.func7, Try.ntmps7
  go_wp2_with fail
  refine HN.out.mono ?_
  rintro e w1 ⟨R, M1, rfl, hC1, hb1, hm1⟩
  have HS1 := Lib.hid (HF.out.set 7 5 w1 (by decide) (by decide) hC1 fit_new)
  rw [H1.out, HV.out.1.1] at HS1
  have B1 := Lib.hid (And.intro hb1 hm1)
  clear hC1 hb1 hm1 HN
  go_wp2_with fail
  refine HS1.out.mono ?_
  rintro e w2 ⟨rfl, M2, hC2, hv2⟩
  have HS2 := Lib.hid (HF.out.set 3 5 w2 (by decide) (by decide) hC2 HV.out.2.1)
  rw [H2.out, HV.out.1.1] at HS2
  have B2 := Lib.hid (hv2.below B1.out.1 B1.out.2)
  clear hC2 hv2 HS1
  go_wp2_with fail
  refine HS2.out.mono ?_
  rintro e w3 ⟨rfl, M3, hC3, hv3⟩
  have HA := Lib.hid (HF.out.adv 5 w3 hC3 HV.out.2.2)
  rw [HV.out.1.2.1, HV.out.1.2.2] at HA
  have B3 := Lib.hid (hv3.below B2.out.1 B2.out.2)
  clear hC3 hv3 HS2
  go_wp2_with fail
  refine HA.out.mono ?_
  rintro e w4 ⟨p, c, rfl, his, hown, N, hC4, hv4, hap⟩
  have B4 := Lib.hid (hv4.below B3.out.1 B3.out.2).1
  have bb := below_box w4 (.cells #[.int .i64 3, .int .i64 7] 3)
  have HNU := Lib.hid (numbers_any [3, 7] [3, 7] p (some ⟨w4.heap.size, 0, none⟩) c 2 _ (his.below bb) (is_two w4 3 7 3) (by decide) (by decide))
  have BB := Lib.hid (ahead B4.out bb)
  clear hC4 hv4 his hown hap HA bb
  go_wp2_with fail
  refine HNU.out.mono ?_
  rintro e w5 ⟨rfl, hb5⟩
  have B5 := Lib.hid (ahead BB.out hb5)
  clear hb5
  go_wp2_with fail
  go_ret
  exact ⟨rfl, B5.out⟩

end Go.Proofs.Ytcmkdeejofoibaa
