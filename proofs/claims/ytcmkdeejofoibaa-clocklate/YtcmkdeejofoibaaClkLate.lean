/- The law ClockLate, from what the program's clock answers. -/
import Derived.Test.YtcmkdeejofoibaaClkWake
import Derived.Test.YtcmkdeejofoibaaByteMem
namespace Go.Proofs.Ytcmkdeejofoibaa
open Go.ChangeShapes Go.WideShapes Go.ChangeAt Go.RowKit
open Ck
set_option linter.unusedVariables false
set_option maxRecDepth 100000

theorem RD.byte15 {W : World} {p : Option Addr} {l c : Nat} {xs : List UInt8} (h : RD W (.slice p l c) xs) {i : Nat} {b : UInt8} (hi : xs[i]? = some b) : ∃ ad, p = some ad ∧ W.cell? (ad.add i) = some (.int .u8 (b.toNat : Int)) := by
  obtain ⟨_, _, e, h1, h2, h3, h4⟩ := h
  cases e
  have hlt := (List.getElem?_eq_some_iff.1 hi).1
  cases p with
  | none => have := h3 rfl; omega
  | some ad => exact ⟨ad, rfl, h4 ad rfl i b hi⟩

namespace Ck
/-- The law's clock: one timer, due at a + 1; g has gone. -/
def late (a g : Int) : Cs := ⟨g, if g ≤ a then [⟨5, a + 1⟩] else []⟩
theorem late_start (a : Int) (a0 : 0 ≤ a) (a1 : a ≤ 255) : setC ⟨0, []⟩ 5 (a + 1) = late a 0 ∧ setE (a + 1) = 0 := by
  have hb : badN (a + 1) 1 = false := by unfold badN; simp; omega
  refine ⟨?_, by unfold setE; rw [hb]; rfl⟩
  unfold setC late
  rw [hb, if_pos a0]
  simp [ins, wo]
theorem late_fit {a g : Int} (a0 : 0 ≤ a) (a1 : a ≤ 255) (g0 : 0 ≤ g) (g1 : g ≤ 1000000) : Fit (late a g) := by
  unfold late
  split
  · refine ⟨⟨List.pairwise_singleton _ _, List.pairwise_singleton _ _⟩, g0, by show g ≤ _; omega, fun t ht => ?_, by simp, fun t ht => ?_⟩
    · obtain rfl : t = ⟨5, a + 1⟩ := by simpa using ht
      show g < a + 1 ∧ a + 1 ≤ g + 1073741824
      omega
    · obtain rfl : t = ⟨5, a + 1⟩ := by simpa using ht
      show -9223372036854775808 ≤ (5 : Int) ∧ (5 : Int) ≤ 9223372036854775807
      omega
  · exact ⟨⟨List.Pairwise.nil, List.Pairwise.nil⟩, g0, by show g ≤ _; omega, fun t ht => by simp at ht, by simp, fun t ht => by simp at ht⟩
/-- What fires. -/
def lateL (a g s : Int) : List Int := if g ≤ a ∧ a < g + s then [5] else []
theorem late_adv {a g s : Int} (s0 : 0 ≤ s) (s1 : s ≤ 255) : advC (late a g) s = late a (g + s) ∧ advL (late a g) s = lateL a g s ∧ advE s = 0 := by
  have hb : badN s 0 = false := by unfold badN; simp; omega
  refine ⟨?_, ?_, by unfold advE; rw [hb]; rfl⟩
  · unfold advC late
    rw [hb]
    by_cases h1 : g ≤ a
    · by_cases h2 : g + s ≤ a
      · have : g + s < a + 1 := by omega
        simp [h1, h2, this]
      · have : ¬ g + s < a + 1 := by omega
        simp [h1, h2, this]
    · have : ¬ g + s ≤ a := by omega
      simp [h1, this]
  · unfold advL late lateL
    rw [hb]
    by_cases h1 : g ≤ a
    · by_cases h2 : a < g + s
      · have : a + 1 ≤ g + s := by omega
        simp [h1, h2, this]
      · have : ¬ a + 1 ≤ g + s := by omega
        simp [h1, h2, this]
    · simp [h1]
theorem late_left (a g : Int) : (leftC (late a g) 5).2 = decide (g ≤ a) := by
  unfold leftC late
  by_cases h : g ≤ a <;> simp [h, leftF]
end Ck

set_option maxHeartbeats 8000000 in
set_option maxRecDepth 100000 in
theorem late15_walk {C : Nat → Cs → (Nat → Prop) → World → Prop} (F : Forms15 C) (a : Int) (a0 : 0 ≤ a) (a1 : a ≤ 255) (p : Option Addr) (l d : Nat) (xs : List UInt8) (w : World) (hx : RD w (.slice p l d) xs) :
    Calls Try.prog 6 #[.int .u8 a, .slice p l d] w fun e w' => e = .returned (.bool true) ∧ Below w.heap.size w w' := by
  have hl := hx.len
  subst hl
  have HX := Lib.hid hx
  have HF := Lib.hid F
  have HW := Lib.hid (wakes15 F w)
  clear hx F
  go_enter Try.func6, Try.ntmps6
  go_wp2_with fail
  refine HW.out.mono ?_
  rintro e w1 ⟨rfl, hb1⟩
  have B1 := Lib.hid hb1
  clear hb1 HW
  by_cases hg : (50 : Int) < (xs.length : Int)
  · go_wp2_with fail
    go_ret
    exact ⟨rfl, B1.out⟩
  · have HN := Lib.hid (HF.out.new w1)
    go_wp2_with fail
    refine HN.out.mono ?_
    rintro e w2 ⟨R, M, rfl, hC, hb2, hm2⟩
    have hwa : IntKind.i64.wrap a = a := IntWalk.i64_in _ (by omega)
    have hwb : IntKind.i64.wrap (a + 1) = a + 1 := IntWalk.i64_in _ (by omega)
    have HS := Lib.hid (HF.out.set 5 (a + 1) w2 (by decide) (by decide) hC fit_new)
    rw [(late_start a a0 a1).1, (late_start a a0 a1).2] at HS
    have B2 := Lib.hid (And.intro (ahead B1.out hb2) hm2)
    have Z1 := Lib.hid B1.out.size
    clear hC hb2 hm2 HN B1
    go_wp2_with fail
    refine HS.out.mono ?_
    rintro e w3 ⟨rfl, M3, hC3, hv3⟩
    have B3 := Lib.hid (hv3.below B2.out.1 fun g hg => by have := B2.out.2 g hg; have := Z1.out; omega)
    have HC := Lib.hid hC3
    clear hC3 hv3 HS
    go_wp2_with fail
    have HG := Lib.hid (show xs.length ≤ 50 by omega)
    have HA := Lib.hid (And.intro a0 a1)
    clear hg a0 a1 hwb
    go_loopw [6, 33] (fun gv iv wr => ∃ (j : Nat) (g : Int) (N : Nat → Prop), j ≤ xs.length ∧ iv = .int .i64 (j : Int) ∧ gv = .int .i64 g ∧ Hid (0 ≤ g ∧ g ≤ 255 * j) ∧ Hid (C R (late a g) N wr ∧ Below w.heap.size w wr ∧ ∀ b, N b → w.heap.size ≤ b)) (fun _ iv _ => xs.length - (intOf iv).toNat)
    case atStart => exact ⟨0, 0, M3, Nat.zero_le _, rfl, rfl, Lib.hid (by simp), Lib.hid ⟨HC.out, B3.out⟩⟩
    case round =>
      clear HC B3 B2
      obtain ⟨j, g, N, hj, rfl, rfl, HGG, HI⟩ := hrel
      by_cases hlt : j < xs.length
      · obtain ⟨b, hb⟩ : ∃ b, xs[j]? = some b := ⟨_, List.getElem?_eq_getElem hlt⟩
        obtain ⟨ad, rfl, e0⟩ := (HX.out.below HI.out.2.1).byte15 hb
        obtain ⟨s, hs⟩ : ∃ s : Int, (b.toNat : Int) = s := ⟨_, rfl⟩
        have hsb : 0 ≤ s ∧ s ≤ 255 := by have := b.toNat_lt; omega
        obtain ⟨g1, hg1⟩ : ∃ g1, g + s = g1 := ⟨_, rfl⟩
        have hgb := HGG.out
        have hgl := HG.out
        have hw1 : IntKind.i64.wrap s = s := IntWalk.i64_in _ (by omega)
        have hw2 : IntKind.i64.wrap (g + s) = g1 := by rw [IntWalk.i64_in _ (by omega)]; exact hg1
        have k1 : (0 : Int) ≤ (j : Int) := by omega
        have k2 : (j : Int) < (xs.length : Int) := by omega
        rw [hs] at e0
        have HV := Lib.hid (HF.out.adv s wr HI.out.1 (late_fit HA.out.1 HA.out.2 hgb.1 (by omega)))
        obtain ⟨q1, q2, q3⟩ := late_adv (a := a) (g := g) hsb.1 hsb.2
        rw [q1, q2, q3, hg1] at HV
        have HN1 := Lib.hid (show 0 ≤ g1 ∧ g1 ≤ 255 * ((j + 1 : Nat) : Int) by push_cast; omega)
        have HS := Lib.hid hg1
        have hfir : lateL a g s = if g ≤ a ∧ a < g1 then [5] else [] := by unfold lateL; rw [hg1]
        clear q1 q2 q3 hgb hgl hs hb hsb hg1
        by_cases h1 : g ≤ a <;> by_cases h2 : a < g1
        all_goals
          simp only [h1, h2, and_self, and_true, and_false, if_true, if_false] at hfir
          rw [hfir] at HV
          clear hfir
          go_wp2_with fail
          refine HV.out.mono ?_
          rintro e w5 ⟨p5, c5, rfl, hi5, ho5, N5, hC5, hv5, hn5⟩
          have HB5 := Lib.hid (hv5.below HI.out.2.1 HI.out.2.2)
          have HC5 := Lib.hid hC5
          clear hi5 ho5 hC5 hv5 hn5
          go_wp2_with fail
          go_roundw
          case rel => exact ⟨j + 1, g1, N5, by omega, by go_num, rfl, HN1, Lib.hid ⟨HC5.out, HB5.out⟩⟩
          case measure => simp [intOf]; omega
      · obtain rfl : j = xs.length := by omega
        have HL := Lib.hid (HF.out.left 5 wr (by decide) (by decide) HI.out.1 (late_fit HA.out.1 HA.out.2 HGG.out.1 (by have := HGG.out.2; have := HG.out; omega)))
        rw [late_left] at HL
        generalize (leftC (late a g) 5).1 = z at HL
        by_cases h1 : g ≤ a
        all_goals
          simp only [h1, decide_true, decide_false] at HL
          go_wp2_with fail
          refine HL.out.mono ?_
          rintro e w5 ⟨rfl, hb5⟩
          have B5 := Lib.hid (ahead HI.out.2.1 hb5)
          clear hb5
          go_wp2_with fail
          go_ret
          exact ⟨by simp [h1], B5.out⟩

end Go.Proofs.Ytcmkdeejofoibaa
