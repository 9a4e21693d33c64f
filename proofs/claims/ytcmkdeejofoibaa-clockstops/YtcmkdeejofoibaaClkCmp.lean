/- How two timers are compared. -/
import Derived.Test.YtcmkdeejofoibaaClkAt
import Derived.StillTailTactics
import Derived.Sort.Grow
namespace Go.Proofs.Ytcmkdeejofoibaa
open Go.ChangeShapes Go.WideShapes Go.ChangeAt Go.RowKit
open Ck
set_option linter.unusedVariables false
set_option maxRecDepth 100000

namespace Ck
def cmp3 (a b : Int) : Int := if a < b then -1 else if b < a then 1 else 0
def cmpT (x y : Tm) : Int := if cmp3 x.due y.due = 0 then cmp3 x.id y.id else cmp3 x.due y.due
theorem cmpT_lt (x y : Tm) : decide (cmpT x y < 0) = lt x y := by
  unfold cmpT cmp3 lt
  by_cases h1 : x.due < y.due
  · simp [h1]
  · by_cases h2 : y.due < x.due
    · have : ¬ x.due = y.due := by omega
      simp [h1, h2, this]
    · have h3 : x.due = y.due := by omega
      by_cases h4 : x.id < y.id
      · simp [h3, h4]
      · by_cases h5 : y.id < x.id <;> simp [h3, h4, h5]
end Ck

theorem nan64_any (a : Int) (w : World) : Calls Try.prog 31 #[.int .i64 a] w fun e w' => e = .returned (.bool false) ∧ w' = w := by
  go_enter Try.func31, Try.ntmps31
  go_wp2_with fail
  go_ret
  exact ⟨by simp, rfl⟩
theorem nan_any (a : Int) (w : World) : Calls Try.prog 32 #[.int .i64 a] w fun e w' => e = .returned (.bool false) ∧ w' = w := by
  go_enter Try.func32, Try.ntmps32
  go_wp2_with fail
  go_ret
  exact ⟨by simp, rfl⟩
theorem cmp64_any (a b : Int) (w : World) : Calls Try.prog 27 #[.int .i64 a, .int .i64 b] w fun e w' => e = .returned (.int .i64 (cmp3 a b)) ∧ w' = w := by
  unfold cmp3
  by_cases h1 : a < b
  · rw [if_pos h1]
    go_enter Try.func27, Try.ntmps27
    go_wp2_with (go_at_call 31; refine (nan64_any _ _).mono ?_; rintro e w' ⟨rfl, rfl⟩)
    go_ret
    exact ⟨rfl, rfl⟩
  · rw [if_neg h1]
    by_cases h2 : b < a
    · rw [if_pos h2]
      go_enter Try.func27, Try.ntmps27
      go_wp2_with (go_at_call 31; refine (nan64_any _ _).mono ?_; rintro e w' ⟨rfl, rfl⟩)
      go_ret
      exact ⟨rfl, rfl⟩
    · rw [if_neg h2]
      go_enter Try.func27, Try.ntmps27
      go_wp2_with (go_at_call 31; refine (nan64_any _ _).mono ?_; rintro e w' ⟨rfl, rfl⟩)
      go_ret
      exact ⟨rfl, rfl⟩
theorem cmpi_any (a b : Int) (w : World) : Calls Try.prog 28 #[.int .i64 a, .int .i64 b] w fun e w' => e = .returned (.int .i64 (cmp3 a b)) ∧ w' = w := by
  unfold cmp3
  by_cases h1 : a < b
  · rw [if_pos h1]
    go_enter Try.func28, Try.ntmps28
    go_wp2_with (go_at_call 32; refine (nan_any _ _).mono ?_; rintro e w' ⟨rfl, rfl⟩)
    go_ret
    exact ⟨rfl, rfl⟩
  · rw [if_neg h1]
    by_cases h2 : b < a
    · rw [if_pos h2]
      go_enter Try.func28, Try.ntmps28
      go_wp2_with (go_at_call 32; refine (nan_any _ _).mono ?_; rintro e w' ⟨rfl, rfl⟩)
      go_ret
      exact ⟨rfl, rfl⟩
    · rw [if_neg h2]
      go_enter Try.func28, Try.ntmps28
      go_wp2_with (go_at_call 32; refine (nan_any _ _).mono ?_; rintro e w' ⟨rfl, rfl⟩)
      go_ret
      exact ⟨rfl, rfl⟩
theorem or_any (a b : Int) (B : Nat) (w : World) (h0 : w.cell? ⟨B, 0, none⟩ = some (.int .i64 a)) (h1 : w.cell? ⟨B, 1, none⟩ = some (.int .i64 b)) :
    Calls Try.prog 26 #[.slice (some ⟨B, 0, none⟩) 2 2] w fun e w' => e = .returned (.int .i64 (if a = 0 then b else a)) ∧ w' = w := by
  by_cases ha : a = 0
  · subst ha
    rw [if_pos rfl]
    by_cases hb : b = 0
    · subst hb
      go_enter Try.func26, Try.ntmps26
      go_wp2_with fail
      go_rounds 3
      go_ret
      exact ⟨rfl, rfl⟩
    · have hb' : (b == 0) = false := beq_eq_false_iff_ne.2 hb
      go_enter Try.func26, Try.ntmps26
      go_wp2_with fail
      go_rounds 3
      go_ret
      exact ⟨rfl, rfl⟩
  · rw [if_neg ha]
    have ha' : (a == 0) = false := beq_eq_false_iff_ne.2 ha
    go_enter Try.func26, Try.ntmps26
    go_wp2_with fail
    go_rounds 3
    go_ret
    exact ⟨rfl, rfl⟩

abbrev obC (x : Tm) : Obj := .cells #[.int .i64 x.id, .int .i64 x.due] 69
set_option maxHeartbeats 4000000 in
/-- The comparison of two timers: two boxes, and the list of both answers. -/
theorem cmpT_any (x y : Tm) (w : World) : Calls Try.prog 25 #[.agg #[.int .i64 x.id, .int .i64 x.due], .agg #[.int .i64 y.id, .int .i64 y.due]] w fun e w' => e = .returned (.int .i64 (cmpT x y)) ∧ ∃ os, w' = Go.Sort.grow w.drew os := by
  obtain ⟨i1, d1⟩ := x
  obtain ⟨i2, d2⟩ := y
  unfold cmpT
  have H1 := Lib.hid (cmp64_any d1 d2)
  have H2 := Lib.hid (cmpi_any i1 i2)
  simp only
  generalize cmp3 d1 d2 = a at *
  generalize cmp3 i1 i2 = b at *
  have HO := Lib.hid (or_any a b)
  generalize (if a = 0 then b else a) = r at HO ⊢
  obtain ⟨w0, hw0⟩ : ∃ w0, (w.alloc (obC ⟨i1, d1⟩)).alloc (obC ⟨i2, d2⟩) = w0 := ⟨_, rfl⟩
  have z0 : w0.heap.size = w.heap.size + 2 := by rw [← hw0]; simp
  have e0 : w0.heap[w.heap.size]? = some (.cells #[.int .i64 i1, .int .i64 d1] 69 (0, 0)) := by rw [← hw0, (below_box (w.alloc (obC ⟨i1, d1⟩)) _).block _ (by simp)]; exact heap_alloc_new w _
  have e1 : w0.heap[w.heap.size + 1]? = some (.cells #[.int .i64 i2, .int .i64 d2] 69 (0, 0)) := by
    rw [← hw0]
    have := heap_alloc_new (w.alloc (obC ⟨i1, d1⟩)) (.cells #[.int .i64 i2, .int .i64 d2] 69 (0, 0))
    simpa using this
  obtain ⟨⟨c0, c1⟩, -⟩ := two15 e0
  obtain ⟨⟨c2, c3⟩, -⟩ := two15 e1
  have W0 := Lib.hid (And.intro hw0 z0)
  clear hw0 z0 e0 e1
  go_enter Try.func25, Try.ntmps25
  go_wp2_with fail
  rw [W0.out.1]
  refine wp_region_still_tail 10 (by kernel_rfl) (by kernel_rfl) ?_
  simp only [List.take_succ_cons, List.take_zero, List.drop_succ_cons, List.drop_zero]
  repeat (first | still_step | still_call (H1.out _) | still_call (H2.out _))
  try refine wpStill_nil ?_
  change wpList _ _ _ _ _ w0.drew
  obtain ⟨w1, hw1⟩ : ∃ w1, (w0.drew).alloc (.cells #[.int .i64 a, .int .i64 b] 3) = w1 := ⟨_, rfl⟩
  have hn := heap_alloc_new w0.drew (.cells #[.int .i64 a, .int .i64 b] 3 (0, 0))
  obtain ⟨⟨k0, k1⟩, -⟩ := two15 hn
  rw [hw1] at k0 k1
  have hO := HO.out w0.heap.size w1 k0 k1
  have hG : ∃ os, w1 = Go.Sort.grow w.drew os := by
    rw [← hw1, ← W0.out.1, Go.Sort.alloc_eq_grow, Go.Sort.alloc_eq_grow, Go.Sort.alloc_eq_grow, Go.Sort.drew_grow, Go.Sort.drew_grow, Go.Sort.grow_grow, Go.Sort.grow_grow]
    exact ⟨_, rfl⟩
  have HG := Lib.hid hG
  clear hn k0 k1 hG W0 c0 c1 c2 c3 H1 H2
  go_wp2_with fail
  refine hO.mono ?_
  rintro e w' ⟨rfl, rfl⟩
  go_wp2_with fail
  go_ret
  obtain ⟨os, he⟩ := HG.out
  exact ⟨rfl, os, he⟩

end Go.Proofs.Ytcmkdeejofoibaa
