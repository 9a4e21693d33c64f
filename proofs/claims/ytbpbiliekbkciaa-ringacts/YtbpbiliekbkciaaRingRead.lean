/- The document's Read of a ring (package ref03). -/
import Derived.Test.YtbpbiliekbkciaaRingRef
namespace Go.Proofs.Ytbpbiliekbkciaa
open Go.ChangeShapes Go.WideShapes Go.ChangeAt Go.RowKit
set_option linter.unusedVariables false

set_option maxHeartbeats 2000000 in
theorem rread_any (w : World) (N h : Nat) (p : Option Addr) (l c : Nat) (q : Int) (xs : List UInt8) (hx : RD w (.slice p l c) xs) (hN : N ≤ 65536) (hh : h < N) (hl : xs.length ≤ N) :
    Calls Try.prog 14 #[refV N h (.slice p l c), .int .i64 q] w fun e w' => e = .returned (.tuple #[refV N ((h + upTo q xs.length) % N) (sliced p (upTo q xs.length) xs.length c 1), sliced p 0 (upTo q xs.length) c 1]) ∧ Below w.heap.size w w' := by
  have h1 := hx.len
  subst h1
  have hc : xs.length ≤ c := by
    obtain ⟨_, _, e, h1, h2, _⟩ := hx
    cases e
    exact h1
  unfold refV
  obtain ⟨u, hu⟩ : ∃ u, u = upTo q xs.length := ⟨_, rfl⟩
  rw [← hu]
  have hul : u ≤ xs.length := by rw [hu]; unfold upTo; omega
  have hc1 := cut_l p xs.length c u hul
  have hc2 := cut_h p xs.length c u (by omega)
  have hsl : ∃ pa la ca pb lb cb, sliced p u xs.length c 1 = .slice pa la ca ∧ sliced p 0 u c 1 = .slice pb lb cb := ⟨_, _, _, _, _, _, rfl, rfl⟩
  obtain ⟨pa, la, ca, pb, lb, cb, ea, eb⟩ := hsl
  rw [ea] at hc1 ⊢
  rw [eb] at hc2 ⊢
  have hz2 : ¬ (N = 0) := by omega
  have hw : IntKind.i64.wrap ((h : Int) + (u : Int)) = (h : Int) + (u : Int) := IntWalk.i64_in _ (by omega)
  have hw2 : IntKind.i64.wrap (((h : Int) + (u : Int)).tmod (N : Int)) = (((h + u) % N : Nat) : Int) := by
    have : ((h : Int) + (u : Int)).tmod (N : Int) = (((h + u) % N : Nat) : Int) := by rw [← Int.natCast_add]; rfl
    rw [this]
    have := Nat.mod_lt (h + u) (show 0 < N by omega)
    exact IntWalk.i64_in _ (by omega)
  have hlen : (xs.length : Int) ≤ 65536 := by omega
  have tm : ((h : Int) + (u : Int)).tmod (N : Int) = (((h + u) % N : Nat) : Int) := by rw [← Int.natCast_add]; rfl
  have TM := Lib.hid tm
  clear tm
  by_cases q0 : q < 0
  · obtain rfl : u = 0 := by rw [hu]; unfold upTo; omega
    simp only [Int.natCast_zero, Int.add_zero, Nat.add_zero] at hc1 hc2 hw hw2 ⊢
    clear hu ea eb
    go_enter Try.func14, Try.ntmps14
    go_wp2_with fail
    go_region_held3 (fun w' => w'.cell? ⟨w.heap.size, 0, none⟩ = some (.int .i64 (N : Int)) ∧ w'.cell? ⟨w.heap.size, 1, none⟩ = some (.int .i64 (h : Int)) ∧ w'.cell? ⟨w.heap.size, 2, none⟩ = some (.slice p xs.length c)) (go_keep) (fail)
    go_wp2_with fail
    refine bodyPost_ret (results_row_tmp rfl _ _ (w.heap.size + 1) 31 _ (0, 0) _ rfl (heap_alloc2_new w _ _) Try.underlying31 rfl (by kernel_rfl)) rfl ?_
    have tm := TM.out
    refine ⟨?_, (((Below.refl _ w).alloc (Nat.le_refl _) _).alloc (by simp) _).drew⟩
    first | (rw [← tm]; rfl) | (simp at tm ⊢; try exact tm)
  · by_cases q1 : (xs.length : Int) < q
    · obtain rfl : u = xs.length := by rw [hu]; unfold upTo; omega
      clear hu ea eb
      go_enter Try.func14, Try.ntmps14
      go_wp2_with fail
      go_region_held3 (fun w' => w'.cell? ⟨w.heap.size, 0, none⟩ = some (.int .i64 (N : Int)) ∧ w'.cell? ⟨w.heap.size, 1, none⟩ = some (.int .i64 (h : Int)) ∧ w'.cell? ⟨w.heap.size, 2, none⟩ = some (.slice p xs.length c)) (go_keep) (fail)
      go_wp2_with fail
      refine bodyPost_ret (results_row_tmp rfl _ _ (w.heap.size + 1) 31 _ (0, 0) _ rfl (heap_alloc2_new w _ _) Try.underlying31 rfl (by kernel_rfl)) rfl ?_
      have tm := TM.out
      refine ⟨?_, (((Below.refl _ w).alloc (Nat.le_refl _) _).alloc (by simp) _).drew⟩
      first | (rw [← tm]; rfl) | (simp at tm ⊢; try exact tm)
    · obtain rfl : q = (u : Int) := by rw [hu]; unfold upTo; omega
      clear hu ea eb
      go_enter Try.func14, Try.ntmps14
      go_wp2_with fail
      go_region_held3 (fun w' => w'.cell? ⟨w.heap.size, 0, none⟩ = some (.int .i64 (N : Int)) ∧ w'.cell? ⟨w.heap.size, 1, none⟩ = some (.int .i64 (h : Int)) ∧ w'.cell? ⟨w.heap.size, 2, none⟩ = some (.slice p xs.length c)) (go_keep) (fail)
      go_wp2_with fail
      refine bodyPost_ret (results_row_tmp rfl _ _ (w.heap.size + 1) 31 _ (0, 0) _ rfl (heap_alloc2_new w _ _) Try.underlying31 rfl (by kernel_rfl)) rfl ?_
      have tm := TM.out
      refine ⟨?_, (((Below.refl _ w).alloc (Nat.le_refl _) _).alloc (by simp) _).drew⟩
      first | (rw [← tm]; rfl) | (simp at tm ⊢; try exact tm)

end Go.Proofs.Ytbpbiliekbkciaa
