/- A list of calls that came in as an argument, opened. -/
import Derived.Test.YtabikfckmjfllaaCreditLoop
import Derived.Deep.Slices
import Derived.Deep.Strs
namespace Go.Proofs.Ytabikfckmjfllaa
open Go.ChangeShapes Go.WideShapes Go.ChangeAt Go.RowKit Go.Deep
set_option linter.unusedVariables false

theorem gather2 {α : Type} {P : Nat → α → Prop} (n : Nat) (h : ∀ i, i < n → ∃ o, P i o) : ∃ os : List α, os.length = n ∧ ∀ i o, os[i]? = some o → P i o := by
  induction n with
  | zero => exact ⟨[], rfl, fun i o hi => by simp at hi⟩
  | succ n ih =>
    obtain ⟨os, h1, h2⟩ := ih (fun i hi => h i (by omega))
    obtain ⟨o, ho⟩ := h n (by omega)
    refine ⟨os ++ [o], by simp [h1], fun i o' hi => ?_⟩
    by_cases e : i < n
    · rw [List.getElem?_append_left (by omega)] at hi
      exact h2 i o' hi
    · rw [List.getElem?_append_right (by omega)] at hi
      have hi0 : i - os.length = 0 := by
        have := (List.getElem?_eq_some_iff.1 hi).1
        simp at this
        omega
      rw [hi0] at hi
      cases hi
      obtain rfl : i = n := by omega
      exact ho

theorem open_calls {H : Type} {enc : TypeId × Value → H} {W : World} {fuel : Nat} {a1 : Option Addr} {len cap : Nat} {x : DataW H × List MemPlace}
    (h : DataW.trod enc Try.prog W 0 (fun _ => true) true fuel 22 [.slice a1 len cap] = some x) :
    ∃ os : List CallV, os.length = len ∧ CallsAt W a1 os ∧ os.length ≤ 9223372036854775807 ∧ ∀ o ∈ os, -9223372036854775808 ≤ o.n ∧ o.n ≤ 9223372036854775807 := by
  rcases open_slice Try.underlying22 h with ⟨hcs, _⟩ | ⟨a, l, c, m, n, D, Pl, hcs, _, hl, hm, hmm, _, hi⟩
  · simp at hcs
    obtain ⟨rfl, rfl, rfl⟩ := hcs
    exact ⟨[], rfl, fun i o hi => by simp at hi, by simp, fun o ho => by simp at ho⟩
  · simp at hcs
    obtain ⟨rfl, rfl, rfl⟩ := hcs
    have hc3 : Try.prog.cellsOf 31 = 2 := by kernel_rfl
    have k1 : Try.prog.cellsOf 5 = 1 := by kernel_rfl
    have k3 : Try.prog.cellsOf 3 = 1 := by kernel_rfl
    simp at hmm
    subst hmm
    obtain ⟨os, h1, h2⟩ := gather2 (P := fun i (o : CallV) => (W.cell? (a.add (i * 2)) = some (.int .u8 (o.kind.toNat : Int)) ∧ W.cell? ⟨(a.add (i * 2)).block, (a.add (i * 2)).off + 1, none⟩ = some (.int .i64 o.n)) ∧ -9223372036854775808 ≤ o.n ∧ o.n ≤ 9223372036854775807) len (fun i hil => by
      obtain ⟨cs, hcs, ht⟩ := hi i (by omega)
      rw [hc3] at hcs
      obtain ⟨_, hcl, hat⟩ := World.cells?_some hcs
      obtain ⟨y0, y1, n', _, _, t0, t1⟩ := trod_struct2 Try.underlying31 ht
      match cs, hcl with
      | [c0, c1], _ =>
        have g0 := hat 0 (by decide)
        have g1 := hat 1 (by decide)
        simp only [k1, k3, List.drop_zero, List.drop_succ_cons, List.take_succ_cons, List.take_zero] at t0 t1
        obtain ⟨z0, e0, _, b0⟩ := DataW.trod_int Try.underlying5 t0
        obtain ⟨z2, e2, _, b2⟩ := DataW.trod_int Try.underlying3 t1
        have bz := bounds_u8 b0
        have bn := bounds_i64 b2
        simp only [List.cons.injEq, and_true] at e0 e2
        subst e0
        subst e2
        refine ⟨⟨UInt8.ofNat z0.toNat, z2⟩, ⟨?_, ?_⟩, bn⟩
        · rw [Addr.add_zero'] at g0
          rw [g0]
          simp
          omega
        · have : (a.add (i * 2)).add 1 = ⟨(a.add (i * 2)).block, (a.add (i * 2)).off + 1, none⟩ := Addr.add_succ' _ 0
          rw [this] at g1
          exact g1)
    refine ⟨os, h1, fun i o hio => ⟨a, rfl, (h2 i o hio).1⟩, by rw [h1]; simp only [maxLen] at hm; omega, fun o ho => ?_⟩
    obtain ⟨i, hi', hi''⟩ := List.mem_iff_getElem.1 ho
    exact (h2 i o (by rw [List.getElem?_eq_getElem hi', hi''])).2

end Go.Proofs.Ytabikfckmjfllaa
