/- The program's clock as its callers see it: what its functions have to answer, over any way in which it lies in memory (C R x M W: the clock at the block R stands as x; M: its blocks). The laws go by these forms; what the program does is held against them apart. -/
import Derived.Test.YtcmkdeejofoibaaClkMap
import Derived.Test.YtcmkdeejofoibaaRangeOwn
namespace Go.Proofs.Ytcmkdeejofoibaa
open Go.ChangeShapes Go.WideShapes Go.ChangeAt Go.RowKit
open Ck
set_option linter.unusedVariables false
set_option maxRecDepth 100000

/-- Of what lay before only blocks of M are written; those of N are M's, or new. -/
structure Mv15 (M N : Nat → Prop) (A B : World) : Prop where
  os : B.os = A.os
  tape : B.tape = A.tape
  output : B.output = A.output
  size : A.heap.size ≤ B.heap.size
  block : ∀ k, k < A.heap.size → ¬ M k → B.heap[k]? = A.heap[k]?
  sub : ∀ k, N k → M k ∨ A.heap.size ≤ k
theorem Mv15.of_below {M : Nat → Prop} {A B : World} (h : Below A.heap.size A B) : Mv15 M M A B := ⟨h.os, h.tape, h.output, h.size, fun k hk _ => h.block k hk, fun k hk => .inl hk⟩
theorem Mv15.below {M N : Nat → Prop} {w A B : World} (h : Mv15 M N A B) (hb : Below w.heap.size w A) (hm : ∀ g, M g → w.heap.size ≤ g) : Below w.heap.size w B ∧ ∀ g, N g → w.heap.size ≤ g := by
  have hs := hb.size
  refine ⟨hb.trans ⟨h.os, h.tape, h.output, h.size, fun k hk => h.block k (by omega) fun e => by have := hm k e; omega⟩, fun g hg => ?_⟩
  rcases h.sub g hg with h1 | h1
  · exact hm g h1
  · omega

/-- What holds of a clock in these laws. -/
structure Fit (x : Cs) : Prop where
  ok : Ok x
  now0 : 0 ≤ x.now
  now1 : x.now ≤ 1099511627776
  due : ∀ t ∈ x.l, x.now < t.due ∧ t.due ≤ x.now + 1073741824
  len : x.l.length ≤ 1000
  idw : ∀ t ∈ x.l, -9223372036854775808 ≤ t.id ∧ t.id ≤ 9223372036854775807
theorem Fit.small {x : Cs} (h : Fit x) : Small x := ⟨h.now0, by have := h.now1; omega, fun t ht => by have := h.due t ht; have := h.now0; have := h.now1; omega⟩

/-- A timer as it is handed over. -/
abbrev tmA (t : Tm) : Array Value := #[.int .i64 t.id, .int .i64 t.due]
structure Forms15 (C : Nat → Cs → (Nat → Prop) → World → Prop) : Prop where
  lt : ∀ {R x M W}, C R x M W → ∀ g, M g → g < W.heap.size
  keep : ∀ {R x M W W'}, C R x M W → (∀ g, M g → W'.heap[g]? = W.heap[g]?) → C R x M W'
  new : ∀ (w : World), Calls Try.prog 8 #[] w fun e w' => ∃ R M, e = .returned (.pointer (some ⟨R, 0, none⟩)) ∧ C R ⟨0, []⟩ M w' ∧ Below w.heap.size w w' ∧ ∀ g, M g → w.heap.size ≤ g
  set : ∀ {R x M} (id n : Int) (w : World), -9223372036854775808 ≤ id → id ≤ 9223372036854775807 → C R x M w → Fit x → Calls Try.prog 9 #[.pointer (some ⟨R, 0, none⟩), .int .i64 id, .int .i64 n] w fun e w' => e = .returned (.int .i64 (setE n)) ∧ ∃ N, C R (setC x id n) N w' ∧ Mv15 M N w w'
  clear : ∀ {R x M} (id : Int) (w : World), -9223372036854775808 ≤ id → id ≤ 9223372036854775807 → C R x M w → Fit x → Calls Try.prog 11 #[.pointer (some ⟨R, 0, none⟩), .int .i64 id] w fun e w' => e = .returned (.int .i64 (clearE x id)) ∧ ∃ N, C R (clearC x id) N w' ∧ Mv15 M N w w'
  left : ∀ {R x M} (id : Int) (w : World), -9223372036854775808 ≤ id → id ≤ 9223372036854775807 → C R x M w → Fit x → Calls Try.prog 16 #[.pointer (some ⟨R, 0, none⟩), .int .i64 id] w fun e w' => e = .returned (.tuple #[.int .i64 (leftC x id).1, .bool (leftC x id).2]) ∧ Below w.heap.size w w'
  now : ∀ {R x M} (w : World), C R x M w → Calls Try.prog 18 #[.pointer (some ⟨R, 0, none⟩)] w fun e w' => e = .returned (.int .i64 x.now) ∧ w = w'
  adv : ∀ {R x M} (n : Int) (w : World), C R x M w → Fit x → Calls Try.prog 13 #[.pointer (some ⟨R, 0, none⟩), .int .i64 n] w fun e w' => ∃ p c, e = .returned (.tuple #[.slice p (advL x n).length c, .int .i64 (advE n)]) ∧ IS w' (.slice p (advL x n).length c) (advL x n) ∧ (∀ g, (Value.slice p (advL x n).length c).ownBlock = some g → w.heap.size ≤ g ∧ g < w'.heap.size) ∧ ∃ N, C R (advC x n) N w' ∧ Mv15 M N w w' ∧ ∀ g, (Value.slice p (advL x n).length c).ownBlock = some g → ¬ N g
  timers : ∀ {R x M} (w : World), C R x M w → Calls Try.prog 20 #[.pointer (some ⟨R, 0, none⟩)] w fun e w' => ∃ B, e = .returned (.func (.func 22) #[] #[.pointer (some ⟨B, 0, none⟩)]) ∧ w'.heap[B]? = some (.cells #[.pointer (some ⟨R, 0, none⟩)] 24 (0, 0)) ∧ w.heap.size ≤ B ∧ Below w.heap.size w w'
  seq : ∀ (R : Nat) (x : Cs) (M : Nat → Prop) (B : Nat), Ok x → x.l.length ≤ 1000000 → SeqH Try.prog 22 #[.pointer (some ⟨B, 0, none⟩)] (x.l.map tmA) (fun W => W.heap[B]? = some (.cells #[.pointer (some ⟨R, 0, none⟩)] 24 (0, 0)) ∧ C R x M W)

section
variable {C : Nat → Cs → (Nat → Prop) → World → Prop}
theorem Forms15.below (F : Forms15 C) {R x M W W'} (h : C R x M W) (hb : Below W.heap.size W W') : C R x M W' := F.keep h fun g hg => hb.block g (F.lt h g hg)
end

namespace Ck
theorem fit_new : Fit ⟨0, []⟩ := ⟨⟨List.Pairwise.nil, List.Pairwise.nil⟩, Int.le_refl _, by decide, fun t ht => by simp at ht, by simp, fun t ht => by simp at ht⟩
theorem fit_set {x : Cs} (h : Fit x) (id n : Int) (hl : x.l.length + 1 ≤ 1000) (hi : -9223372036854775808 ≤ id ∧ id ≤ 9223372036854775807) : Fit (setC x id n) := by
  unfold setC
  cases hb : badN n 1 with
  | true => exact h
  | false =>
    have hn : 1 ≤ n ∧ n ≤ 1073741824 := by unfold badN at hb; simp at hb; omega
    have ho := set_ok h.ok id n
    unfold setC at ho
    rw [hb] at ho
    refine ⟨ho, h.now0, h.now1, fun t ht => ?_, ?_, fun t ht => ?_⟩
    · rcases ins_mem ht with rfl | ht
      · show x.now < x.now + n ∧ x.now + n ≤ x.now + 1073741824
        omega
      · exact h.due t ((wo_sub _ _).subset ht)
    · show (ins _ _).length ≤ 1000
      rw [ins_len]
      have := wo_len x.l id
      omega
    · rcases ins_mem ht with rfl | ht
      · exact hi
      · exact h.idw t ((wo_sub _ _).subset ht)
theorem fit_clear {x : Cs} (h : Fit x) (id : Int) : Fit (clearC x id) := by
  have ho := clear_ok h.ok id
  unfold clearC at ho ⊢
  split
  · rename_i hh
    rw [if_pos hh] at ho
    exact ⟨ho, h.now0, h.now1, fun t ht => h.due t ((wo_sub _ _).subset ht), Nat.le_trans (wo_len _ _) h.len, fun t ht => h.idw t ((wo_sub _ _).subset ht)⟩
  · exact h
theorem fit_adv {x : Cs} (h : Fit x) (n : Int) (hn : x.now + 1073741824 ≤ 1099511627776) : Fit (advC x n) := by
  have ho := adv_ok h.ok n
  unfold advC at ho ⊢
  cases hb : badN n 0 with
  | true => exact h
  | false =>
    have hn2 : 0 ≤ n ∧ n ≤ 1073741824 := by unfold badN at hb; simp at hb; omega
    rw [hb] at ho
    have h0 := h.now0
    refine ⟨ho, by show 0 ≤ x.now + n; omega, by show x.now + n ≤ _; omega, fun t ht => ?_, Nat.le_trans (List.length_filter_le _ _) h.len, fun t ht => h.idw t (List.filter_sublist.subset ht)⟩
    have ht' : t ∈ x.l.filter fun t => decide (x.now + n < t.due) := ht
    simp only [List.mem_filter, decide_eq_true_eq] at ht'
    have := h.due t ht'.1
    show x.now + n < t.due ∧ t.due ≤ x.now + n + 1073741824
    omega
end Ck

end Go.Proofs.Ytcmkdeejofoibaa
