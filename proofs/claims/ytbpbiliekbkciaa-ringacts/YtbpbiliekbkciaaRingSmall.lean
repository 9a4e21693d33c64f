/- A ring in memory; the ring's small functions. -/
import Derived.Test.YtbpbiliekbkciaaByteMem
import Derived.WalkKit
import Derived.WalkLawsBesides
import Derived.ProofKit
import Derived.OpenShut
import Derived.Handy
import Derived.Outline
import Derived.Lib.Hide
import Derived.Deep.QuietTactic
import Derived.BigQuiet
import Derived.Deep.RegionWith
import Derived.Deep.RegionHeld3
import Derived.Deep.RegionLaw
import Derived.Deep.DeepMust
import Derived.Lib.Walk
import Derived.Shelf.RegionOpenPlain
import Derived.Shelf.RegionOpen
import Derived.Shelf.Abstract
import Derived.TacticsInMore
import Derived.LoopNIn
import Derived.LoopIn
namespace Go.Proofs.Ytbpbiliekbkciaa
open Go.ChangeShapes Go.WideShapes Go.ChangeAt Go.RowKit
set_option linter.unusedVariables false

/-- The ring at block R, its array at block M: size N, head h, k bytes held, the array's bytes cs. -/
structure RingAt (W : World) (R M N h k : Nat) (cs : List UInt8) : Prop where
  ring : W.heap[R]? = some (.cells #[.slice (some ⟨M, 0, none⟩) N N, .int .i64 (h : Int), .int .i64 (k : Int)] 57 (0, 0))
  room : W.heap[M]? = some (.cells (bv cs).toArray 5 (0, 0))
  len : cs.length = N
  hh : h < N
  hk : k ≤ N
  hN : N ≤ 65536
  ne : R ≠ M
theorem RingAt.c0 {W : World} {R M N h k : Nat} {cs : List UInt8} (H : RingAt W R M N h k cs) : W.cell? ⟨R, 0, none⟩ = some (.slice (some ⟨M, 0, none⟩) N N) := by simp [World.cell?, H.ring]
theorem RingAt.c1 {W : World} {R M N h k : Nat} {cs : List UInt8} (H : RingAt W R M N h k cs) : W.cell? ⟨R, 1, none⟩ = some (.int .i64 (h : Int)) := by simp [World.cell?, H.ring]
theorem RingAt.c2 {W : World} {R M N h k : Nat} {cs : List UInt8} (H : RingAt W R M N h k cs) : W.cell? ⟨R, 2, none⟩ = some (.int .i64 (k : Int)) := by simp [World.cell?, H.ring]
theorem RingAt.f {W : World} {R M N h k : Nat} {cs : List UInt8} (H : RingAt W R M N h k cs) (i : Nat) : W.frozen? ⟨R, i, none⟩ = false := by simp [World.frozen?, H.ring]
theorem RingAt.kept {W W' : World} {R M N h k : Nat} {cs : List UInt8} (H : RingAt W R M N h k cs) (h1 : W'.heap[R]? = W.heap[R]?) (h2 : W'.heap[M]? = W.heap[M]?) : RingAt W' R M N h k cs :=
  ⟨h1.trans H.ring, h2.trans H.room, H.len, H.hh, H.hk, H.hN, H.ne⟩
theorem RingAt.lt {W : World} {R M N h k : Nat} {cs : List UInt8} (H : RingAt W R M N h k cs) : R < W.heap.size ∧ M < W.heap.size :=
  ⟨(Array.getElem?_eq_some_iff.1 H.ring).1, (Array.getElem?_eq_some_iff.1 H.room).1⟩
theorem RingAt.below {W W' : World} {R M N h k : Nat} {cs : List UInt8} (H : RingAt W R M N h k cs) (hb : Below W.heap.size W W') : RingAt W' R M N h k cs :=
  H.kept (hb.block _ H.lt.1) (hb.block _ H.lt.2)

theorem RingAt.drew {W : World} {R M N h k : Nat} {cs : List UInt8} (H : RingAt W R M N h k cs) : RingAt W.drew R M N h k cs := H.kept rfl rfl
theorem RingAt.drewN {W : World} {R M N h k : Nat} {cs : List UInt8} (H : RingAt W R M N h k cs) (m : Nat) : RingAt (W.drewN m) R M N h k cs := H.kept rfl rfl
theorem RingAt.alloc {W : World} {R M N h k : Nat} {cs : List UInt8} (H : RingAt W R M N h k cs) (o : Obj) : RingAt (W.alloc o) R M N h k cs := H.below ((Below.refl _ W).alloc (Nat.le_refl _) _)

theorem len_any (w : World) (R M N h k : Nat) (cs : List UInt8) (H : RingAt w R M N h k cs) :
    Calls Try.prog 20 #[.pointer (some ⟨R, 0, none⟩)] w fun e w' => e = .returned (.int .i64 (k : Int)) ∧ w = w' := by
  have h2 := H.c2
  go_enter Try.func20, Try.ntmps20
  go_wp2_with fail
  go_ret
  exact ⟨rfl, rfl⟩
theorem head_any (w : World) (R M N h k : Nat) (cs : List UInt8) (H : RingAt w R M N h k cs) :
    Calls Try.prog 24 #[.pointer (some ⟨R, 0, none⟩)] w fun e w' => e = .returned (.int .i64 (h : Int)) ∧ w = w' := by
  have h1 := H.c1
  go_enter Try.func24, Try.ntmps24
  go_wp2_with fail
  go_ret
  exact ⟨rfl, rfl⟩
theorem free_any (w : World) (R M N h k : Nat) (cs : List UInt8) (H : RingAt w R M N h k cs) :
    Calls Try.prog 21 #[.pointer (some ⟨R, 0, none⟩)] w fun e w' => e = .returned (.int .i64 ((N - k : Nat) : Int)) ∧ ∃ m, w' = w.drewN m := by
  have h0 := H.c0
  have h2 := H.c2
  have hk := H.hk
  have hN := H.hN
  go_enter Try.func21, Try.ntmps21
  go_wp2_with fail
  go_quiet (fail)
  go_wp2
  go_ret
  refine ⟨?_, _, rfl⟩
  go_num

/-- How many bytes there are where q are asked for. -/
def upTo (q : Int) (k : Nat) : Nat := min q.toNat k
theorem within_any (w : World) (R M N h k : Nat) (cs : List UInt8) (q : Int) (H : RingAt w R M N h k cs) :
    Calls Try.prog 27 #[.pointer (some ⟨R, 0, none⟩), .int .i64 q] w fun e w' => e = .returned (.int .i64 (upTo q k : Int)) ∧ w = w' := by
  have h2 := H.c2
  go_enter Try.func27, Try.ntmps27
  go_wp2_with fail
  go_ret
  refine ⟨?_, rfl⟩
  unfold upTo
  go_num
theorem place_cells (w : World) (R M N h : Nat) (q : Nat) (hq : q ≤ N) (hN : N ≤ 65536) (hh : h < N) (h0 : w.cell? ⟨R, 0, none⟩ = some (.slice (some ⟨M, 0, none⟩) N N)) (h1 : w.cell? ⟨R, 1, none⟩ = some (.int .i64 (h : Int))) :
    Calls Try.prog 28 #[.pointer (some ⟨R, 0, none⟩), .int .i64 (q : Int)] w fun e w' => e = .returned (.int .i64 (((h + q) % N : Nat) : Int)) ∧ ∃ m, w' = w.drewN m := by
  have hz : ((N : Int) == 0) = false := by simp; omega
  have hw : IntKind.i64.wrap ((h : Int) + (q : Int)) = (h : Int) + (q : Int) := IntWalk.i64_in _ (by omega)
  have hw2 : IntKind.i64.wrap (((h : Int) + (q : Int)).tmod (N : Int)) = (((h + q) % N : Nat) : Int) := by
    have : ((h : Int) + (q : Int)).tmod (N : Int) = (((h + q) % N : Nat) : Int) := by rw [← Int.natCast_add]; rfl
    rw [this]
    have := Nat.mod_lt (h + q) (show 0 < N by omega)
    exact IntWalk.i64_in _ (by omega)
  go_enter Try.func28, Try.ntmps28
  go_wp2_with fail
  go_quiet (fail)
  go_wp2
  go_ret
  refine ⟨?_, _, rfl⟩
  go_num
theorem place_any (w : World) (R M N h k : Nat) (cs : List UInt8) (q : Nat) (hq : q ≤ N) (H : RingAt w R M N h k cs) :
    Calls Try.prog 28 #[.pointer (some ⟨R, 0, none⟩), .int .i64 (q : Int)] w fun e w' => e = .returned (.int .i64 (((h + q) % N : Nat) : Int)) ∧ ∃ m, w' = w.drewN m :=
  place_cells w R M N h q hq H.hN H.hh H.c0 H.c1

theorem byte_zeros (n : Nat) : (madeCells (Value.int .u8 0).cells (n * 1)).toList = bv (List.replicate n 0) := by
  apply List.ext_getElem?
  intro j
  by_cases hj : j < n
  · simp [madeCells, bv, hj, Value.cells, Nat.mod_one]
  · simp [madeCells, bv, hj]
theorem new_bad (w : World) (q : Int) (hq : q < 1 ∨ 65536 < q) :
    Calls Try.prog 10 #[.int .i64 q] w fun e w' => e = .returned (.tuple #[.pointer none, .int .i64 1]) ∧ w = w' := by
  by_cases h1 : q < 1
  · go_enter Try.func10, Try.ntmps10
    go_wp2_with fail
    go_ret2
    exact ⟨rfl, rfl⟩
  · have h2 : 65536 < q := by omega
    have h3 : 1 ≤ q := by omega
    clear hq
    go_enter Try.func10, Try.ntmps10
    go_wp2_with fail
    go_ret2
    exact ⟨rfl, rfl⟩
theorem own_full {W : World} {base g n : Nat} {xs : List UInt8} (h : W.ownsRow base 5 1 (.slice (some ⟨g, 0, none⟩) n n) n (bv xs)) : W.heap[g]? = some (.cells (bv xs).toArray 5 (0, 0)) := by
  rcases h.2 with ⟨e, _⟩ | ⟨g', cap, cur, e, _, hh, _, _, h3, h4⟩
  · cases e
  · cases e
    rw [hh]
    have : cur = (bv xs).toArray := by
      rw [← h4, List.take_of_length_le (by simp; omega)]
    rw [this]
theorem new_any (w : World) (N : Nat) (h1 : 1 ≤ N) (h2 : N ≤ 65536) :
    Calls Try.prog 10 #[.int .i64 (N : Int)] w fun e w' => ∃ R M, e = .returned (.tuple #[.pointer (some ⟨R, 0, none⟩), .int .i64 0]) ∧ RingAt w' R M N 0 0 (List.replicate N 0) ∧ w.heap.size ≤ R ∧ w.heap.size ≤ M ∧ Below w.heap.size w w' := by
  obtain ⟨i0, hi, hz0, hz1, hz2⟩ := info_parts byte_info
  obtain ⟨w1, hmk, hrow, hg⟩ := run_make_full (P := Try.prog) w w.heap.size 29 5 i0 _ 1 Try.underlying29 hi hz0 hz1 .i64 .i64 N (by rw [hz2]; omega) (by simp only [maxLen]; omega) (Nat.le_refl _)
  have g1 : (1 : Int) ≤ (N : Int) := by omega
  have g2 : (N : Int) ≤ 65536 := by omega
  rw [byte_zeros] at hrow
  have HR := Lib.hid hrow
  have HG := Lib.hid hg
  clear hrow hg
  go_enter Try.func10, Try.ntmps10
  go_wp2_with fail
  go_ret2
  have hm := own_full HR.out
  have hlt := (Array.getElem?_eq_some_iff.1 hm).1
  have hB : Below w.heap.size w w1 := (Below.refl _ w).grown HG.out (Nat.le_refl _) (fun k h => by cases h)
  exact ⟨w1.heap.size, w.heap.size, rfl, ⟨World.alloc_heap_new w1 _, (Below.heap_alloc _ _ _ hlt).trans hm, by simp, by omega, by omega, h2, by omega⟩, hB.size, Nat.le_refl _, hB.alloc hB.size _⟩

/-- All but the ring's two blocks lies as it lay. -/
structure Only (R M : Nat) (A B : World) : Prop where
  os : B.os = A.os
  tape : B.tape = A.tape
  output : B.output = A.output
  size : A.heap.size ≤ B.heap.size
  block : ∀ k, k < A.heap.size → k ≠ R → k ≠ M → B.heap[k]? = A.heap[k]?
theorem Only.below {R M n : Nat} {w A B : World} (h : Only R M A B) (hb : Below n w A) (hR : n ≤ R) (hM : n ≤ M) (hs : n ≤ A.heap.size) : Below n w B :=
  hb.trans ⟨h.os, h.tape, h.output, h.size, fun k hk => h.block k (by omega) (by omega) (by omega)⟩
theorem Only.trans {R M : Nat} {A B C : World} (h : Only R M A B) (g : Only R M B C) : Only R M A C :=
  ⟨g.os.trans h.os, g.tape.trans h.tape, g.output.trans h.output, Nat.le_trans h.size g.size, fun k hk h0 h1 => (g.block k (Nat.lt_of_lt_of_le hk h.size) h0 h1).trans (h.block k hk h0 h1)⟩
theorem Only.of_below {R M : Nat} {A B : World} (h : Below A.heap.size A B) : Only R M A B := ⟨h.os, h.tape, h.output, h.size, fun k hk _ _ => h.block k hk⟩
theorem Only.set {R M : Nat} (A : World) (i : Nat) (v : Value) : Only R M A (A.setCell ⟨R, i, none⟩ v) := ⟨rfl, rfl, rfl, by simp [World.setCell], fun k _ h _ => Below.heap_setCell _ _ _ _ h⟩
theorem Only.drew {R M : Nat} {A B : World} (h : Only R M A B) : Only R M A B.drew := ⟨h.os, h.tape, h.output, h.size, h.block⟩
theorem Only.rd {R M : Nat} {A B : World} {v : Value} {xs : List UInt8} (h : Only R M A B) (hv : RD A v xs) (h0 : v.ownBlock ≠ some R) (h1 : v.ownBlock ≠ some M) : RD B v xs :=
  hv.same fun k hk hlt => h.block k hlt (fun e => h0 (by rw [hk, e])) (fun e => h1 (by rw [hk, e]))
theorem drop_any (w : World) (R M N h k : Nat) (cs : List UInt8) (q : Int) (H : RingAt w R M N h k cs) :
    Calls Try.prog 18 #[.pointer (some ⟨R, 0, none⟩), .int .i64 q] w fun e w' => e = .returned (.int .i64 (upTo q k : Int)) ∧ RingAt w' R M N ((h + upTo q k) % N) (k - upTo q k) cs ∧ Only R M w w' := by
  have hu : upTo q k ≤ k := by unfold upTo; omega
  have hk := H.hk
  have hh := H.hh
  have hN := H.hN
  have hc := within_any w R M N h k cs q H
  generalize upTo q k = u at hu hc ⊢
  have hp := place_any w R M N h k cs u (by omega) H
  have hf := H.f
  have h1 := H.c1
  have h2 := H.c2
  have HH := Lib.hid H
  clear H
  go_enter Try.func18, Try.ntmps18
  go_wp2_with (first
    | (go_at_call 27; refine hc.mono ?_; rintro e w' ⟨rfl, rfl⟩)
    | (go_at_call 28; refine hp.mono ?_; rintro e w' ⟨rfl, m, rfl⟩))
  go_ret
  have H := HH.out
  refine ⟨rfl, ⟨?_, ?_, H.len, Nat.mod_lt _ (by omega), by omega, hN, H.ne⟩, ?_⟩
  · refine (heap_set _ (heap_set _ (show (w.drewN m).heap[R]? = _ from H.ring))).trans ?_
    have e1 : ((h : Int) + (u : Int)) % (N : Int) = (((h + u) % N : Nat) : Int) := by simp
    have e2 : (k : Int) - (u : Int) = ((k - u : Nat) : Int) := by omega
    rw [e1, e2]; rfl
  · exact (Below.heap_setCell _ _ _ _ (Ne.symm H.ne)).trans ((Below.heap_setCell _ _ _ _ (Ne.symm H.ne)).trans H.room)
  · exact Only.trans (Only.trans (Only.of_below (show Below w.heap.size w (w.drewN m) from ⟨rfl, rfl, rfl, Nat.le_refl _, fun _ _ => rfl⟩)) (Only.set _ _ _)) (Only.set _ _ _)

end Go.Proofs.Ytbpbiliekbkciaa
