/- A source: where it lies; what isEnd, hand, pass, atEnd, Reads and Shut answer. -/
import Derived.Test.YtnmjdpmfmbgoeaaRRRWireMem
import Derived.Deep.Cut
namespace Go.Proofs.YtnmjdpmfmbgoeaaRRR
open Go.ChangeShapes Go.WideShapes Go.ChangeAt Go.RowKit
open Wr
set_option linter.unusedVariables false
set_option maxRecDepth 100000

/-- The five cells. -/
abbrev srcCells (p : Option Addr) (n c : Nat) (b : Nat) (e : Int) (r : Nat) (sh : Bool) : Array Value := #[.slice p n c, .int .i64 (b : Int), .int .i64 e, .int .i64 (r : Int), .bool sh]
theorem five16 {A : World} {R : Nat} {x0 x1 x2 x3 x4 : Value} {t : TypeId} (h : A.heap[R]? = some (.cells #[x0, x1, x2, x3, x4] t (0, 0))) :
    (A.cell? ⟨R, 0, none⟩ = some x0 ∧ A.cell? ⟨R, 1, none⟩ = some x1 ∧ A.cell? ⟨R, 2, none⟩ = some x2 ∧ A.cell? ⟨R, 3, none⟩ = some x3 ∧ A.cell? ⟨R, 4, none⟩ = some x4) ∧ ∀ i, A.frozen? ⟨R, i, none⟩ = false := by
  simp [World.cell?, World.frozen?, h]
/-- A source at R holds the pieces L, of the first of which b bytes were handed out; M: its blocks. -/
structure SrcLB (R : Nat) (L : List (List UInt8)) (b : Nat) (e : Int) (r : Nat) (sh : Bool) (M : Nat → Prop) (p : Option Addr) (c : Nat) (W : World) : Prop where
  blk : W.heap[R]? = some (.cells (srcCells p L.length c b e r sh) 47 (0, 0))
  cs : CSK (fun g => M g ∧ g ≠ R) W (.slice p L.length c) L
  mr : M R
  lt : ∀ g, M g → g < W.heap.size
  fits : Fits L b
section
variable {R : Nat} {L : List (List UInt8)} {x : List UInt8} {t : List (List UInt8)} {b : Nat} {e : Int} {r : Nat} {sh : Bool} {M : Nat → Prop} {p : Option Addr} {c : Nat} {W W' : World}
theorem SrcLB.ltR (h : SrcLB R L b e r sh M p c W) : R < W.heap.size := h.lt R h.mr
theorem SrcLB.keep (h : SrcLB R L b e r sh M p c W) (hk : ∀ g, M g → W'.heap[g]? = W.heap[g]?) : SrcLB R L b e r sh M p c W' := by
  refine ⟨(hk R h.mr).trans h.blk, h.cs.keep fun g hg _ => hk g hg.1, h.mr, fun g hg => ?_, h.fits⟩
  have h1 := Array.getElem?_eq_getElem (h.lt g hg)
  rw [← hk g hg] at h1
  exact (Array.getElem?_eq_some_iff.1 h1).1
theorem SrcLB.below (h : SrcLB R L b e r sh M p c W) (hb : Below W.heap.size W W') : SrcLB R L b e r sh M p c W' := h.keep fun g hg => hb.block g (h.lt g hg)
theorem set_size (A : World) (a : Addr) (v : Value) : (A.setCell a v).heap.size = A.heap.size := by simp [World.setCell]
/-- The first piece was let go. -/
theorem SrcLB.passed (h : SrcLB R (x :: t) b e r sh M p c W) {p' : Option Addr} {c' : Nat} (hc : CSK (fun g => M g ∧ g ≠ R) W (.slice p' t.length c') t) :
    SrcLB R t 0 e r sh M p' c' ((W.setCell ⟨R, 0, none⟩ (.slice p' t.length c')).setCell ⟨R, 1, none⟩ (.int .i64 0)) := by
  have hk : ∀ g, g ≠ R → ((W.setCell ⟨R, 0, none⟩ (.slice p' t.length c')).setCell ⟨R, 1, none⟩ (.int .i64 0)).heap[g]? = W.heap[g]? := fun g hg => (Below.heap_setCell _ _ _ _ hg).trans (Below.heap_setCell _ _ _ _ hg)
  refine ⟨?_, hc.keep fun g hg _ => hk g hg.2, h.mr, fun g hg => by rw [set_size, set_size]; exact h.lt g hg, ?_⟩
  · exact heap_set (i := 1) (.int .i64 0) (heap_set (i := 0) (.slice p' t.length c') h.blk)
  · cases t <;> simp [Fits]
/-- Some bytes of it were handed out. -/
theorem SrcLB.handed (h : SrcLB R (x :: t) b e r sh M p c W) (k : Nat) (hk : b + k ≤ x.length) : SrcLB R (x :: t) (b + k) e (r + k) sh M p c ((W.setCell ⟨R, 1, none⟩ (.int .i64 ((b + k : Nat) : Int))).setCell ⟨R, 3, none⟩ (.int .i64 ((r + k : Nat) : Int))) := by
  have hk' : ∀ g, g ≠ R → ((W.setCell ⟨R, 1, none⟩ (.int .i64 ((b + k : Nat) : Int))).setCell ⟨R, 3, none⟩ (.int .i64 ((r + k : Nat) : Int))).heap[g]? = W.heap[g]? := fun g hg => (Below.heap_setCell _ _ _ _ hg).trans (Below.heap_setCell _ _ _ _ hg)
  refine ⟨?_, h.cs.keep fun g hg _ => hk' g hg.2, h.mr, fun g hg => by rw [set_size, set_size]; exact h.lt g hg, hk⟩
  exact heap_set (i := 3) (.int .i64 ((r + k : Nat) : Int)) (heap_set (i := 1) (.int .i64 ((b + k : Nat) : Int)) h.blk)
theorem SrcLB.closed (h : SrcLB R L b e r sh M p c W) : SrcLB R L b e r true M p c (W.setCell ⟨R, 4, none⟩ (.bool true)) := by
  have hk : ∀ g, g ≠ R → (W.setCell ⟨R, 4, none⟩ (.bool true)).heap[g]? = W.heap[g]? := fun g hg => Below.heap_setCell _ _ _ _ hg
  refine ⟨?_, h.cs.keep fun g hg _ => hk g hg.2, h.mr, fun g hg => by rw [set_size]; exact h.lt g hg, h.fits⟩
  exact heap_set (i := 4) (.bool true) h.blk
end

/-- A block lies as it lay. -/
def Still16 (R : Nat) (A B : World) : Prop := B.heap[R]? = A.heap[R]?
theorem Still16.alloc {R : Nat} {A B : World} (h : Still16 R A B) (hlt : R < B.heap.size) (o : _) : Still16 R A (B.alloc o) := by
  unfold Still16 at *
  exact ((below_box B o).block R hlt).trans h
theorem Still16.made {R : Nat} {A B : World} (h : Still16 R A B) (hlt : R < A.heap.size) (o : _) : Still16 R A (B.alloc o) := by
  refine h.alloc ?_ o
  unfold Still16 at h
  rw [Array.getElem?_eq_getElem hlt] at h
  exact (Array.getElem?_eq_some_iff.1 h).1
theorem Still16.drew {R : Nat} {A B : World} (h : Still16 R A B) : Still16 R A B.drew := h
theorem Still16.set {R : Nat} {A B : World} (h : Still16 R A B) {a : Addr} (ha : R ≠ a.block) (v : Value) : Still16 R A (B.setCell a v) := by
  unfold Still16 at *
  exact (Below.heap_setCell B a v R ha).trans h

/-! What the small ones answer. -/
set_option maxHeartbeats 1000000 in
theorem isEnd_any (n : Int) (w : World) : Calls Try.prog 13 #[.int .i64 n] w fun e w' => e = .returned (.bool (decide (0 ≤ n ∧ n ≤ 2))) ∧ w = w' := by
  by_cases h : 0 ≤ n ∧ n ≤ 2
  · rw [decide_eq_true h]
    obtain rfl | rfl | rfl : n = 0 ∨ n = 1 ∨ n = 2 := by omega
    all_goals
      go_enter Try.func13, Try.ntmps13
      go_wp2_with fail
      go_ret
      exact ⟨rfl, rfl⟩
  · rw [decide_eq_false h]
    have h0 : (n == 0) = false := by rw [beq_eq_false_iff_ne]; omega
    have h1 : (n == 1) = false := by rw [beq_eq_false_iff_ne]; omega
    have h2 : (n == 2) = false := by rw [beq_eq_false_iff_ne]; omega
    clear h
    go_enter Try.func13, Try.ntmps13
    go_wp2_with fail
    go_ret
    exact ⟨rfl, rfl⟩
section
variable {R : Nat} {L : List (List UInt8)} {x : List UInt8} {t : List (List UInt8)} {b : Nat} {e : Int} {r : Nat} {sh : Bool} {M : Nat → Prop} {p : Option Addr} {c : Nat}
set_option maxHeartbeats 1000000 in
theorem reads16_any (w : World) (h : SrcLB R L b e r sh M p c w) : Calls Try.prog 11 #[.pointer (some ⟨R, 0, none⟩)] w fun e w' => e = .returned (.int .i64 (r : Int)) ∧ w = w' := by
  obtain ⟨⟨c0, c1, c2, c3, c4⟩, cf⟩ := five16 h.blk
  clear h
  go_enter Try.func11, Try.ntmps11
  go_wp2_with fail
  go_ret
  exact ⟨rfl, rfl⟩
set_option maxHeartbeats 1000000 in
theorem shut16_any (w : World) (h : SrcLB R L b e r sh M p c w) : Calls Try.prog 12 #[.pointer (some ⟨R, 0, none⟩)] w fun e w' => e = .returned (.tuple #[]) ∧ w' = w.setCell ⟨R, 4, none⟩ (.bool true) := by
  obtain ⟨⟨c0, c1, c2, c3, c4⟩, cf⟩ := five16 h.blk
  have f4 := cf 4
  clear h cf
  go_enter Try.func12, Try.ntmps12
  go_wp2_with fail
  go_end0
  exact ⟨rfl, rfl⟩
set_option maxHeartbeats 1000000 in
theorem atEnd16_any (w : World) (h : SrcLB R L b e r sh M p c w) (he : 0 ≤ e ∧ e ≤ 2) : Calls Try.prog 17 #[.pointer (some ⟨R, 0, none⟩)] w fun e' w' => e' = .returned (.int .i64 (endE e)) ∧ w = w' := by
  obtain ⟨⟨c0, c1, c2, c3, c4⟩, cf⟩ := five16 h.blk
  clear h cf
  obtain rfl | rfl | rfl : e = 0 ∨ e = 1 ∨ e = 2 := by omega
  all_goals
    go_enter Try.func17, Try.ntmps17
    go_wp2_with fail
    go_ret
    exact ⟨rfl, rfl⟩
set_option maxHeartbeats 2000000 in
theorem pass16_any (w : World) (h : SrcLB R (x :: t) b e r sh M p c w) : Calls Try.prog 16 #[.pointer (some ⟨R, 0, none⟩)] w fun e' w' => e' = .returned (.tuple #[]) ∧ ∃ p' c', SrcLB R t 0 e r sh M p' c' w' ∧ Sol10 R w w' := by
  obtain ⟨⟨c0, c1, c2, c3, c4⟩, cf⟩ := five16 h.blk
  have f0 := cf 0
  have f1 := cf 1
  obtain ⟨p', c', hs, hc⟩ := h.cs.tail
  have hcut : ∀ W, (Instr.slice 22 (.slice p (x :: t).length c) (some (.int .i64 1)) none none).run Try.prog W = .ok (.slice p' t.length c') W := fun W => by rw [cutc_l p _ c (by simp) W, hs]
  have HQ := Lib.hid (And.intro (h.passed hc) ((Sol10.set R 0 (.slice p' t.length c') w).trans (Sol10.set R 1 (.int .i64 0) _)))
  clear h cf hs hc
  generalize (x :: t).length = n at *
  go_enter Try.func16, Try.ntmps16
  go_wp2_with fail
  go_end0
  exact ⟨rfl, p', c', HQ.out⟩
set_option maxHeartbeats 2000000 in
theorem hand16_any (w : World) (h : SrcLB R (x :: t) b e r sh M p c w) {q : Option Addr} {d : Nat} {xs : List UInt8} (hx : RD w (.slice q xs.length d) xs) (hl : xs.length ≤ 100000) (hb : b + xs.length ≤ x.length) (hx2 : x.length ≤ 9223372036854775807) (hr : r ≤ 100000)
    (hq : ∀ g, (Value.slice q xs.length d).ownBlock = some g → g ≠ R) :
    Calls Try.prog 15 #[.pointer (some ⟨R, 0, none⟩), .slice q xs.length d] w fun e' w' => ∃ v, e' = .returned v ∧ SrcLB R (x :: t) (b + xs.length) e (r + xs.length) sh M p c w' ∧ RD w' v xs ∧ (∀ g, v.ownBlock = some g → w.heap.size ≤ g ∧ g < w'.heap.size) ∧ Sol10 R w w' := by
  obtain ⟨⟨c0, c1, c2, c3, c4⟩, cf⟩ := five16 h.blk
  have f1 := cf 1
  have f3 := cf 3
  have hh := h.handed xs.length hb
  have hs := (Sol10.set R 1 (.int .i64 ((b + xs.length : Nat) : Int)) w).trans (Sol10.set R 3 (.int .i64 ((r + xs.length : Nat) : Int)) _)
  have hx' : RD ((w.setCell ⟨R, 1, none⟩ (.int .i64 ((b + xs.length : Nat) : Int))).setCell ⟨R, 3, none⟩ (.int .i64 ((r + xs.length : Nat) : Int))) (.slice q xs.length d) xs := hx.keep fun _ g hg => (Below.heap_setCell _ _ _ _ (hq g hg)).trans (Below.heap_setCell _ _ _ _ (hq g hg))
  have HC := Lib.hid (clone10_any xs q d _ hx' hl)
  have HQ := Lib.hid (And.intro hh hs)
  have w1 : IntKind.i64.wrap ((b : Int) + (xs.length : Int)) = ((b + xs.length : Nat) : Int) := by rw [IntWalk.i64_in _ (by omega)]; omega
  have w2 : IntKind.i64.wrap ((r : Int) + (xs.length : Int)) = ((r + xs.length : Nat) : Int) := by rw [IntWalk.i64_in _ (by omega)]; omega
  have HZ := Lib.hid (show ((w.setCell ⟨R, 1, none⟩ (.int .i64 ((b + xs.length : Nat) : Int))).setCell ⟨R, 3, none⟩ (.int .i64 ((r + xs.length : Nat) : Int))).heap.size = w.heap.size by rw [set_size, set_size])
  clear h cf hh hs hx hx' hq hl hb hx2 hr
  generalize b + xs.length = B at *
  generalize r + xs.length = C at *
  go_enter Try.func15, Try.ntmps15
  go_wp2_with fail
  refine HC.out.mono ?_
  rintro e w' ⟨v, rfl, ho⟩
  have HO := Lib.hid ho
  clear ho
  go_wp2_with fail
  go_ret
  exact ⟨v, rfl, HQ.out.1.below HO.out.below, HO.out.rd, fun g hg => by have := HO.out.own g hg; have := HZ.out; omega, HQ.out.2.trans (Sol10.of_below HO.out.below)⟩
end

end Go.Proofs.YtnmjdpmfmbgoeaaRRR
