/- What the document's Clear and Left answer; two lists of numbers, the same or not. -/
import Derived.Test.YtcmkdeejofoibaaClkRef
namespace Go.Proofs.Ytcmkdeejofoibaa
open Go.ChangeShapes Go.WideShapes Go.ChangeAt Go.RowKit
open Ck
set_option linter.unusedVariables false
set_option maxRecDepth 100000

/-- A result's cell is written, in two steps. -/
theorem fin15 {w W : World} {R : Nat} {a b : Value} {now : Int} {v : Value} (hR : W.heap[R]? = some (.cells #[a, b] 28 (0, 0))) (hw : w.heap.size ≤ R) (hb : Below w.heap.size w W) :
    ((W.setCell ⟨R, 0, none⟩ (.int .i64 now)).setCell ⟨R, 1, none⟩ v).heap[R]? = some (.cells #[.int .i64 now, v] 28 (0, 0)) ∧ Below w.heap.size w ((W.setCell ⟨R, 0, none⟩ (.int .i64 now)).setCell ⟨R, 1, none⟩ v) ∧ ∀ g, g ≠ R → ((W.setCell ⟨R, 0, none⟩ (.int .i64 now)).setCell ⟨R, 1, none⟩ v).heap[g]? = W.heap[g]? := by
  refine ⟨heap_set (i := 1) v (heap_set (i := 0) (.int .i64 now) hR), (hb.setCell (p := ⟨R, 0, none⟩) hw _).setCell (p := ⟨R, 1, none⟩) hw _, fun g hg => ?_⟩
  exact (Below.heap_setCell _ ⟨R, 1, none⟩ _ _ hg).trans (Below.heap_setCell _ ⟨R, 0, none⟩ _ _ hg)
/-- A result's cell is written ahead of a new block. -/
theorem fin15b {w W : World} {R : Nat} {a b : Value} {q : Option Addr} {d : Nat} {xs : List Tm} (hR : W.heap[R]? = some (.cells #[a, b] 28 (0, 0))) (hw : w.heap.size ≤ R) (hb : Below w.heap.size w W) (hlt : R < W.heap.size) (o : Obj) (hT : TS W (.slice q xs.length d) xs)
    (h1 : ∀ g, (Value.slice q xs.length d).ownBlock = some g → g < W.heap.size) (h2 : ∀ g, (Value.slice q xs.length d).ownBlock = some g → g ≠ R) (now : Int) :
    (((W.setCell ⟨R, 0, none⟩ (.int .i64 now)).setCell ⟨R, 1, none⟩ (.slice q xs.length d)).alloc o).heap[R]? = some (.cells #[.int .i64 now, .slice q xs.length d] 28 (0, 0)) ∧
      TS (((W.setCell ⟨R, 0, none⟩ (.int .i64 now)).setCell ⟨R, 1, none⟩ (.slice q xs.length d)).alloc o) (.slice q xs.length d) xs ∧ Below w.heap.size w (((W.setCell ⟨R, 0, none⟩ (.int .i64 now)).setCell ⟨R, 1, none⟩ (.slice q xs.length d)).alloc o) ∧
      ∀ g, (Value.slice q xs.length d).ownBlock = some g → g < (((W.setCell ⟨R, 0, none⟩ (.int .i64 now)).setCell ⟨R, 1, none⟩ (.slice q xs.length d)).alloc o).heap.size := by
  obtain ⟨f1, f2, f3⟩ := fin15 (now := now) (v := .slice q xs.length d) hR hw hb
  obtain ⟨w3, hw3⟩ : ∃ w3, (W.setCell ⟨R, 0, none⟩ (.int .i64 now)).setCell ⟨R, 1, none⟩ (.slice q xs.length d) = w3 := ⟨_, rfl⟩
  have z3 : w3.heap.size = W.heap.size := by rw [← hw3]; simp [World.setCell]
  rw [hw3] at f1 f2 f3 ⊢
  have bA := below_box w3 o
  refine ⟨(bA.block R (by omega)).trans f1, TS.below (RS.keep hT fun g hg _ => f3 g (h2 g hg)) bA, ahead f2 bA, fun g hg => ?_⟩
  have := h1 g hg
  have := bA.size
  omega
theorem TS.far {W W' : World} {p : Option Addr} {n c : Nat} {l : List Tm} (h : TS W (.slice p n c) l) (hk : ∀ g, (Value.slice p n c).ownBlock = some g → g < W.heap.size → W'.heap[g]? = W.heap[g]?) : TS W' (.slice p n c) l := RS.keep h hk

set_option maxHeartbeats 4000000 in
theorem rclear_any (x : Cs) (id : Int) (p : Option Addr) (c : Nat) (w : World) (hL : TS w (.slice p x.l.length c) x.l) (hl : x.l.length ≤ 1000000) (hv : ∀ g, (Value.slice p x.l.length c).ownBlock = some g → g < w.heap.size) :
    Calls Try.prog 12 #[.agg #[.int .i64 x.now, .slice p x.l.length c], .int .i64 id] w fun e w' => ∃ q d, e = .returned (.tuple #[.agg #[.int .i64 x.now, .slice q (clearC x id).l.length d], .int .i64 (clearE x id)]) ∧ TS w' (.slice q (clearC x id).l.length d) (clearC x id).l ∧ Below w.heap.size w w' ∧ ∀ g, (Value.slice q (clearC x id).l.length d).ownBlock = some g → g < w'.heap.size := by
  obtain ⟨now, l⟩ := x
  obtain ⟨w0, hw0⟩ : ∃ w0, (w.alloc (ob15 now (.slice p l.length c))).alloc (ob15 0 (.slice none 0 0)) = w0 := ⟨_, rfl⟩
  have b0 : Below w.heap.size w w0 := by rw [← hw0]; exact ahead (below_box _ _) (below_box _ _)
  have z0 : w0.heap.size = w.heap.size + 2 := by rw [← hw0]; simp
  have h0 : w0.heap[w.heap.size]? = some (ob15 now (.slice p l.length c)) := by rw [← hw0, (below_box (w.alloc (ob15 now (.slice p l.length c))) _).block _ (by simp)]; exact heap_alloc_new w _
  have h1 : w0.heap[w.heap.size + 1]? = some (ob15 0 (.slice none 0 0)) := by
    rw [← hw0]
    have := heap_alloc_new (w.alloc (ob15 now (.slice p l.length c))) (ob15 0 (.slice none 0 0))
    simpa using this
  have HW := Lib.hid (rwithout_any now id l p c w0 (hL.below b0) hl)
  have HS := Lib.hid (And.intro (And.intro h0 h1) (And.intro b0 z0))
  have HL := Lib.hid (And.intro hL hv)
  obtain ⟨⟨c0, c1⟩, -⟩ := two15 h0
  have W0 := Lib.hid hw0
  unfold clearC clearE
  clear hw0 h0 h1 b0 z0 hL hv
  cases hh : has l id with
  | true =>
    rw [hh] at HW
    rw [if_pos rfl, if_pos rfl]
    clear hh
    go_enter Try.func12, Try.ntmps12
    go_wp2_with fail
    rw [W0.out]
    refine HW.out.mono ?_
    rintro e w1 ⟨q, d, rfl, hT, hb, ho⟩
    have hz0 := HS.out.2.2
    have z1 := hb.size
    have hlt1 : w.heap.size + 1 < w1.heap.size := by omega
    have hres : w1.heap[w.heap.size + 1]? = some (ob15 0 (.slice none 0 0)) := (hb.block _ (by omega)).trans HS.out.1.2
    obtain ⟨⟨r0, r1⟩, rf⟩ := two15 hres
    have rf0 := rf 0
    have rf1 := rf 1
    have HF := Lib.hid (fin15b hres (by omega) (ahead HS.out.2.1 hb) hlt1 (ob15 now (.slice q (wo l id).length d)) hT (fun g hg => ho g hg |>.2) (fun g hg => by have := ho g hg; omega) now)
    clear hT hb ho z1 hz0 hres rf HW c0 c1
    go_wp2_with fail
    refine bodyPost_ret (results_pair15 rfl _ _ (w.heap.size + 1) 28 _ (0, 0) _ rfl HF.out.1 Try.underlying28 rfl (by kernel_rfl)) rfl ?_
    exact ⟨q, d, rfl, HF.out.2⟩
  | false =>
    rw [hh] at HW
    rw [if_neg (by decide), if_neg (by decide)]
    clear hh
    go_enter Try.func12, Try.ntmps12
    go_wp2_with fail
    rw [W0.out]
    refine HW.out.mono ?_
    rintro e w1 ⟨q, d, rfl, hT, hb, ho⟩
    have hz0 := HS.out.2.2
    have z1 := hb.size
    have hlt1 : w.heap.size + 1 < w1.heap.size := by omega
    have hlt0 : w.heap.size < w1.heap.size := by omega
    have b1 := ahead HS.out.2.1 hb
    have hres : w1.heap[w.heap.size + 1]? = some (ob15 0 (.slice none 0 0)) := (hb.block _ (by omega)).trans HS.out.1.2
    have hbox1 : w1.heap[w.heap.size]? = some (ob15 now (.slice p l.length c)) := (hb.block _ (by omega)).trans HS.out.1.1
    obtain ⟨⟨x0, x1⟩, -⟩ := two15 hbox1
    obtain ⟨⟨r0, r1⟩, rf⟩ := two15 hres
    have rf0 := rf 0
    have rf1 := rf 1
    have HF := Lib.hid (fin15b hres (by omega) b1 hlt1 (ob15 now (.slice q (wo l id).length d)) (HL.out.1.below b1) (fun g hg => by have := HL.out.2 g hg; omega) (fun g hg => by have := HL.out.2 g hg; omega) now)
    clear hT hb ho z1 hz0 hres hbox1 rf HW c0 c1 b1
    go_wp2_with fail
    refine bodyPost_ret (results_pair15 rfl _ _ (w.heap.size + 1) 28 _ (0, 0) _ rfl HF.out.1 Try.underlying28 rfl (by kernel_rfl)) rfl ?_
    exact ⟨p, c, rfl, HF.out.2⟩

end Go.Proofs.Ytcmkdeejofoibaa
