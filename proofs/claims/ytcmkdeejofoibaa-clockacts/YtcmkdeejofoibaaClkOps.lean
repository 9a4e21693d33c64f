/- The calls that the laws of layer 15 make: a list of a kind, a timer's number, a number each. -/
import Derived.Test.YtcmkdeejofoibaaClkRows
import Derived.Deep.Strs
namespace Go.Proofs.Ytcmkdeejofoibaa
open Go.ChangeShapes Go.WideShapes Go.ChangeAt Go.RowKit Go.Deep
set_option linter.unusedVariables false
set_option maxRecDepth 100000

theorem gather2 {α : Type} {P : Nat → α → Prop} (n : Nat) (h : ∀ i, i < n → ∃ o, P i o) : ∃ os : List α, os.length = n ∧ ∀ i o, os[i]? = some o → P i o := by
  induction n with
  | zero => exact ⟨[], rfl, fun i o hi => by simp at hi⟩
  | succ n ih =>
    obtain ⟨os, h1, h2⟩ := ih (fun i hi => h i (by omega))
    obtain ⟨o, ho⟩ := h n (by omega)
    refine ⟨os ++ [o], by simp [h1], fun i o' hi => ?_⟩
    by_cases e : i < n
    · rw [List.getElem?_append_left (by omega)] at hi
      exact h2 i o' hi
    · rw [List.getElem?_append_right (by omega)] at hi
      have hi0 : i - os.length = 0 := by
        have := (List.getElem?_eq_some_iff.1 hi).1
        simp at this
        omega
      rw [hi0] at hi
      cases hi
      obtain rfl : i = n := by omega
      exact ho

structure Op15 where
  kind : UInt8
  id : Int
  n : Int
/-- A list of calls in memory. -/
def Ops15 (W : World) (p : Option Addr) (os : List Op15) : Prop :=
  ∀ i o, os[i]? = some o → ∃ ad, p = some ad ∧ W.cell? (ad.add (i * 3)) = some (.int .u8 (o.kind.toNat : Int)) ∧ W.cell? ⟨(ad.add (i * 3)).block, (ad.add (i * 3)).off + 1, none⟩ = some (.int .i64 o.id) ∧ W.cell? ⟨(ad.add (i * 3)).block, (ad.add (i * 3)).off + 2, none⟩ = some (.int .i64 o.n)
theorem Ops15.below {W W' : World} {p : Option Addr} {os : List Op15} (h : Ops15 W p os) (hb : Below W.heap.size W W') : Ops15 W' p os := fun i o hi => by
  obtain ⟨ad, rfl, h1, h2, h3⟩ := h i o hi
  exact ⟨ad, rfl, (hb.cell (World.block_lt_of_cell? W _ h1)).trans h1, (hb.cell (World.block_lt_of_cell? W _ h2)).trans h2, (hb.cell (World.block_lt_of_cell? W _ h3)).trans h3⟩
/-- Its numbers are ints. -/
def Op15.fits (o : Op15) : Prop := (-9223372036854775808 ≤ o.id ∧ o.id ≤ 9223372036854775807) ∧ -9223372036854775808 ≤ o.n ∧ o.n ≤ 9223372036854775807
theorem wf_int {z : Int} (h : (Lit.int .i64 z).wf = true) : -9223372036854775808 ≤ z ∧ z ≤ 9223372036854775807 := by
  have := bounds_i64 h
  omega
theorem open_ops15 {H : Type} {enc : TypeId × Value → H} {W : World} {base : Nat} {v : Value} {d : DataW H} {p : List MemPlace} (u : Value.okWide Try.prog W .any base 22 v)
    (h : DataW.Trod enc Try.prog W 0 (fun _ => true) true 22 v d p) (hz : ∀ n ∈ d.weights Try.prog 22, n ≤ reachBytes) :
    ∃ os : List Op15, ∃ q c, v = .slice q os.length c ∧ Ops15 W q os ∧ os.length ≤ 140737488355328 ∧ ∀ o ∈ os, o.fits := by
  obtain ⟨a1, len1, cap1, rfl⟩ := okWide_slice Try.underlying22 u
  obtain ⟨fuel, hf⟩ := h
  have hrb : reachBytes ≤ 140737488355328 := by decide
  rcases open_slice Try.underlying22 hf with ⟨hcs, _⟩ | ⟨a, l, c, m, n, D, Pl, hcs, _, hl, hm, hmm, hd, hi⟩
  · simp [Value.cells] at hcs
    obtain ⟨rfl, rfl, rfl⟩ := hcs
    exact ⟨[], none, 0, rfl, fun i o hi => by simp at hi, by simp, fun f hf => by simp at hf⟩
  · simp [Value.cells] at hcs
    obtain ⟨rfl, rfl, rfl⟩ := hcs
    simp at hmm
    subst hmm
    simp only [Prod.mk.injEq] at hd
    obtain ⟨rfl, _⟩ := hd
    have hby : Try.prog.bytesOf 30 = 24 := by kernel_rfl
    have hc3 : Try.prog.cellsOf 30 = 3 := by kernel_rfl
    have k1 : Try.prog.cellsOf 5 = 1 := by kernel_rfl
    have k2 : Try.prog.cellsOf 3 = 1 := by kernel_rfl
    have hlen : len1 ≤ 140737488355328 := by
      have := hz ((((List.range len1).map D).length + ((List.range (m - len1)).map fun j => D (len1 + j)).length) * Try.prog.bytesOf 30) (by simp [DataW.weights, Try.underlying22])
      rw [hby] at this
      simp at this
      omega
    obtain ⟨os, h1, h2⟩ := gather2 (P := fun i (o : Op15) => (W.cell? (a.add (i * 3)) = some (.int .u8 (o.kind.toNat : Int)) ∧ W.cell? ⟨(a.add (i * 3)).block, (a.add (i * 3)).off + 1, none⟩ = some (.int .i64 o.id) ∧ W.cell? ⟨(a.add (i * 3)).block, (a.add (i * 3)).off + 2, none⟩ = some (.int .i64 o.n)) ∧ o.fits) len1 (fun i hil => by
      obtain ⟨cs, hcs, ht⟩ := hi i (by omega)
      rw [hc3] at hcs
      obtain ⟨_, hcl, hat⟩ := World.cells?_some hcs
      obtain ⟨y0, y1, y2, n', hD, _, t0, t1, t2⟩ := trod_struct3 Try.underlying30 ht
      match cs, hcl with
      | [c0, c1, c2], _ =>
        have g0 := hat 0 (by decide)
        have g1 := hat 1 (by decide)
        have g2 := hat 2 (by decide)
        simp only [k1, k2, List.drop_zero, List.drop_succ_cons, List.take_succ_cons, List.take_zero] at t0 t1 t2
        obtain ⟨z0, e0, _, b0⟩ := DataW.trod_int Try.underlying5 t0
        obtain ⟨z1, e1, _, b1⟩ := DataW.trod_int Try.underlying3 t1
        obtain ⟨z2, e2, _, b2⟩ := DataW.trod_int Try.underlying3 t2
        have bz := bounds_u8 b0
        simp only [List.cons.injEq, and_true] at e0 e1 e2
        subst e0 e1 e2
        rw [Addr.add_zero'] at g0
        have e1 : (a.add (i * 3)).add 1 = ⟨(a.add (i * 3)).block, (a.add (i * 3)).off + 1, none⟩ := Addr.add_succ' _ 0
        have e2 : (a.add (i * 3)).add 2 = ⟨(a.add (i * 3)).block, (a.add (i * 3)).off + 2, none⟩ := Addr.add_succ' _ 1
        rw [e1] at g1
        rw [e2] at g2
        have hg0 : W.cell? (a.add (i * 3)) = some (.int .u8 ((UInt8.ofNat z0.toNat).toNat : Int)) := by
          rw [g0]; simp; omega
        exact ⟨⟨UInt8.ofNat z0.toNat, z1, z2⟩, ⟨hg0, g1, g2⟩, wf_int b1, wf_int b2⟩)
    subst h1
    refine ⟨os, _, _, rfl, fun i o hio => ⟨a, rfl, (h2 i o hio).1⟩, hlen, fun f hf => ?_⟩
    obtain ⟨i, hi', hi''⟩ := List.mem_iff_getElem.1 hf
    exact (h2 i f (by rw [List.getElem?_eq_getElem hi', hi''])).2

end Go.Proofs.Ytcmkdeejofoibaa
