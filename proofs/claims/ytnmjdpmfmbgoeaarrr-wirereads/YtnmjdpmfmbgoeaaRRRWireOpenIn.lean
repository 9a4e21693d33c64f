/- Slices of slices of bytes, numbers that came in as arguments, opened: for the laws of layer 16. -/
import Derived.Test.YtnmjdpmfmbgoeaaRRRClkOpenIn
import Derived.Test.YtnmjdpmfmbgoeaaRRRByteSlices
namespace Go.Proofs.YtnmjdpmfmbgoeaaRRR
open Go.ChangeShapes Go.WideShapes Go.ChangeAt Go.RowKit Go.Deep
set_option linter.unusedVariables false
set_option maxRecDepth 100000

theorem gather16 {α : Type} {P : Nat → α → Prop} (n : Nat) (h : ∀ i, i < n → ∃ o, P i o) : ∃ os : List α, os.length = n ∧ ∀ i o, os[i]? = some o → P i o := by
  induction n with
  | zero => exact ⟨[], rfl, fun i o hi => by simp at hi⟩
  | succ n ih =>
    obtain ⟨os, h1, h2⟩ := ih (fun i hi => h i (by omega))
    obtain ⟨o, ho⟩ := h n (by omega)
    refine ⟨os ++ [o], by simp [h1], fun i o' hi => ?_⟩
    by_cases e : i < n
    · rw [List.getElem?_append_left (by omega)] at hi
      exact h2 i o' hi
    · rw [List.getElem?_append_right (by omega)] at hi
      have hi0 : i - os.length = 0 := by
        have := (List.getElem?_eq_some_iff.1 hi).1
        simp at this
        omega
      rw [hi0] at hi
      cases hi
      obtain rfl : i = n := by omega
      exact ho
theorem weights16 {H : Type} {P : Program} {e : TypeId} : ∀ {l : List (DataW H)} {d : DataW H}, d ∈ l → ∀ n ∈ d.weights P e, n ∈ DataW.weightsAll P e l
  | x :: l, d, h, n, hn => by
    simp only [DataW.weightsAll, List.mem_append]
    rcases List.mem_cons.1 h with rfl | h
    · exact .inl hn
    · exact .inr (weights16 h n hn)
/-- A list of slices of bytes; each is as long as a memory bears. -/
theorem open_chunks16 {H : Type} {enc : TypeId × Value → H} {W : World} {base : Nat} {v : Value} {d : DataW H} {p : List MemPlace} (u : Value.okWide Try.prog W .any base 22 v)
    (h : DataW.Trod enc Try.prog W 0 (fun _ => true) true 22 v d p) (hz : ∀ n ∈ d.weights Try.prog 22, n ≤ reachBytes) :
    ∃ cs : List (List UInt8), ∃ q c, v = .slice q cs.length c ∧ CS W v cs ∧ cs.length ≤ 140737488355328 ∧ ∀ x ∈ cs, x.length ≤ 140737488355328 := by
  obtain ⟨a1, len1, cap1, rfl⟩ := okWide_slice Try.underlying22 u
  obtain ⟨fuel, hf⟩ := h
  have hrb : reachBytes ≤ 140737488355328 := by decide
  have h1c : Try.prog.cellsOf 34 = 1 := by kernel_rfl
  rcases open_slice1 Try.underlying22 h1c hf with ⟨hcs, _⟩ | ⟨a, l, c, m, n, V, D, Pl, hcs, _, hl, hm, hmm, hd, hi⟩
  · simp [Value.cells] at hcs
    obtain ⟨rfl, rfl, rfl⟩ := hcs
    exact ⟨[], none, 0, rfl, ⟨[], RS.nil W 1, rfl, fun i u x hu => by simp at hu⟩, by simp, fun f hf => by simp at hf⟩
  · simp [Value.cells] at hcs
    obtain ⟨rfl, rfl, rfl⟩ := hcs
    simp at hmm
    subst hmm
    simp only [Prod.mk.injEq] at hd
    obtain ⟨rfl, _⟩ := hd
    have hby : Try.prog.bytesOf 34 = 24 := by kernel_rfl
    have hby1 : Try.prog.bytesOf 5 = 1 := by kernel_rfl
    have hlen : len1 ≤ 140737488355328 := by
      have := hz ((((List.range len1).map D).length + ((List.range (m - len1)).map fun j => D (len1 + j)).length) * Try.prog.bytesOf 34) (by simp [DataW.weights, Try.underlying22])
      rw [hby] at this
      simp at this
      omega
    obtain ⟨os, h1, h2⟩ := gather16 (P := fun i (x : List UInt8) => W.cell? (a.add i) = some (V i) ∧ RD W (V i) x ∧ x.length ≤ 140737488355328) len1 (fun i hil => by
      obtain ⟨hc, ht⟩ := hi i (by omega)
      rcases open_ints Try.underlying34 Try.underlying5 (by kernel_rfl) ht with ⟨e, _⟩ | ⟨x, l', c', zs, e, _, hl', hm', hz', hx, hcell, hwz⟩
      · simp at e
        rw [e] at hc ⊢
        exact ⟨[], hc, RD.nil W, by simp⟩
      · simp at e
        rw [e] at hc ⊢
        simp only [if_true] at hz'
        obtain ⟨xs, hr⟩ := row_rd (w := W) (p := some x) (l := l') (c := c') (zs := zs) (.inr ⟨x, rfl, hl', hm', hz', hcell, hwz⟩)
        have hxl := hr.len
        refine ⟨xs, hc, hr, ?_⟩
        have hDi := (Prod.mk.inj hx).1
        have hw : ∀ k ∈ (D i).weights Try.prog 34, k ≤ 140737488355328 := fun k hk => by
          refine Nat.le_trans (hz k ?_) hrb
          simp only [DataW.weights, Try.underlying22, List.mem_cons, List.mem_append]
          right; left
          exact weights16 (List.mem_map.2 ⟨i, List.mem_range.2 hil, rfl⟩) k hk
        rw [hDi] at hw
        have := hw (((lits .u8 (zs.take l') : List (DataW H)).length + (lits .u8 (zs.drop l') : List (DataW H)).length) * Try.prog.bytesOf 5) (by simp [DataW.weights, Try.underlying34])
        rw [hby1] at this
        simp [lits] at this
        omega)
    subst h1
    refine ⟨os, _, _, rfl, ⟨(List.range os.length).map V, ⟨by simp, some a, _, rfl, hl, hm, (fun h => by cases h), fun ad hp i u hu => ?_⟩, by simp, fun i u x hu hx => ?_⟩, hlen, fun x hx => ?_⟩
    · cases hp
      have hil := (List.getElem?_eq_some_iff.1 hu).1
      simp at hil
      simp [hil] at hu
      rw [← hu]
      exact (h2 i os[i] (List.getElem?_eq_getElem hil)).1
    · have hil := (List.getElem?_eq_some_iff.1 hx).1
      simp [hil] at hu
      rw [← hu]
      exact (h2 i x hx).2.1
    · obtain ⟨i, hi', hi''⟩ := List.mem_iff_getElem.1 hx
      exact (h2 i x (by rw [List.getElem?_eq_getElem hi', hi''])).2.2
/-- Numbers, one behind another. -/
def Nums (W : World) (p : Option Addr) (l : List Int) : Prop := ∀ (i : Nat) (n : Int), l[i]? = some n → ∃ ad, p = some ad ∧ W.cell? (ad.add i) = some (.int .i64 n)
theorem Nums.below {W W' : World} {p : Option Addr} {l : List Int} (h : Nums W p l) (hb : Below W.heap.size W W') : Nums W' p l := fun i n hi => by
  obtain ⟨ad, rfl, hc⟩ := h i n hi
  have hlt := World.block_lt_of_cell? W _ hc
  exact ⟨ad, rfl, by rw [World.cell?_of_block (hb.block _ hlt)]; exact hc⟩
theorem open_nums {H : Type} {enc : TypeId × Value → H} {W : World} {base : Nat} {v : Value} {d : DataW H} {p : List MemPlace} (u : Value.okWide Try.prog W .any base 23 v)
    (h : DataW.Trod enc Try.prog W 0 (fun _ => true) true 23 v d p) : ∃ q l c, v = .slice q l.length c ∧ Nums W q l := by
  obtain ⟨a0, len, cap, rfl⟩ := okWide_slice Try.underlying23 u
  obtain ⟨fuel, hf⟩ := h
  have hc : Try.prog.cellsOf 3 = 1 := by kernel_rfl
  rcases open_ints Try.underlying23 Try.underlying3 hc hf with ⟨hcs, hx⟩ | ⟨a, len', cap', zs, hcs, _, hle, hmax, hall, hx, hcell, hwf⟩
  · simp [Value.cells] at hcs
    obtain ⟨rfl, rfl, rfl⟩ := hcs
    exact ⟨none, [], 0, rfl, fun i n hi => by simp at hi⟩
  · simp [Value.cells] at hcs
    obtain ⟨rfl, rfl, rfl⟩ := hcs
    simp only [if_true] at hall
    refine ⟨some a, zs.take len, cap, by rw [List.length_take]; congr 1; omega, fun i n hi => ⟨a, rfl, ?_⟩⟩
    have hi' := (List.getElem?_eq_some_iff.1 hi).1
    rw [List.length_take] at hi'
    rw [List.getElem?_take, if_pos (by omega)] at hi
    rw [hcell i (by omega)]
    simp [List.getD, hi]
theorem open_int16 {H : Type} {enc : TypeId × Value → H} {W : World} {base : Nat} {v : Value} {d : DataW H} {p : List MemPlace} (u : Value.okWide Try.prog W .any base 3 v)
    (h : DataW.Trod enc Try.prog W 0 (fun _ => true) true 3 v d p) : ∃ n : Int, v = .int .i64 n := by
  obtain ⟨a, rfl, _, _, w0⟩ := open_int Try.underlying3 u h
  exact ⟨a, rfl⟩

end Go.Proofs.YtnmjdpmfmbgoeaaRRR
