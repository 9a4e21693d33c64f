/- Bytes, slices of bytes, limits that came in as arguments, opened. -/
import Derived.Test.YtjolpnjmelifbaaGreatDoorByteSlices
import Derived.Test.YtjolpnjmelifbaaGreatDoorLimRight
import Derived.Test.YtjolpnjmelifbaaGreatDoorFieldOpenIn
namespace Go.Proofs.YtjolpnjmelifbaaGreatDoor
open Go.ChangeShapes Go.WideShapes Go.ChangeAt Go.RowKit Go.Deep
open Oc Fl
set_option linter.unusedVariables false
set_option maxRecDepth 100000

theorem row_rd {w : World} {p : Option Addr} {l c : Nat} {zs : List Int} (h : (p = none ∧ l = 0 ∧ c = 0 ∧ zs = []) ∨
    ∃ x, p = some x ∧ l ≤ c ∧ c ≤ maxLen ∧ zs.length = c ∧ (∀ i, i < zs.length → w.cell? (x.add i) = some (.int .u8 (zs.getD i 0))) ∧ ∀ n ∈ zs, (Lit.int .u8 n).wf = true) : ∃ xs, RD w (.slice p l c) xs := by
  rcases h with ⟨rfl, rfl, rfl, rfl⟩ | ⟨x, rfl, h1, h2, h3, h4, h5⟩
  · exact ⟨[], RD.nil w⟩
  · refine ⟨(zs.take l).map (fun n => UInt8.ofNat n.toNat), some x, c, by simp; omega, by simp; omega, h2, (fun h => by cases h), fun ad hp i b hb => ?_⟩
    cases hp
    have hi : i < l := by
      have := (List.getElem?_eq_some_iff.1 hb).1
      simp at this
      omega
    have hiz : i < zs.length := by omega
    rw [List.getElem?_map, List.getElem?_take, if_pos hi, List.getElem?_eq_getElem hiz] at hb
    simp only [Option.map_some, Option.some.injEq] at hb
    have hw := bounds_u8 (h5 zs[i] (List.getElem_mem hiz))
    rw [h4 i hiz, ← hb]
    have e : zs.getD i 0 = zs[i] := by simp [List.getD, List.getElem?_eq_getElem hiz]
    rw [e]
    congr 2
    simp
    omega
/-- Bytes. -/
theorem open_bytes {H : Type} {enc : TypeId × Value → H} {W : World} {base : Nat} {v : Value} {d : DataW H} {p : List MemPlace} (u : Value.okWide Tryz.prog W .any base 25 v)
    (h : DataW.Trod enc Tryz.prog W 0 (fun _ => true) true 25 v d p) : ∃ T, RD W v T ∧ ∀ g, v.ownBlock = some g → g < W.heap.size := by
  have u' := u
  obtain ⟨a0, len, cap, rfl⟩ := okWide_slice Tryz.underlying25 u
  have hv : ∀ g, (Value.slice a0 len cap).ownBlock = some g → g < W.heap.size := fun g hg => by
    cases a0 with
    | none => cases hg
    | some a =>
      cases hg
      simp only [Value.okWide, Tryz.underlying25, Cell.okWide, Cell.ok] at u'
      obtain ⟨-, -, -, -, row, cells, hs, -⟩ := u'
      unfold World.shape? at hs
      cases hh : W.heap[a.block]? with
      | none => rw [hh] at hs; cases hs
      | some o => exact (Array.getElem?_eq_some_iff.1 hh).1
  obtain ⟨fuel, hf⟩ := h
  have hc : Tryz.prog.cellsOf 5 = 1 := by kernel_rfl
  rcases open_ints Tryz.underlying25 Tryz.underlying5 hc hf with ⟨hcs, hx⟩ | ⟨a, len', cap', zs, hcs, _, hle, hmax, hall, hx, hcell, hwf⟩
  · simp [Value.cells] at hcs
    obtain ⟨rfl, rfl, rfl⟩ := hcs
    exact ⟨[], RD.nil W, hv⟩
  · simp [Value.cells] at hcs
    obtain ⟨rfl, rfl, rfl⟩ := hcs
    simp only [if_true] at hall
    obtain ⟨xs, hr⟩ := row_rd (w := W) (.inr ⟨a, rfl, hle, hmax, hall, hcell, hwf⟩)
    exact ⟨xs, hr, hv⟩
theorem cell_int {W : World} {base : Nat} {t : TypeId} {k : IntKind} {v : Value} (ht : Tryz.prog.underlying t = some (.int k)) (h : Cell.okWide Tryz.prog W .any base t v) : ∃ n, v = .int k n ∧ k.has n := by
  cases v <;> simp [Cell.okWide, Cell.ok, ht] at h
  rename_i k' n
  obtain ⟨rfl, h⟩ := h
  exact ⟨n, rfl, h⟩
theorem lims_cells : Tryz.prog.cellTypes Tryz.prog.depth 46 = some [3, 3, 3] := by kernel_rfl
theorem lims_size : Tryz.prog.cellsOf 46 = 3 := by kernel_rfl
theorem row_three {W : World} {base : Nat} {t e : TypeId} {k : IntKind} {cs : Array Value} (he : Tryz.prog.underlying e = some (.int k)) (hts : Tryz.prog.cellTypes Tryz.prog.depth t = some [e, e, e]) (hs : cs.size = 3) (h : Row.okWide Tryz.prog W .any base t cs) : ∃ a b c, cs = #[.int k a, .int k b, .int k c] ∧ k.has a ∧ k.has b ∧ k.has c := by
  obtain ⟨ts, h1, h2, h3⟩ := h
  rw [hts] at h1
  cases h1
  obtain ⟨l⟩ := cs
  match l, hs with
  | [x, y, z], _ =>
    obtain ⟨u0, e0, c0⟩ := h3 0 x rfl
    obtain ⟨u1, e1, c1⟩ := h3 1 y rfl
    obtain ⟨u2, e2, c2⟩ := h3 2 z rfl
    cases e0
    cases e1
    cases e2
    obtain ⟨a, rfl, ha⟩ := cell_int he c0
    obtain ⟨b, rfl, hb⟩ := cell_int he c1
    obtain ⟨c, rfl, hc⟩ := cell_int he c2
    exact ⟨a, b, c, rfl, ha, hb, hc⟩
/-- Limits. -/
theorem open_lims {W : World} {base : Nat} {v : Value} (u : Value.okWide Tryz.prog W .any base 46 v) : ∃ a b c, v = lim3 a b c := by
  simp only [Value.okWide, Tryz.underlying46] at u
  obtain ⟨cs, rfl, hs, hr⟩ := u
  obtain ⟨a, b, c, rfl, -⟩ := row_three Tryz.underlying3 lims_cells (hs.trans lims_size) hr
  exact ⟨a, b, c, rfl⟩
/-- A list of slices of bytes; each is as long as a memory bears. -/
theorem open_chunks {H : Type} {enc : TypeId × Value → H} {W : World} {base : Nat} {v : Value} {d : DataW H} {p : List MemPlace} (u : Value.okWide Tryz.prog W .any base 22 v)
    (h : DataW.Trod enc Tryz.prog W 0 (fun _ => true) true 22 v d p) (hz : ∀ n ∈ d.weights Tryz.prog 22, n ≤ reachBytes) :
    ∃ cs : List (List UInt8), ∃ q c, v = .slice q cs.length c ∧ CS W v cs ∧ cs.length ≤ 140737488355328 ∧ ∀ x ∈ cs, x.length ≤ 140737488355328 := by
  obtain ⟨a1, len1, cap1, rfl⟩ := okWide_slice Tryz.underlying22 u
  obtain ⟨fuel, hf⟩ := h
  have hrb : reachBytes ≤ 140737488355328 := by decide
  have h1c : Tryz.prog.cellsOf 25 = 1 := by kernel_rfl
  rcases open_slice1 Tryz.underlying22 h1c hf with ⟨hcs, _⟩ | ⟨a, l, c, m, n, V, D, Pl, hcs, _, hl, hm, hmm, hd, hi⟩
  · simp [Value.cells] at hcs
    obtain ⟨rfl, rfl, rfl⟩ := hcs
    exact ⟨[], none, 0, rfl, ⟨[], RS.nil W 1, rfl, fun i u x hu => by simp at hu⟩, by simp, fun f hf => by simp at hf⟩
  · simp [Value.cells] at hcs
    obtain ⟨rfl, rfl, rfl⟩ := hcs
    simp at hmm
    subst hmm
    simp only [Prod.mk.injEq] at hd
    obtain ⟨rfl, _⟩ := hd
    have hby : Tryz.prog.bytesOf 25 = 24 := by kernel_rfl
    have hby1 : Tryz.prog.bytesOf 5 = 1 := by kernel_rfl
    have hlen : len1 ≤ 140737488355328 := by
      have := hz ((((List.range len1).map D).length + ((List.range (m - len1)).map fun j => D (len1 + j)).length) * Tryz.prog.bytesOf 25) (by simp [DataW.weights, Tryz.underlying22])
      rw [hby] at this
      simp at this
      omega
    obtain ⟨os, h1, h2⟩ := gather2 (P := fun i (x : List UInt8) => W.cell? (a.add i) = some (V i) ∧ RD W (V i) x ∧ x.length ≤ 140737488355328) len1 (fun i hil => by
      obtain ⟨hc, ht⟩ := hi i (by omega)
      rcases open_ints Tryz.underlying25 Tryz.underlying5 (by kernel_rfl) ht with ⟨e, _⟩ | ⟨x, l', c', zs, e, _, hl', hm', hz', hx, hcell, hwz⟩
      · simp at e
        rw [e] at hc ⊢
        exact ⟨[], hc, RD.nil W, by simp⟩
      · simp at e
        rw [e] at hc ⊢
        simp only [if_true] at hz'
        obtain ⟨xs, hr⟩ := row_rd (w := W) (p := some x) (l := l') (c := c') (zs := zs) (.inr ⟨x, rfl, hl', hm', hz', hcell, hwz⟩)
        have hxl := hr.len
        refine ⟨xs, hc, hr, ?_⟩
        have hDi := (Prod.mk.inj hx).1
        have hw : ∀ k ∈ (D i).weights Tryz.prog 25, k ≤ 140737488355328 := fun k hk => by
          refine Nat.le_trans (hz k ?_) hrb
          simp only [DataW.weights, Tryz.underlying22, List.mem_cons, List.mem_append]
          right; left
          exact weights_all (List.mem_map.2 ⟨i, List.mem_range.2 hil, rfl⟩) k hk
        rw [hDi] at hw
        have := hw (((lits .u8 (zs.take l') : List (DataW H)).length + (lits .u8 (zs.drop l') : List (DataW H)).length) * Tryz.prog.bytesOf 5) (by simp [DataW.weights, Tryz.underlying25])
        rw [hby1] at this
        simp [lits] at this
        omega)
    subst h1
    refine ⟨os, _, _, rfl, ⟨(List.range os.length).map V, ⟨by simp, some a, _, rfl, hl, hm, (fun h => by cases h), fun ad hp i u hu => ?_⟩, by simp, fun i u x hu hx => ?_⟩, hlen, fun x hx => ?_⟩
    · cases hp
      have hil := (List.getElem?_eq_some_iff.1 hu).1
      simp at hil
      simp [hil] at hu
      rw [← hu]
      exact (h2 i os[i] (List.getElem?_eq_getElem hil)).1
    · have hil := (List.getElem?_eq_some_iff.1 hx).1
      simp [hil] at hu
      rw [← hu]
      exact (h2 i x hx).2.1
    · obtain ⟨i, hi', hi''⟩ := List.mem_iff_getElem.1 hx
      exact (h2 i x (by rw [List.getElem?_eq_getElem hi', hi''])).2.2

end Go.Proofs.YtjolpnjmelifbaaGreatDoor
