/- Bytes, slices of bytes, limits that came in as arguments, opened. -/
import Derived.Test.YtjkccacpffikbaaGreatDoorByteSlices
import Derived.Test.YtjkccacpffikbaaGreatDoorLimRight
import Derived.Test.YtjkccacpffikbaaGreatDoorFieldOpenIn
namespace Go.Proofs.YtjkccacpffikbaaGreatDoor
open Go.ChangeShapes Go.WideShapes Go.ChangeAt Go.RowKit Go.Deep
open Oc Fl
set_option linter.unusedVariables false
set_option maxRecDepth 100000

theorem row_rd {w : World} {p : Option Addr} {l c : Nat} {zs : List Int} (h : (p = none ∧ l = 0 ∧ c = 0 ∧ zs = []) ∨
    ∃ x, p = some x ∧ l ≤ c ∧ c ≤ maxLen ∧ zs.length = c ∧ (∀ i, i < zs.length → w.cell? (x.add i) = some (.int .u8 (zs.getD i 0))) ∧ ∀ n ∈ zs, (Lit.int .u8 n).wf = true) : ∃ xs, RD w (.slice p l c) xs := by
  rcases h with ⟨rfl, rfl, rfl, rfl⟩ | ⟨x, rfl, h1, h2, h3, h4, h5⟩
  · exact ⟨[], RD.nil w⟩
  · refine ⟨(zs.take l).map (fun n => UInt8.ofNat n.toNat), some x, c, by simp; omega, by simp; omega, h2, (fun h => by cases h), fun ad hp i b hb => ?_⟩
    cases hp
    have hi : i < l := by
      have := (List.getElem?_eq_some_iff.1 hb).1
      simp at this
      omega
    have hiz : i < zs.length := by omega
    rw [List.getElem?_map, List.getElem?_take, if_pos hi, List.getElem?_eq_getElem hiz] at hb
    simp only [Option.map_some, Option.some.injEq] at hb
    have hw := bounds_u8 (h5 zs[i] (List.getElem_mem hiz))
    rw [h4 i hiz, ← hb]
    have e : zs.getD i 0 = zs[i] := by simp [List.getD, List.getElem?_eq_getElem hiz]
    rw [e]
    congr 2
    simp
    omega
/-- Bytes. -/
theorem open_bytes {H : Type} {enc : TypeId × Value → H} {W : World} {base : Nat} {v : Value} {d : DataW H} {p : List MemPlace} (u : Value.okWide Tryz.prog W .any base 29 v)
    (h : DataW.Trod enc Tryz.prog W 0 (fun _ => true) true 29 v d p) : ∃ T, RD W v T ∧ ∀ g, v.ownBlock = some g → g < W.heap.size := by
  have u' := u
  obtain ⟨a0, len, cap, rfl⟩ := okWide_slice Tryz.underlying29 u
  have hv : ∀ g, (Value.slice a0 len cap).ownBlock = some g → g < W.heap.size := fun g hg => by
    cases a0 with
    | none => cases hg
    | some a =>
      cases hg
      simp only [Value.okWide, Tryz.underlying29, Cell.okWide, Cell.ok] at u'
      obtain ⟨-, -, -, -, row, cells, hs, -⟩ := u'
      unfold World.shape? at hs
      cases hh : W.heap[a.block]? with
      | none => rw [hh] at hs; cases hs
      | some o => exact (Array.getElem?_eq_some_iff.1 hh).1
  obtain ⟨fuel, hf⟩ := h
  have hc : Tryz.prog.cellsOf 5 = 1 := by kernel_rfl
  rcases open_ints Tryz.underlying29 Tryz.underlying5 hc hf with ⟨hcs, hx⟩ | ⟨a, len', cap', zs, hcs, _, hle, hmax, hall, hx, hcell, hwf⟩
  · simp [Value.cells] at hcs
    obtain ⟨rfl, rfl, rfl⟩ := hcs
    exact ⟨[], RD.nil W, hv⟩
  · simp [Value.cells] at hcs
    obtain ⟨rfl, rfl, rfl⟩ := hcs
    simp only [if_true] at hall
    obtain ⟨xs, hr⟩ := row_rd (w := W) (.inr ⟨a, rfl, hle, hmax, hall, hcell, hwf⟩)
    exact ⟨xs, hr, hv⟩
theorem cell_int {W : World} {base : Nat} {t : TypeId} {k : IntKind} {v : Value} (ht : Tryz.prog.underlying t = some (.int k)) (h : Cell.okWide Tryz.prog W .any base t v) : ∃ n, v = .int k n ∧ k.has n := by
  cases v <;> simp [Cell.okWide, Cell.ok, ht] at h
  rename_i k' n
  obtain ⟨rfl, h⟩ := h
  exact ⟨n, rfl, h⟩
theorem lims_cells : Tryz.prog.cellTypes Tryz.prog.depth 26 = some [3, 3, 3] := by kernel_rfl
theorem lims_size : Tryz.prog.cellsOf 26 = 3 := by kernel_rfl
theorem row_three {W : World} {base : Nat} {t e : TypeId} {k : IntKind} {cs : Array Value} (he : Tryz.prog.underlying e = some (.int k)) (hts : Tryz.prog.cellTypes Tryz.prog.depth t = some [e, e, e]) (hs : cs.size = 3) (h : Row.okWide Tryz.prog W .any base t cs) : ∃ a b c, cs = #[.int k a, .int k b, .int k c] ∧ k.has a ∧ k.has b ∧ k.has c := by
  obtain ⟨ts, h1, h2, h3⟩ := h
  rw [hts] at h1
  cases h1
  obtain ⟨l⟩ := cs
  match l, hs with
  | [x, y, z], _ =>
    obtain ⟨u0, e0, c0⟩ := h3 0 x rfl
    obtain ⟨u1, e1, c1⟩ := h3 1 y rfl
    obtain ⟨u2, e2, c2⟩ := h3 2 z rfl
    cases e0
    cases e1
    cases e2
    obtain ⟨a, rfl, ha⟩ := cell_int he c0
    obtain ⟨b, rfl, hb⟩ := cell_int he c1
    obtain ⟨c, rfl, hc⟩ := cell_int he c2
    exact ⟨a, b, c, rfl, ha, hb, hc⟩
/-- Limits. -/
theorem open_lims {W : World} {base : Nat} {v : Value} (u : Value.okWide Tryz.prog W .any base 26 v) : ∃ a b c, v = lim3 a b c := by
  simp only [Value.okWide, Tryz.underlying26] at u
  obtain ⟨cs, rfl, hs, hr⟩ := u
  obtain ⟨a, b, c, rfl, -⟩ := row_three Tryz.underlying3 lims_cells (hs.trans lims_size) hr
  exact ⟨a, b, c, rfl⟩
end Go.Proofs.YtjkccacpffikbaaGreatDoor
