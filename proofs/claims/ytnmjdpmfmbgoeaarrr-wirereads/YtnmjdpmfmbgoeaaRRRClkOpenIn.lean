/- Bytes and small numbers that came in as arguments, opened: for the laws of layer 15. -/
import Derived.Test.YtnmjdpmfmbgoeaaRRRByteMem
import Derived.Deep.Slices
import Derived.Deep.Strs
import Derived.SizedLaws
namespace Go.Proofs.YtnmjdpmfmbgoeaaRRR
open Go.ChangeShapes Go.WideShapes Go.ChangeAt Go.RowKit Go.Deep
set_option linter.unusedVariables false
set_option maxRecDepth 100000

theorem row_rd {w : World} {p : Option Addr} {l c : Nat} {zs : List Int} (h : (p = none ∧ l = 0 ∧ c = 0 ∧ zs = []) ∨
    ∃ x, p = some x ∧ l ≤ c ∧ c ≤ maxLen ∧ zs.length = c ∧ (∀ i, i < zs.length → w.cell? (x.add i) = some (.int .u8 (zs.getD i 0))) ∧ ∀ n ∈ zs, (Lit.int .u8 n).wf = true) : ∃ xs, RD w (.slice p l c) xs := by
  rcases h with ⟨rfl, rfl, rfl, rfl⟩ | ⟨x, rfl, h1, h2, h3, h4, h5⟩
  · exact ⟨[], RD.nil w⟩
  · refine ⟨(zs.take l).map (fun n => UInt8.ofNat n.toNat), some x, c, by simp; omega, by simp; omega, h2, (fun h => by cases h), fun ad hp i b hb => ?_⟩
    cases hp
    have hi : i < l := by
      have := (List.getElem?_eq_some_iff.1 hb).1
      simp at this
      omega
    have hiz : i < zs.length := by omega
    rw [List.getElem?_map, List.getElem?_take, if_pos hi, List.getElem?_eq_getElem hiz] at hb
    simp only [Option.map_some, Option.some.injEq] at hb
    have hw := bounds_u8 (h5 zs[i] (List.getElem_mem hiz))
    rw [h4 i hiz, ← hb]
    have e : zs.getD i 0 = zs[i] := by simp [List.getD, List.getElem?_eq_getElem hiz]
    rw [e]
    congr 2
    simp
    omega
/-- Bytes. -/
theorem open_bytes {H : Type} {enc : TypeId × Value → H} {W : World} {base : Nat} {v : Value} {d : DataW H} {p : List MemPlace} (u : Value.okWide Try.prog W .any base 34 v)
    (h : DataW.Trod enc Try.prog W 0 (fun _ => true) true 34 v d p) : ∃ T, RD W v T ∧ ∀ g, v.ownBlock = some g → g < W.heap.size := by
  have u' := u
  obtain ⟨a0, len, cap, rfl⟩ := okWide_slice Try.underlying34 u
  have hv : ∀ g, (Value.slice a0 len cap).ownBlock = some g → g < W.heap.size := fun g hg => by
    cases a0 with
    | none => cases hg
    | some a =>
      cases hg
      simp only [Value.okWide, Try.underlying34, Cell.okWide, Cell.ok] at u'
      obtain ⟨-, -, -, -, row, cells, hs, -⟩ := u'
      unfold World.shape? at hs
      cases hh : W.heap[a.block]? with
      | none => rw [hh] at hs; cases hs
      | some o => exact (Array.getElem?_eq_some_iff.1 hh).1
  obtain ⟨fuel, hf⟩ := h
  have hc : Try.prog.cellsOf 5 = 1 := by kernel_rfl
  rcases open_ints Try.underlying34 Try.underlying5 hc hf with ⟨hcs, hx⟩ | ⟨a, len', cap', zs, hcs, _, hle, hmax, hall, hx, hcell, hwf⟩
  · simp [Value.cells] at hcs
    obtain ⟨rfl, rfl, rfl⟩ := hcs
    exact ⟨[], RD.nil W, hv⟩
  · simp [Value.cells] at hcs
    obtain ⟨rfl, rfl, rfl⟩ := hcs
    simp only [if_true] at hall
    obtain ⟨xs, hr⟩ := row_rd (w := W) (.inr ⟨a, rfl, hle, hmax, hall, hcell, hwf⟩)
    exact ⟨xs, hr, hv⟩
theorem open_u8n {H : Type} {enc : TypeId × Value → H} {W : World} {base : Nat} {v : Value} {d : DataW H} {p : List MemPlace} (u : Value.okWide Try.prog W .any base 5 v)
    (h : DataW.Trod enc Try.prog W 0 (fun _ => true) true 5 v d p) : ∃ n : Int, v = .int .u8 n ∧ 0 ≤ n ∧ n ≤ 255 := by
  obtain ⟨a, rfl, _, _, w0⟩ := open_int Try.underlying5 u h
  have b := bounds_u8 w0
  exact ⟨a, rfl, by omega, by omega⟩
theorem each_weight {H : Type} {P : Program} {ts : List TypeId} {ds : List (DataW H)} (hz : (DataW.weightsEach P ts ds).all (· ≤ reachBytes) = true) {j : Nat} {t : TypeId} {d : DataW H} (ht : ts[j]? = some t) (hd : ds[j]? = some d) : ∀ n ∈ d.weights P t, n ≤ reachBytes := fun n hn => by
  have := List.all_eq_true.1 hz _ (DataW.weights_mem_each ht hd n hn)
  simpa using this

end Go.Proofs.YtnmjdpmfmbgoeaaRRR
