/- The names that may not be trailers: where their table lies, and the iterator that goes through them. -/
import Derived.Test.YtilebfpaibajcaaGreatDoorMG
import Derived.Test.YtilebfpaibajcaaGreatDoorMC
import Derived.Deep.MidRow
import Derived.LaidMore
import Derived.Stop.Joined
import Derived.Stop.LaidErr
import Derived.Lib.LaidU8
import Derived.Deep.RegionLaw
import Derived.Shelf.RegionOpen
import Derived.Shelf.Abstract
import Derived.TacticsInMore
import Derived.LoopNIn
import Derived.LoopIn
import Derived.OwnWalkIn
import Derived.Sort.QuietIn
import Derived.Shelf.AbstractIn
namespace Go.Proofs.YtilebfpaibajcaaGreatDoor
open Go.ChangeShapes Go.WideShapes Go.ChangeAt Go.RowKit
open Go.Shelf
open Oc Fl Ft
set_option linter.unusedVariables false
set_option maxRecDepth 100000

/-- The table of the names, where it lies. -/
def Tbl (w : World) : Prop := w.rangeAt 0 0 (tv nms)
theorem Tbl.lt {w : World} (h : Tbl w) : 0 < w.heap.size := World.block_lt_of_cell? w _ (h 0 _ rfl)
theorem Tbl.below {w w' : World} (h : Tbl w) (hb : Below w.heap.size w w') : Tbl w' := fun j v hv => (hb.cell (p := ⟨0, 0 + j, none⟩) h.lt).trans (h j v hv)
theorem Tbl.load {w : World} (h : Tbl w) : (Instr.loadAt 126 (.pointer (some ⟨0, 0, none⟩))).run Tryz.prog w = .ok (.agg (tv nms).toArray) w :=
  run_loadAt_mid w _ _ _ _ _ h Tryz.underlying126 rfl (by kernel_rfl)
theorem name_at {k : Nat} {n : ByteArray} (h : nms[k]? = some n) (W : World) : (Instr.index 126 (.agg (tv nms).toArray) (.int .i64 k)).run Tryz.prog W = .ok (.string n) W :=
  match k, (List.getElem?_eq_some_iff.1 h).1 with
  | 0, _ => by obtain rfl := Option.some.inj (show some _ = some n from h); kernel_rfl
  | 1, _ => by obtain rfl := Option.some.inj (show some _ = some n from h); kernel_rfl
  | 2, _ => by obtain rfl := Option.some.inj (show some _ = some n from h); kernel_rfl
  | 3, _ => by obtain rfl := Option.some.inj (show some _ = some n from h); kernel_rfl
  | 4, _ => by obtain rfl := Option.some.inj (show some _ = some n from h); kernel_rfl
  | 5, _ => by obtain rfl := Option.some.inj (show some _ = some n from h); kernel_rfl
  | 6, _ => by obtain rfl := Option.some.inj (show some _ = some n from h); kernel_rfl
  | 7, _ => by obtain rfl := Option.some.inj (show some _ = some n from h); kernel_rfl
  | 8, _ => by obtain rfl := Option.some.inj (show some _ = some n from h); kernel_rfl
  | 9, _ => by obtain rfl := Option.some.inj (show some _ = some n from h); kernel_rfl
  | 10, _ => by obtain rfl := Option.some.inj (show some _ = some n from h); kernel_rfl
  | 11, _ => by obtain rfl := Option.some.inj (show some _ = some n from h); kernel_rfl
  | 12, _ => by obtain rfl := Option.some.inj (show some _ = some n from h); kernel_rfl
  | 13, _ => by obtain rfl := Option.some.inj (show some _ = some n from h); kernel_rfl
  | 14, _ => by obtain rfl := Option.some.inj (show some _ = some n from h); kernel_rfl
  | 15, _ => by obtain rfl := Option.some.inj (show some _ = some n from h); kernel_rfl
  | 16, _ => by obtain rfl := Option.some.inj (show some _ = some n from h); kernel_rfl
  | 17, _ => by obtain rfl := Option.some.inj (show some _ = some n from h); kernel_rfl
  | 18, _ => by obtain rfl := Option.some.inj (show some _ = some n from h); kernel_rfl
  | 19, _ => by obtain rfl := Option.some.inj (show some _ = some n from h); kernel_rfl
  | 20, _ => by obtain rfl := Option.some.inj (show some _ = some n from h); kernel_rfl
  | 21, _ => by obtain rfl := Option.some.inj (show some _ = some n from h); kernel_rfl
  | 22, _ => by obtain rfl := Option.some.inj (show some _ = some n from h); kernel_rfl
  | 23, _ => by obtain rfl := Option.some.inj (show some _ = some n from h); kernel_rfl
  | 24, _ => by obtain rfl := Option.some.inj (show some _ = some n from h); kernel_rfl
  | 25, _ => by obtain rfl := Option.some.inj (show some _ = some n from h); kernel_rfl
  | 26, _ => by obtain rfl := Option.some.inj (show some _ = some n from h); kernel_rfl
  | 27, _ => by obtain rfl := Option.some.inj (show some _ = some n from h); kernel_rfl
  | k + 28, hk => absurd hk (by rw [nms_len]; omega)

theorem nm_name : Tryz.prog.globalNamed "catchpit/filter.names" = some 0 := by kernel_rfl
theorem nm_type : (Tryz.prog.globals[0]?).map (·.type) = some 126 := by kernel_rfl
theorem nm_c1 : Tryz.prog.cellsOf 9 = 1 := by kernel_rfl
def nmd {H : Type} (s : ByteArray) : DataW H := .lit (.string s.data.toList)
theorem nm_laid {H : Type} : (Rows.laid_catchpit_filter_names : DataW H) = .agg (nms.map nmd) := rfl

theorem tbl_of_reads {W : World} (h : Lib.VarReads Tryz.prog W "catchpit/filter.names" Rows.laid_catchpit_filter_names) : Tbl W := by
  obtain ⟨g, t, cs, fuel, p, hg, hty, hvar, hd⟩ := h
  obtain rfl := Option.some.inj (nm_name.symm.trans hg)
  obtain rfl := Option.some.inj (nm_type.symm.trans hty)
  rw [nm_laid] at hd
  intro j v hv
  simp only [tv, List.getElem?_map] at hv
  cases hn : nms[j]? with
  | none => rw [hn] at hv; cases hv
  | some n =>
    rw [hn] at hv
    cases hv
    have hj : j < 28 := (List.getElem?_eq_some_iff.1 hn).1
    obtain ⟨fuel', d, q, hdi, he⟩ := Lib.array_elem Tryz.underlying126 hd j hj
    rw [List.getElem?_map, hn] at hdi
    obtain rfl := Option.some.inj hdi
    obtain ⟨s, e0, e1, _⟩ := DataW.trod_string Tryz.underlying9 he
    rw [nm_c1] at e0
    simp only [nmd, Prod.mk.injEq, DataW.lit.injEq] at e1
    have hs : n = s := by
      have := e1.1
      simp at this
      exact b_ext (by simpa using this)
    subst hs
    have e2 := congrArg (·[0]?) e0
    simp only [List.getElem?_take, List.getElem?_drop] at e2
    rw [Nat.zero_add, World.var?_cell hg hvar j, ← Array.getElem?_toList]
    simpa using e2
/-- From what a row lists. -/
theorem tbl_of_laid {W : World} {l : List (String × DataW Unit)} (h : laidMetH Tryz.prog l W) (hl : (l.filter fun x => x.2.handleName?.isSome) = []) (hm : ("catchpit/filter.names", Rows.laid_catchpit_filter_names) ∈ l) : Tbl W := by
  unfold laidMetH at h
  rw [hl] at h
  exact tbl_of_reads (Lib.laidMet.reads h hm)

/-- What the iterator hands over. -/
def nmV : List (Array Value) := nms.map fun n => #[.string n]
theorem nmV_get {k : Nat} {n : ByteArray} (h : nms[k]? = some n) : nmV[k]? = some #[.string n] := by rw [nmV, List.getElem?_map, h]; rfl
theorem nmV_of {k : Nat} {x : Array Value} (h : nmV[k]? = some x) : ∃ n, nms[k]? = some n ∧ x = #[.string n] := by
  rw [nmV, List.getElem?_map] at h
  cases hp : nms[k]? with
  | none => rw [hp] at h; cases h
  | some p => rw [hp] at h; cases h; exact ⟨p, rfl, rfl⟩

end Go.Proofs.YtilebfpaibajcaaGreatDoor
