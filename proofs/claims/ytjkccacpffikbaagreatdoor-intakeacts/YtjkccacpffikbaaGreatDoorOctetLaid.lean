/- Where the listed variable octet.wordSpans reads as it is listed, the letters and digits lie in its cells. -/
import Derived.Test.YtjkccacpffikbaaGreatDoorOctetGo
import Derived.LaidMore
import Derived.Stop.Joined
import Derived.Stop.LaidErr
import Derived.Lib.LaidU8
namespace Go.Proofs.YtjkccacpffikbaaGreatDoor
open Go.ChangeShapes Go.WideShapes Go.ChangeAt Go.RowKit
set_option linter.unusedVariables false
set_option maxRecDepth 100000

theorem sp_name : Tryz.prog.globalNamed "catchpit/octet.wordSpans" = some 0 := by kernel_rfl
theorem sp_type : (Tryz.prog.globals[0]?).map (·.type) = some 112 := by kernel_rfl
theorem sp_c1 : Tryz.prog.cellsOf 5 = 1 := by kernel_rfl
theorem sp_c2 : Tryz.prog.cellsOf 111 = 2 := by kernel_rfl

theorem sp_at {W : World} (h : Lib.VarReads Tryz.prog W "catchpit/octet.wordSpans" Rows.laid_catchpit_octet_wordSpans) (i : Nat) (a b : Int) (hi : (i, a, b) ∈ ([(0, 48, 57), (1, 65, 90), (2, 97, 122)] : List (Nat × Int × Int))) :
    W.cell? ⟨0, 2 * i, none⟩ = some (.int .u8 a) ∧ W.cell? ⟨0, 2 * i + 1, none⟩ = some (.int .u8 b) := by
  obtain ⟨g, t, cs, fuel, p, hg, hty, hvar, hd⟩ := h
  obtain rfl := Option.some.inj (sp_name.symm.trans hg)
  obtain rfl := Option.some.inj (sp_type.symm.trans hty)
  have hi3 : i < 3 := by
    simp only [List.mem_cons, List.not_mem_nil, or_false, Prod.mk.injEq] at hi; omega
  obtain ⟨fuel', d, q, hdi, he⟩ := Lib.array_elem Tryz.underlying112 hd i hi3
  have hd2 : d = .agg ([a, b].map fun z => .lit (.int .u8 z)) := by
    simp only [List.mem_cons, List.not_mem_nil, or_false, Prod.mk.injEq] at hi
    rcases hi with ⟨rfl, rfl, rfl⟩ | ⟨rfl, rfl, rfl⟩ | ⟨rfl, rfl, rfl⟩ <;> exact (Option.some.inj hdi).symm
  subst hd2
  rw [sp_c2] at he
  have hcs := Lib.ints_of_struct Tryz.underlying111 (fun j f hj => by
    match j, hj with
    | 0, hj => simp at hj; subst hj; exact ⟨Tryz.underlying5, rfl, sp_c1⟩
    | 1, hj => simp at hj; subst hj; exact ⟨Tryz.underlying5, rfl, sp_c1⟩
    | j + 2, hj => simp at hj) (by rw [sp_c2]; rfl) he
  have e0 := congrArg (·[0]?) hcs
  have e1 := congrArg (·[1]?) hcs
  simp only [List.getElem?_take, List.getElem?_drop] at e0 e1
  constructor
  · rw [World.var?_cell hg hvar (2 * i), ← Array.getElem?_toList]
    simpa [Nat.mul_comm] using e0
  · rw [World.var?_cell hg hvar (2 * i + 1), ← Array.getElem?_toList]
    simpa [Nat.mul_comm] using e1

theorem cell_size {W : World} {g off : Nat} {v : Value} (h : W.cell? ⟨g, off, none⟩ = some v) : g < W.heap.size := by
  rcases Nat.lt_or_ge g W.heap.size with h1 | h1
  · exact h1
  · simp [World.cell?, Array.getElem?_eq_none h1] at h

theorem spans_of_reads {W : World} (h : Lib.VarReads Tryz.prog W "catchpit/octet.wordSpans" Rows.laid_catchpit_octet_wordSpans) : Spans W := by
  have h0 := sp_at h 0 48 57 (by decide)
  have h1 := sp_at h 1 65 90 (by decide)
  have h2 := sp_at h 2 97 122 (by decide)
  exact ⟨cell_size h0.1, h0.1, h0.2, h1.1, h1.2, h2.1, h2.2⟩

/-- From what a row lists. -/
theorem spans_of_laid {W : World} {l : List (String × DataW Unit)} (h : laidMetH Tryz.prog l W) (hl : (l.filter fun x => x.2.handleName?.isSome) = []) (hm : ("catchpit/octet.wordSpans", Rows.laid_catchpit_octet_wordSpans) ∈ l) : Spans W := by
  unfold laidMetH at h
  rw [hl] at h
  exact spans_of_reads (Lib.laidMet.reads h hm)

end Go.Proofs.YtjkccacpffikbaaGreatDoor
