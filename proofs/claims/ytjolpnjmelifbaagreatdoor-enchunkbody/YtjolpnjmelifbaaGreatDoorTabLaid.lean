/- Where the listed variable math/bits.deBruijn64tab reads as it is listed, its cell is there that TrailingZeros(16) reads; hexa.Put with that. -/
import Derived.Test.YtjolpnjmelifbaaGreatDoorHexaFmtIn
import Derived.LaidMore
import Derived.OpenShut
import Derived.Stop.Joined
import Derived.Stop.LaidErr
import Derived.Lib.LaidTab
import Derived.Lib.LaidU8
namespace Go.Proofs.YtjolpnjmelifbaaGreatDoor
open Go.ChangeShapes Go.WideShapes Go.ChangeAt Go.RowKit
set_option linter.unusedVariables false
set_option maxRecDepth 100000

/-- The cell that TrailingZeros(16) reads. -/
def Tz (w : World) : Prop := w.cell? ⟨3, 15, none⟩ = some (.int .u8 4)
theorem Tz.lt {w : World} (h : Tz w) : 3 < w.heap.size := World.block_lt_of_cell? w _ h
theorem Tz.below {w w' : World} (h : Tz w) (hb : Below w.heap.size w w') : Tz w' := (hb.cell h.lt).trans h

theorem g64 : Tryz.prog.globalNamed "math/bits.deBruijn64tab" = some 3 := by kernel_rfl
theorem t64 : (Tryz.prog.globals[3]?).map (·.type) = some 129 := by kernel_rfl
theorem c5 : Tryz.prog.cellsOf 5 = 1 := by kernel_rfl
theorem c51 : Tryz.prog.cellsOf 129 = 64 := by kernel_rfl
def tab64 : List Int := [0, 1, 56, 2, 57, 49, 28, 3, 61, 58, 42, 50, 38, 29, 17, 4, 62, 47, 59, 36, 45, 43, 51, 22, 53, 39, 33, 30, 24, 18, 12, 5, 63, 55, 48, 27, 60, 41, 37, 16, 46, 35, 44, 21, 52, 32, 23, 11, 54, 26, 40, 15, 34, 20, 31, 10, 25, 14, 19, 9, 13, 8, 7, 6]
theorem tab_is {H : Type} : (Rows.laid_math_bits_deBruijn64tab : DataW H) = Lib.tabData .u8 tab64 := rfl

theorem tz_of_reads {W : World} (h : Lib.VarReads Tryz.prog W "math/bits.deBruijn64tab" Rows.laid_math_bits_deBruijn64tab) : Tz W := by
  obtain ⟨g, t, cs, fuel, p, hg, hty, hvar, hd⟩ := h
  obtain rfl := Option.some.inj (g64.symm.trans hg)
  obtain rfl := Option.some.inj (t64.symm.trans hty)
  rw [tab_is] at hd
  have hcs := Lib.cells_of_tab Tryz.underlying129 Tryz.underlying5 c5 c51 hd
  unfold Tz
  rw [World.var?_cell hg hvar 15, ← Array.getElem?_toList, hcs]
  rfl
/-- From what a row lists. -/
theorem tz_of_laid {W : World} {l : List (String × DataW Unit)} (h : laidMetH Tryz.prog l W) (hl : (l.filter fun x => x.2.handleName?.isSome) = []) (hm : ("math/bits.deBruijn64tab", Rows.laid_math_bits_deBruijn64tab) ∈ l) : Tz W := by
  unfold laidMetH at h
  rw [hl] at h
  exact tz_of_reads (Lib.laidMet.reads h hm)

theorem hput_any (n : Nat) (hn : n ≤ 18446744073709551615) (w : World) (hc : Tz w) :
    Calls Tryz.prog 20 #[.int .u64 n] w fun e w' => e = .returned (.string ⟨(Hx.put n).toArray⟩) ∧ Below w.heap.size w w' := H8.put_any n hn w hc hc.lt

end Go.Proofs.YtjolpnjmelifbaaGreatDoor
