/-
  DERIVED. GIVEN WITH THE SEED: THE CARDS: each row of YtdimobigdkmcbaaDoorRows.lean that lists a variable, with what it lists TIED to the program's text (the seventh form; the later family's looks); each row that meets fmt, with fmt's text TOLD by the authors' own Lean function (tested against real Go, not proved from fmt's source: count such statements apart). THE CARD IS WHAT COUNTS. Prove the row's statement (the work); the ties are given (YtdimobigdkmcbaaDoorTie.lean); close each card by the builder's one call (the guide's Derived/Test/ToyasCard.lean, 'card_holds'). Laid BY PROGRAM, IN A SANDBOX (cutbox-door.mjs). By AI agents, Wed Nov 11 2026. No macro, syntax, notation, axiom, sorry.
-/
import Derived.Test.YtdimobigdkmcbaaDoorRows
import GoSem.ClaimSeven
namespace Go.Proofs.YtdimobigdkmcbaaDoor
namespace Rows

/-- THE TIED CARD OF 'catchpitlaw06.BlockScans'. -/
def blockScansCard : Claim7 := { stood := { row := blockScansRow, standIns := [], harness := (true, "506bdd86ee006c2db933375d3204c85ab16163eb0bdfd0828a77fefb26bc2982"), looks := false }, kinds := [], alts := [], laidByText := true, laidKinds := [.data, .data, .pinned], laidTests := true, laidLooks := .later }
def BlockScansCardSaid : Prop := Claim7.holds Tryd.pinned (.plain (OpenSpec.ofChange blockScansSpec)) blockScansCard

/-- THE TIED CARD OF 'catchpitlaw06.BlockPuts'. -/
def blockPutsCard : Claim7 := { stood := { row := blockPutsRow, standIns := [], harness := (true, "506bdd86ee006c2db933375d3204c85ab16163eb0bdfd0828a77fefb26bc2982"), looks := false }, kinds := [], alts := [], laidByText := true, laidKinds := [.data, .data, .pinned], laidTests := true, laidLooks := .later }
def BlockPutsCardSaid : Prop := Claim7.holds Tryd.pinned (.plain (OpenSpec.ofChange blockPutsSpec)) blockPutsCard

/-- THE TIED CARD OF 'catchpitlaw06.BlockCuts'. -/
def blockCutsCard : Claim7 := { stood := { row := blockCutsRow, standIns := [], harness := (true, "506bdd86ee006c2db933375d3204c85ab16163eb0bdfd0828a77fefb26bc2982"), looks := false }, kinds := [], alts := [], laidByText := true, laidKinds := [.data, .data, .pinned], laidTests := true, laidLooks := .later }
def BlockCutsCardSaid : Prop := Claim7.holds Tryd.pinned (.plain (OpenSpec.ofChange blockCutsSpec)) blockCutsCard

/-- THE TIED CARD OF 'catchpitlaw06.BlockLines'. -/
def blockLinesCard : Claim7 := { stood := { row := blockLinesRow, standIns := [], harness := (true, "506bdd86ee006c2db933375d3204c85ab16163eb0bdfd0828a77fefb26bc2982"), looks := false }, kinds := [], alts := [], laidByText := true, laidKinds := [.data, .data, .pinned], laidTests := true, laidLooks := .later }
def BlockLinesCardSaid : Prop := Claim7.holds Tryd.pinned (.plain (OpenSpec.ofChange blockLinesSpec)) blockLinesCard

/-- THE TIED CARD OF 'catchpitlaw06.BlockJoins'. -/
def blockJoinsCard : Claim7 := { stood := { row := blockJoinsRow, standIns := [], harness := (true, "506bdd86ee006c2db933375d3204c85ab16163eb0bdfd0828a77fefb26bc2982"), looks := false }, kinds := [], alts := [], laidByText := true, laidKinds := [.data, .data, .pinned], laidTests := true, laidLooks := .later }
def BlockJoinsCardSaid : Prop := Claim7.holds Tryd.pinned (.plain (OpenSpec.ofChange blockJoinsSpec)) blockJoinsCard

/-- THE TIED CARD OF 'catchpitlaw06.BlockSizes'. -/
def blockSizesCard : Claim7 := { stood := { row := blockSizesRow, standIns := [], harness := (true, "506bdd86ee006c2db933375d3204c85ab16163eb0bdfd0828a77fefb26bc2982"), looks := false }, kinds := [], alts := [], laidByText := true, laidKinds := [.data, .data, .pinned], laidTests := true, laidLooks := .later }
def BlockSizesCardSaid : Prop := Claim7.holds Tryd.pinned (.plain (OpenSpec.ofChange blockSizesSpec)) blockSizesCard

/-- THE SECOND FORM's CARD OF 'catchpitlaw06.BlockScans'. -/
def blockScansUptoCard : Claim7 := { stood := { row := blockScansUptoRow, standIns := [], harness := (true, "506bdd86ee006c2db933375d3204c85ab16163eb0bdfd0828a77fefb26bc2982"), looks := false }, kinds := [], alts := [], laidByText := true, laidKinds := [.data, .data, .pinned], laidTests := true, laidLooks := .later }
def BlockScansUptoCardSaid : Prop := Claim7.holds Tryd.pinned (.plain (OpenSpec.upto blockScansSpec)) blockScansUptoCard

/-- THE SECOND FORM's CARD OF 'catchpitlaw06.BlockPuts'. -/
def blockPutsUptoCard : Claim7 := { stood := { row := blockPutsUptoRow, standIns := [], harness := (true, "506bdd86ee006c2db933375d3204c85ab16163eb0bdfd0828a77fefb26bc2982"), looks := false }, kinds := [], alts := [], laidByText := true, laidKinds := [.data, .data, .pinned], laidTests := true, laidLooks := .later }
def BlockPutsUptoCardSaid : Prop := Claim7.holds Tryd.pinned (.plain (OpenSpec.upto blockPutsSpec)) blockPutsUptoCard

/-- THE SECOND FORM's CARD OF 'catchpitlaw06.BlockCuts'. -/
def blockCutsUptoCard : Claim7 := { stood := { row := blockCutsUptoRow, standIns := [], harness := (true, "506bdd86ee006c2db933375d3204c85ab16163eb0bdfd0828a77fefb26bc2982"), looks := false }, kinds := [], alts := [], laidByText := true, laidKinds := [.data, .data, .pinned], laidTests := true, laidLooks := .later }
def BlockCutsUptoCardSaid : Prop := Claim7.holds Tryd.pinned (.plain (OpenSpec.upto blockCutsSpec)) blockCutsUptoCard

/-- THE SECOND FORM's CARD OF 'catchpitlaw06.BlockLines'. -/
def blockLinesUptoCard : Claim7 := { stood := { row := blockLinesUptoRow, standIns := [], harness := (true, "506bdd86ee006c2db933375d3204c85ab16163eb0bdfd0828a77fefb26bc2982"), looks := false }, kinds := [], alts := [], laidByText := true, laidKinds := [.data, .data, .pinned], laidTests := true, laidLooks := .later }
def BlockLinesUptoCardSaid : Prop := Claim7.holds Tryd.pinned (.plain (OpenSpec.upto blockLinesSpec)) blockLinesUptoCard

/-- THE SECOND FORM's CARD OF 'catchpitlaw06.BlockJoins'. -/
def blockJoinsUptoCard : Claim7 := { stood := { row := blockJoinsUptoRow, standIns := [], harness := (true, "506bdd86ee006c2db933375d3204c85ab16163eb0bdfd0828a77fefb26bc2982"), looks := false }, kinds := [], alts := [], laidByText := true, laidKinds := [.data, .data, .pinned], laidTests := true, laidLooks := .later }
def BlockJoinsUptoCardSaid : Prop := Claim7.holds Tryd.pinned (.plain (OpenSpec.upto blockJoinsSpec)) blockJoinsUptoCard

/-- THE SECOND FORM's CARD OF 'catchpitlaw06.BlockSizes'. -/
def blockSizesUptoCard : Claim7 := { stood := { row := blockSizesUptoRow, standIns := [], harness := (true, "506bdd86ee006c2db933375d3204c85ab16163eb0bdfd0828a77fefb26bc2982"), looks := false }, kinds := [], alts := [], laidByText := true, laidKinds := [.data, .data, .pinned], laidTests := true, laidLooks := .later }
def BlockSizesUptoCardSaid : Prop := Claim7.holds Tryd.pinned (.plain (OpenSpec.upto blockSizesSpec)) blockSizesUptoCard
end Rows
end Go.Proofs.YtdimobigdkmcbaaDoor
