/-
  DERIVED. GIVEN WITH THE SEED: THE CARDS: each row of YtjolpnjmelifbaaGreatDoorRows.lean that lists a variable, with what it lists TIED to the program's text (the seventh form; the later family's looks); each row that meets fmt, with fmt's text TOLD by the authors' own Lean function (tested against real Go, not proved from fmt's source: count such statements apart). THE CARD IS WHAT COUNTS. Prove the row's statement (the work); the ties are given (YtjolpnjmelifbaaGreatDoorTie.lean); close each card by the builder's one call (the guide's Derived/Test/ToyasCard.lean, 'card_holds'). Laid BY PROGRAM, IN A SANDBOX (cutbox-door.mjs). By AI agents, Wed Nov 11 2026. No macro, syntax, notation, axiom, sorry.
-/
import Derived.Test.YtjolpnjmelifbaaGreatDoorRows
import GoSem.ClaimSeven
namespace Go.Proofs.YtjolpnjmelifbaaGreatDoor
namespace Rows

/-- THE TIED CARD OF 'catchpitlaw10.EnchunkBody'. -/
def enchunkBodyCard : Claim7 := { stood := { row := enchunkBodyRow, standIns := [], harness := (true, "96584cd628dc58930ceee3f4c5fb001154a9b4077d20f548515342163a694a7d"), looks := true }, kinds := [], alts := [], laidByText := true, laidKinds := [.data, .data, .data, .data, .data, .pinned], laidTests := true, laidLooks := .later }
def EnchunkBodyCardSaid : Prop := Claim7.holds Tryz.pinned (.plain (OpenSpec.ofChange enchunkBodySpec)) enchunkBodyCard

/-- THE SECOND FORM's CARD OF 'catchpitlaw10.EnchunkBody'. -/
def enchunkBodyUptoCard : Claim7 := { stood := { row := enchunkBodyUptoRow, standIns := [], harness := (true, "96584cd628dc58930ceee3f4c5fb001154a9b4077d20f548515342163a694a7d"), looks := true }, kinds := [], alts := [], laidByText := true, laidKinds := [.data, .data, .data, .data, .data, .pinned], laidTests := true, laidLooks := .later }
def EnchunkBodyUptoCardSaid : Prop := Claim7.holds Tryz.pinned (.plain (OpenSpec.upto enchunkBodySpec)) enchunkBodyUptoCard
end Rows
end Go.Proofs.YtjolpnjmelifbaaGreatDoor
