/-
  DERIVED. GIVEN WITH THE SEED: THE CARDS: each row of YtjkccacpffikbaaGreatDoorRows.lean that lists a variable, with what it lists TIED to the program's text (the seventh form; the later family's looks); each row that meets fmt, with fmt's text TOLD by the authors' own Lean function (tested against real Go, not proved from fmt's source: count such statements apart). THE CARD IS WHAT COUNTS. Prove the row's statement (the work); the ties are given (YtjkccacpffikbaaGreatDoorTie.lean); close each card by the builder's one call (the guide's Derived/Test/ToyasCard.lean, 'card_holds'). Laid BY PROGRAM, IN A SANDBOX (cutbox-door.mjs). By AI agents, Wed Nov 11 2026. No macro, syntax, notation, axiom, sorry.
-/
import Derived.Test.YtjkccacpffikbaaGreatDoorRows
import GoSem.ClaimSeven
namespace Go.Proofs.YtjkccacpffikbaaGreatDoor
namespace Rows

/-- THE TIED CARD OF 'catchpitlaw12.IntakeActs'. -/
def intakeActsCard : Claim7 := { stood := { row := intakeActsRow, standIns := [], harness := (true, "d3939ec5fb4d4b9a20ab1961bfcb18078a73b3826527e08e677df2d7e0b603bd"), looks := true }, kinds := [], alts := [], laidByText := true, laidKinds := [.data, .data, .pinned], laidTests := true, laidLooks := .later }
def IntakeActsCardSaid : Prop := Claim7.holds Tryz.pinned (.plain (OpenSpec.ofChange intakeActsSpec)) intakeActsCard

/-- THE SECOND FORM's CARD OF 'catchpitlaw12.IntakeActs'. -/
def intakeActsUptoCard : Claim7 := { stood := { row := intakeActsUptoRow, standIns := [], harness := (true, "d3939ec5fb4d4b9a20ab1961bfcb18078a73b3826527e08e677df2d7e0b603bd"), looks := true }, kinds := [], alts := [], laidByText := true, laidKinds := [.data, .data, .pinned], laidTests := true, laidLooks := .later }
def IntakeActsUptoCardSaid : Prop := Claim7.holds Tryz.pinned (.plain (OpenSpec.upto intakeActsSpec)) intakeActsUptoCard
end Rows
end Go.Proofs.YtjkccacpffikbaaGreatDoor
