/-
  DERIVED. GIVEN WITH THE SEED: THE CARDS: each row of YtjkccacpffikbaaDoorRows.lean that lists a variable, with what it lists TIED to the program's text (the seventh form; the later family's looks); each row that meets fmt, with fmt's text TOLD by the authors' own Lean function (tested against real Go, not proved from fmt's source: count such statements apart). THE CARD IS WHAT COUNTS. Prove the row's statement (the work); the ties are given (YtjkccacpffikbaaDoorTie.lean); close each card by the builder's one call (the guide's Derived/Test/ToyasCard.lean, 'card_holds'). Laid BY PROGRAM, IN A SANDBOX (cutbox-door.mjs). By AI agents, Wed Nov 11 2026. No macro, syntax, notation, axiom, sorry.
-/
import Derived.Test.YtjkccacpffikbaaDoorRows
import GoSem.ClaimSeven
namespace Go.Proofs.YtjkccacpffikbaaDoor
namespace Rows

/-- THE TIED CARD OF 'catchpitlaw12.IntakeCuts'. -/
def intakeCutsCard : Claim7 := { stood := { row := intakeCutsRow, standIns := [], harness := (true, "0104b8ce29c69072d537bad36cc19f2dfe4bac37601a2e203cbb0292dfaf2e71"), looks := true }, kinds := [], alts := [], laidByText := true, laidKinds := [.data, .data, .pinned], laidTests := true, laidLooks := .later }
def IntakeCutsCardSaid : Prop := Claim7.holds Tryd.pinned (.plain (OpenSpec.ofChange intakeCutsSpec)) intakeCutsCard

/-- THE TIED CARD OF 'catchpitlaw12.IntakeWants'. -/
def intakeWantsCard : Claim7 := { stood := { row := intakeWantsRow, standIns := [], harness := (true, "0104b8ce29c69072d537bad36cc19f2dfe4bac37601a2e203cbb0292dfaf2e71"), looks := true }, kinds := [], alts := [], laidByText := true, laidKinds := [.data, .data, .pinned], laidTests := true, laidLooks := .later }
def IntakeWantsCardSaid : Prop := Claim7.holds Tryd.pinned (.plain (OpenSpec.ofChange intakeWantsSpec)) intakeWantsCard

/-- THE TIED CARD OF 'catchpitlaw12.IntakeFixed'. -/
def intakeFixedCard : Claim7 := { stood := { row := intakeFixedRow, standIns := [], harness := (true, "0104b8ce29c69072d537bad36cc19f2dfe4bac37601a2e203cbb0292dfaf2e71"), looks := true }, kinds := [], alts := [], laidByText := true, laidKinds := [.data, .data, .pinned], laidTests := true, laidLooks := .later }
def IntakeFixedCardSaid : Prop := Claim7.holds Tryd.pinned (.plain (OpenSpec.ofChange intakeFixedSpec)) intakeFixedCard

/-- THE SECOND FORM's CARD OF 'catchpitlaw12.IntakeCuts'. -/
def intakeCutsUptoCard : Claim7 := { stood := { row := intakeCutsUptoRow, standIns := [], harness := (true, "0104b8ce29c69072d537bad36cc19f2dfe4bac37601a2e203cbb0292dfaf2e71"), looks := true }, kinds := [], alts := [], laidByText := true, laidKinds := [.data, .data, .pinned], laidTests := true, laidLooks := .later }
def IntakeCutsUptoCardSaid : Prop := Claim7.holds Tryd.pinned (.plain (OpenSpec.upto intakeCutsSpec)) intakeCutsUptoCard

/-- THE SECOND FORM's CARD OF 'catchpitlaw12.IntakeWants'. -/
def intakeWantsUptoCard : Claim7 := { stood := { row := intakeWantsUptoRow, standIns := [], harness := (true, "0104b8ce29c69072d537bad36cc19f2dfe4bac37601a2e203cbb0292dfaf2e71"), looks := true }, kinds := [], alts := [], laidByText := true, laidKinds := [.data, .data, .pinned], laidTests := true, laidLooks := .later }
def IntakeWantsUptoCardSaid : Prop := Claim7.holds Tryd.pinned (.plain (OpenSpec.upto intakeWantsSpec)) intakeWantsUptoCard

/-- THE SECOND FORM's CARD OF 'catchpitlaw12.IntakeFixed'. -/
def intakeFixedUptoCard : Claim7 := { stood := { row := intakeFixedUptoRow, standIns := [], harness := (true, "0104b8ce29c69072d537bad36cc19f2dfe4bac37601a2e203cbb0292dfaf2e71"), looks := true }, kinds := [], alts := [], laidByText := true, laidKinds := [.data, .data, .pinned], laidTests := true, laidLooks := .later }
def IntakeFixedUptoCardSaid : Prop := Claim7.holds Tryd.pinned (.plain (OpenSpec.upto intakeFixedSpec)) intakeFixedUptoCard
end Rows
end Go.Proofs.YtjkccacpffikbaaDoor
