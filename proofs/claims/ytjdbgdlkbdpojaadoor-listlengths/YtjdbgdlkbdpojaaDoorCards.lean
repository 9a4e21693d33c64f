/-
  DERIVED. GIVEN WITH THE SEED: THE CARDS: each row of YtjdbgdlkbdpojaaDoorRows.lean that lists a variable, with what it lists TIED to the program's text (the seventh form; the later family's looks); each row that meets fmt, with fmt's text TOLD by the authors' own Lean function (tested against real Go, not proved from fmt's source: count such statements apart). THE CARD IS WHAT COUNTS. Prove the row's statement (the work); the ties are given (YtjdbgdlkbdpojaaDoorTie.lean); close each card by the builder's one call (the guide's Derived/Test/ToyasCard.lean, 'card_holds'). Laid BY PROGRAM, IN A SANDBOX (cutbox-door.mjs). By AI agents, Wed Nov 11 2026. No macro, syntax, notation, axiom, sorry.
-/
import Derived.Test.YtjdbgdlkbdpojaaDoorRows
import GoSem.ClaimSeven
namespace Go.Proofs.YtjdbgdlkbdpojaaDoor
namespace Rows

/-- THE TIED CARD OF 'catchpitlaw07.ListItems'. -/
def listItemsCard : Claim7 := { stood := { row := listItemsRow, standIns := [], harness := (true, "623e3872dad1cc46a76888920477df9090cdbfc4d13bf6aa4c8c85c33872482b"), looks := false }, kinds := [], alts := [], laidByText := true, laidKinds := [.data, .data, .pinned], laidTests := true, laidLooks := .later }
def ListItemsCardSaid : Prop := Claim7.holds Tryd.pinned (.plain (OpenSpec.ofChange listItemsSpec)) listItemsCard

/-- THE TIED CARD OF 'catchpitlaw07.ListLengths'. -/
def listLengthsCard : Claim7 := { stood := { row := listLengthsRow, standIns := [], harness := (true, "623e3872dad1cc46a76888920477df9090cdbfc4d13bf6aa4c8c85c33872482b"), looks := false }, kinds := [], alts := [], laidByText := true, laidKinds := [.data, .data, .pinned], laidTests := true, laidLooks := .later }
def ListLengthsCardSaid : Prop := Claim7.holds Tryd.pinned (.plain (OpenSpec.ofChange listLengthsSpec)) listLengthsCard

/-- THE TIED CARD OF 'catchpitlaw07.ListCodings'. -/
def listCodingsCard : Claim7 := { stood := { row := listCodingsRow, standIns := [], harness := (true, "623e3872dad1cc46a76888920477df9090cdbfc4d13bf6aa4c8c85c33872482b"), looks := false }, kinds := [], alts := [], laidByText := true, laidKinds := [.data, .data, .pinned], laidTests := true, laidLooks := .later }
def ListCodingsCardSaid : Prop := Claim7.holds Tryd.pinned (.plain (OpenSpec.ofChange listCodingsSpec)) listCodingsCard

/-- THE TIED CARD OF 'catchpitlaw07.ListJoins'. -/
def listJoinsCard : Claim7 := { stood := { row := listJoinsRow, standIns := [], harness := (true, "623e3872dad1cc46a76888920477df9090cdbfc4d13bf6aa4c8c85c33872482b"), looks := false }, kinds := [], alts := [], laidByText := true, laidKinds := [.data, .data, .pinned], laidTests := true, laidLooks := .later }
def ListJoinsCardSaid : Prop := Claim7.holds Tryd.pinned (.plain (OpenSpec.ofChange listJoinsSpec)) listJoinsCard

/-- THE TIED CARD OF 'catchpitlaw07.ListAgain'. -/
def listAgainCard : Claim7 := { stood := { row := listAgainRow, standIns := [], harness := (true, "623e3872dad1cc46a76888920477df9090cdbfc4d13bf6aa4c8c85c33872482b"), looks := false }, kinds := [], alts := [], laidByText := true, laidKinds := [.data, .data, .pinned], laidTests := true, laidLooks := .later }
def ListAgainCardSaid : Prop := Claim7.holds Tryd.pinned (.plain (OpenSpec.ofChange listAgainSpec)) listAgainCard

/-- THE SECOND FORM's CARD OF 'catchpitlaw07.ListItems'. -/
def listItemsUptoCard : Claim7 := { stood := { row := listItemsUptoRow, standIns := [], harness := (true, "623e3872dad1cc46a76888920477df9090cdbfc4d13bf6aa4c8c85c33872482b"), looks := false }, kinds := [], alts := [], laidByText := true, laidKinds := [.data, .data, .pinned], laidTests := true, laidLooks := .later }
def ListItemsUptoCardSaid : Prop := Claim7.holds Tryd.pinned (.plain (OpenSpec.upto listItemsSpec)) listItemsUptoCard

/-- THE SECOND FORM's CARD OF 'catchpitlaw07.ListLengths'. -/
def listLengthsUptoCard : Claim7 := { stood := { row := listLengthsUptoRow, standIns := [], harness := (true, "623e3872dad1cc46a76888920477df9090cdbfc4d13bf6aa4c8c85c33872482b"), looks := false }, kinds := [], alts := [], laidByText := true, laidKinds := [.data, .data, .pinned], laidTests := true, laidLooks := .later }
def ListLengthsUptoCardSaid : Prop := Claim7.holds Tryd.pinned (.plain (OpenSpec.upto listLengthsSpec)) listLengthsUptoCard

/-- THE SECOND FORM's CARD OF 'catchpitlaw07.ListCodings'. -/
def listCodingsUptoCard : Claim7 := { stood := { row := listCodingsUptoRow, standIns := [], harness := (true, "623e3872dad1cc46a76888920477df9090cdbfc4d13bf6aa4c8c85c33872482b"), looks := false }, kinds := [], alts := [], laidByText := true, laidKinds := [.data, .data, .pinned], laidTests := true, laidLooks := .later }
def ListCodingsUptoCardSaid : Prop := Claim7.holds Tryd.pinned (.plain (OpenSpec.upto listCodingsSpec)) listCodingsUptoCard

/-- THE SECOND FORM's CARD OF 'catchpitlaw07.ListJoins'. -/
def listJoinsUptoCard : Claim7 := { stood := { row := listJoinsUptoRow, standIns := [], harness := (true, "623e3872dad1cc46a76888920477df9090cdbfc4d13bf6aa4c8c85c33872482b"), looks := false }, kinds := [], alts := [], laidByText := true, laidKinds := [.data, .data, .pinned], laidTests := true, laidLooks := .later }
def ListJoinsUptoCardSaid : Prop := Claim7.holds Tryd.pinned (.plain (OpenSpec.upto listJoinsSpec)) listJoinsUptoCard

/-- THE SECOND FORM's CARD OF 'catchpitlaw07.ListAgain'. -/
def listAgainUptoCard : Claim7 := { stood := { row := listAgainUptoRow, standIns := [], harness := (true, "623e3872dad1cc46a76888920477df9090cdbfc4d13bf6aa4c8c85c33872482b"), looks := false }, kinds := [], alts := [], laidByText := true, laidKinds := [.data, .data, .pinned], laidTests := true, laidLooks := .later }
def ListAgainUptoCardSaid : Prop := Claim7.holds Tryd.pinned (.plain (OpenSpec.upto listAgainSpec)) listAgainUptoCard
end Rows
end Go.Proofs.YtjdbgdlkbdpojaaDoor
