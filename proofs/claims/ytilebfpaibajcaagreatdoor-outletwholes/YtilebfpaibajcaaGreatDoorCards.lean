/-
  DERIVED. GIVEN WITH THE SEED: THE CARDS: each row of YtilebfpaibajcaaGreatDoorRows.lean that lists a variable, with what it lists TIED to the program's text (the seventh form; the later family's looks); each row that meets fmt, with fmt's text TOLD by the authors' own Lean function (tested against real Go, not proved from fmt's source: count such statements apart). THE CARD IS WHAT COUNTS. Prove the row's statement (the work); the ties are given (YtilebfpaibajcaaGreatDoorTie.lean); close each card by the builder's one call (the guide's Derived/Test/ToyasCard.lean, 'card_holds'). Laid BY PROGRAM, IN A SANDBOX (cutbox-door.mjs). By AI agents, Wed Nov 11 2026. No macro, syntax, notation, axiom, sorry.
-/
import Derived.Test.YtilebfpaibajcaaGreatDoorRows
import GoSem.ClaimSeven
namespace Go.Proofs.YtilebfpaibajcaaGreatDoor
namespace Rows

/-- THE TIED CARD OF 'catchpitlaw14.OutletActs'. -/
def outletActsCard : Claim7 := { stood := { row := outletActsRow, standIns := [], harness := (true, "19948b4107cc1cf8805f968c014325b3d4b679651f0d05538404ed377a4c316a"), looks := true }, kinds := [], alts := [], laidByText := true, laidKinds := [.data], laidTests := true, laidLooks := .later }
def OutletActsCardSaid : Prop := Claim7.holds Tryz.pinned (.plain (OpenSpec.ofChange outletActsSpec)) outletActsCard

/-- THE TIED CARD OF 'catchpitlaw14.OutletWhole'. -/
def outletWholeCard : Claim7 := { stood := { row := outletWholeRow, standIns := [], harness := (true, "19948b4107cc1cf8805f968c014325b3d4b679651f0d05538404ed377a4c316a"), looks := true }, kinds := [], alts := [], laidByText := true, laidKinds := [.data, .data, .data, .pinned], laidTests := true, laidLooks := .later }
def OutletWholeCardSaid : Prop := Claim7.holds Tryz.pinned (.plain (OpenSpec.ofChange outletWholeSpec)) outletWholeCard

/-- THE TIED CARD OF 'catchpitlaw14.OutletWholes'. -/
def outletWholesCard : Claim7 := { stood := { row := outletWholesRow, standIns := [], harness := (true, "19948b4107cc1cf8805f968c014325b3d4b679651f0d05538404ed377a4c316a"), looks := true }, kinds := [], alts := [], laidByText := true, laidKinds := [.data, .data, .data, .pinned], laidTests := true, laidLooks := .later }
def OutletWholesCardSaid : Prop := Claim7.holds Tryz.pinned (.plain (OpenSpec.ofChange outletWholesSpec)) outletWholesCard

/-- THE SECOND FORM's CARD OF 'catchpitlaw14.OutletActs'. -/
def outletActsUptoCard : Claim7 := { stood := { row := outletActsUptoRow, standIns := [], harness := (true, "19948b4107cc1cf8805f968c014325b3d4b679651f0d05538404ed377a4c316a"), looks := true }, kinds := [], alts := [], laidByText := true, laidKinds := [.data], laidTests := true, laidLooks := .later }
def OutletActsUptoCardSaid : Prop := Claim7.holds Tryz.pinned (.plain (OpenSpec.upto outletActsSpec)) outletActsUptoCard

/-- THE SECOND FORM's CARD OF 'catchpitlaw14.OutletWhole'. -/
def outletWholeUptoCard : Claim7 := { stood := { row := outletWholeUptoRow, standIns := [], harness := (true, "19948b4107cc1cf8805f968c014325b3d4b679651f0d05538404ed377a4c316a"), looks := true }, kinds := [], alts := [], laidByText := true, laidKinds := [.data, .data, .data, .pinned], laidTests := true, laidLooks := .later }
def OutletWholeUptoCardSaid : Prop := Claim7.holds Tryz.pinned (.plain (OpenSpec.upto outletWholeSpec)) outletWholeUptoCard

/-- THE SECOND FORM's CARD OF 'catchpitlaw14.OutletWholes'. -/
def outletWholesUptoCard : Claim7 := { stood := { row := outletWholesUptoRow, standIns := [], harness := (true, "19948b4107cc1cf8805f968c014325b3d4b679651f0d05538404ed377a4c316a"), looks := true }, kinds := [], alts := [], laidByText := true, laidKinds := [.data, .data, .data, .pinned], laidTests := true, laidLooks := .later }
def OutletWholesUptoCardSaid : Prop := Claim7.holds Tryz.pinned (.plain (OpenSpec.upto outletWholesSpec)) outletWholesUptoCard
end Rows
end Go.Proofs.YtilebfpaibajcaaGreatDoor
