/-
  DERIVED. GIVEN WITH THE SEED: THE CARDS: each row of YtdbignianpkofaaDoorRows.lean that lists a variable, with what it lists TIED to the program's text (the seventh form; the later family's looks); each row that meets fmt, with fmt's text TOLD by the authors' own Lean function (tested against real Go, not proved from fmt's source: count such statements apart). THE CARD IS WHAT COUNTS. Prove the row's statement (the work); the ties are given (YtdbignianpkofaaDoorTie.lean); close each card by the builder's one call (the guide's Derived/Test/ToyasCard.lean, 'card_holds'). Laid BY PROGRAM, IN A SANDBOX (cutbox-door.mjs). By AI agents, Wed Nov 11 2026. No macro, syntax, notation, axiom, sorry.
-/
import Derived.Test.YtdbignianpkofaaDoorRows
import GoSem.ClaimSeven
namespace Go.Proofs.YtdbignianpkofaaDoor
namespace Rows

/-- THE TIED CARD OF 'catchpitlaw08.BodyScans'. -/
def bodyScansCard : Claim7 := { stood := { row := bodyScansRow, standIns := [], harness := (true, "5f54cc3f9eac98e3f2195eae4914c2cf2510732ea2f0b2ba966aeee02ce7bb3a"), looks := true }, kinds := [], alts := [], laidByText := true, laidKinds := [.data, .data, .pinned], laidTests := true, laidLooks := .later }
def BodyScansCardSaid : Prop := Claim7.holds Tryd.pinned (.plain (OpenSpec.ofChange bodyScansSpec)) bodyScansCard

/-- THE TIED CARD OF 'catchpitlaw08.BodyPuts'. -/
def bodyPutsCard : Claim7 := { stood := { row := bodyPutsRow, standIns := [], harness := (true, "5f54cc3f9eac98e3f2195eae4914c2cf2510732ea2f0b2ba966aeee02ce7bb3a"), looks := true }, kinds := [], alts := [], laidByText := true, laidKinds := [.data, .data, .pinned], laidTests := true, laidLooks := .later }
def BodyPutsCardSaid : Prop := Claim7.holds Tryd.pinned (.plain (OpenSpec.ofChange bodyPutsSpec)) bodyPutsCard

/-- THE TIED CARD OF 'catchpitlaw08.BodyCuts'. -/
def bodyCutsCard : Claim7 := { stood := { row := bodyCutsRow, standIns := [], harness := (true, "5f54cc3f9eac98e3f2195eae4914c2cf2510732ea2f0b2ba966aeee02ce7bb3a"), looks := true }, kinds := [], alts := [], laidByText := true, laidKinds := [.data, .data, .pinned], laidTests := true, laidLooks := .later }
def BodyCutsCardSaid : Prop := Claim7.holds Tryd.pinned (.plain (OpenSpec.ofChange bodyCutsSpec)) bodyCutsCard

/-- THE TIED CARD OF 'catchpitlaw08.BodyLimits'. -/
def bodyLimitsCard : Claim7 := { stood := { row := bodyLimitsRow, standIns := [], harness := (true, "5f54cc3f9eac98e3f2195eae4914c2cf2510732ea2f0b2ba966aeee02ce7bb3a"), looks := true }, kinds := [], alts := [], laidByText := true, laidKinds := [.data, .data, .pinned], laidTests := true, laidLooks := .later }
def BodyLimitsCardSaid : Prop := Claim7.holds Tryd.pinned (.plain (OpenSpec.ofChange bodyLimitsSpec)) bodyLimitsCard

/-- THE TIED CARD OF 'catchpitlaw08.BodyExtensions'. -/
def bodyExtensionsCard : Claim7 := { stood := { row := bodyExtensionsRow, standIns := [], harness := (true, "5f54cc3f9eac98e3f2195eae4914c2cf2510732ea2f0b2ba966aeee02ce7bb3a"), looks := true }, kinds := [], alts := [], laidByText := true, laidKinds := [.data, .data, .pinned], laidTests := true, laidLooks := .later }
def BodyExtensionsCardSaid : Prop := Claim7.holds Tryd.pinned (.plain (OpenSpec.ofChange bodyExtensionsSpec)) bodyExtensionsCard

/-- THE TIED CARD OF 'catchpitlaw08.BodyChunkings'. -/
def bodyChunkingsCard : Claim7 := { stood := { row := bodyChunkingsRow, standIns := [], harness := (true, "5f54cc3f9eac98e3f2195eae4914c2cf2510732ea2f0b2ba966aeee02ce7bb3a"), looks := true }, kinds := [], alts := [], laidByText := true, laidKinds := [.data, .data, .pinned], laidTests := true, laidLooks := .later }
def BodyChunkingsCardSaid : Prop := Claim7.holds Tryd.pinned (.plain (OpenSpec.ofChange bodyChunkingsSpec)) bodyChunkingsCard

/-- THE SECOND FORM's CARD OF 'catchpitlaw08.BodyScans'. -/
def bodyScansUptoCard : Claim7 := { stood := { row := bodyScansUptoRow, standIns := [], harness := (true, "5f54cc3f9eac98e3f2195eae4914c2cf2510732ea2f0b2ba966aeee02ce7bb3a"), looks := true }, kinds := [], alts := [], laidByText := true, laidKinds := [.data, .data, .pinned], laidTests := true, laidLooks := .later }
def BodyScansUptoCardSaid : Prop := Claim7.holds Tryd.pinned (.plain (OpenSpec.upto bodyScansSpec)) bodyScansUptoCard

/-- THE SECOND FORM's CARD OF 'catchpitlaw08.BodyPuts'. -/
def bodyPutsUptoCard : Claim7 := { stood := { row := bodyPutsUptoRow, standIns := [], harness := (true, "5f54cc3f9eac98e3f2195eae4914c2cf2510732ea2f0b2ba966aeee02ce7bb3a"), looks := true }, kinds := [], alts := [], laidByText := true, laidKinds := [.data, .data, .pinned], laidTests := true, laidLooks := .later }
def BodyPutsUptoCardSaid : Prop := Claim7.holds Tryd.pinned (.plain (OpenSpec.upto bodyPutsSpec)) bodyPutsUptoCard

/-- THE SECOND FORM's CARD OF 'catchpitlaw08.BodyCuts'. -/
def bodyCutsUptoCard : Claim7 := { stood := { row := bodyCutsUptoRow, standIns := [], harness := (true, "5f54cc3f9eac98e3f2195eae4914c2cf2510732ea2f0b2ba966aeee02ce7bb3a"), looks := true }, kinds := [], alts := [], laidByText := true, laidKinds := [.data, .data, .pinned], laidTests := true, laidLooks := .later }
def BodyCutsUptoCardSaid : Prop := Claim7.holds Tryd.pinned (.plain (OpenSpec.upto bodyCutsSpec)) bodyCutsUptoCard

/-- THE SECOND FORM's CARD OF 'catchpitlaw08.BodyLimits'. -/
def bodyLimitsUptoCard : Claim7 := { stood := { row := bodyLimitsUptoRow, standIns := [], harness := (true, "5f54cc3f9eac98e3f2195eae4914c2cf2510732ea2f0b2ba966aeee02ce7bb3a"), looks := true }, kinds := [], alts := [], laidByText := true, laidKinds := [.data, .data, .pinned], laidTests := true, laidLooks := .later }
def BodyLimitsUptoCardSaid : Prop := Claim7.holds Tryd.pinned (.plain (OpenSpec.upto bodyLimitsSpec)) bodyLimitsUptoCard

/-- THE SECOND FORM's CARD OF 'catchpitlaw08.BodyExtensions'. -/
def bodyExtensionsUptoCard : Claim7 := { stood := { row := bodyExtensionsUptoRow, standIns := [], harness := (true, "5f54cc3f9eac98e3f2195eae4914c2cf2510732ea2f0b2ba966aeee02ce7bb3a"), looks := true }, kinds := [], alts := [], laidByText := true, laidKinds := [.data, .data, .pinned], laidTests := true, laidLooks := .later }
def BodyExtensionsUptoCardSaid : Prop := Claim7.holds Tryd.pinned (.plain (OpenSpec.upto bodyExtensionsSpec)) bodyExtensionsUptoCard

/-- THE SECOND FORM's CARD OF 'catchpitlaw08.BodyChunkings'. -/
def bodyChunkingsUptoCard : Claim7 := { stood := { row := bodyChunkingsUptoRow, standIns := [], harness := (true, "5f54cc3f9eac98e3f2195eae4914c2cf2510732ea2f0b2ba966aeee02ce7bb3a"), looks := true }, kinds := [], alts := [], laidByText := true, laidKinds := [.data, .data, .pinned], laidTests := true, laidLooks := .later }
def BodyChunkingsUptoCardSaid : Prop := Claim7.holds Tryd.pinned (.plain (OpenSpec.upto bodyChunkingsSpec)) bodyChunkingsUptoCard
end Rows
end Go.Proofs.YtdbignianpkofaaDoor
