/-
  DERIVED. GIVEN WITH THE SEED: THE CARDS: each row of YtpeceneceimonaaDoorRows.lean that lists a variable, with what it lists TIED to the program's text (the seventh form; the later family's looks); each row that meets fmt, with fmt's text TOLD by the authors' own Lean function (tested against real Go, not proved from fmt's source: count such statements apart). THE CARD IS WHAT COUNTS. Prove the row's statement (the work); the ties are given (YtpeceneceimonaaDoorTie.lean); close each card by the builder's one call (the guide's Derived/Test/ToyasCard.lean, 'card_holds'). Laid BY PROGRAM, IN A SANDBOX (cutbox-door.mjs). By AI agents, Wed Nov 11 2026. No macro, syntax, notation, axiom, sorry.
-/
import Derived.Test.YtpeceneceimonaaDoorRows
import GoSem.ClaimSeven
namespace Go.Proofs.YtpeceneceimonaaDoor
namespace Rows

/-- THE TIED CARD OF 'catchpitlaw09.DechunkPieces'. -/
def dechunkPiecesCard : Claim7 := { stood := { row := dechunkPiecesRow, standIns := [], harness := (true, "778408fbc28568eecdcf547036400ee7bf808a633045b4e472888d5a2b4bf766"), looks := false }, kinds := [], alts := [], laidByText := true, laidKinds := [.data, .data, .pinned], laidTests := true, laidLooks := .later }
def DechunkPiecesCardSaid : Prop := Claim7.holds Tryd.pinned (.plain (OpenSpec.ofChange dechunkPiecesSpec)) dechunkPiecesCard

/-- THE TIED CARD OF 'catchpitlaw09.DechunkBytes'. -/
def dechunkBytesCard : Claim7 := { stood := { row := dechunkBytesRow, standIns := [], harness := (true, "778408fbc28568eecdcf547036400ee7bf808a633045b4e472888d5a2b4bf766"), looks := false }, kinds := [], alts := [], laidByText := true, laidKinds := [.data, .data, .pinned], laidTests := true, laidLooks := .later }
def DechunkBytesCardSaid : Prop := Claim7.holds Tryd.pinned (.plain (OpenSpec.ofChange dechunkBytesSpec)) dechunkBytesCard

/-- THE TIED CARD OF 'catchpitlaw09.DechunkStays'. -/
def dechunkStaysCard : Claim7 := { stood := { row := dechunkStaysRow, standIns := [], harness := (true, "778408fbc28568eecdcf547036400ee7bf808a633045b4e472888d5a2b4bf766"), looks := false }, kinds := [], alts := [], laidByText := true, laidKinds := [.data, .data, .pinned], laidTests := true, laidLooks := .later }
def DechunkStaysCardSaid : Prop := Claim7.holds Tryd.pinned (.plain (OpenSpec.ofChange dechunkStaysSpec)) dechunkStaysCard

/-- THE TIED CARD OF 'catchpitlaw09.DechunkCounts'. -/
def dechunkCountsCard : Claim7 := { stood := { row := dechunkCountsRow, standIns := [], harness := (true, "778408fbc28568eecdcf547036400ee7bf808a633045b4e472888d5a2b4bf766"), looks := false }, kinds := [], alts := [], laidByText := true, laidKinds := [.data, .data, .pinned], laidTests := true, laidLooks := .later }
def DechunkCountsCardSaid : Prop := Claim7.holds Tryd.pinned (.plain (OpenSpec.ofChange dechunkCountsSpec)) dechunkCountsCard

/-- THE SECOND FORM's CARD OF 'catchpitlaw09.DechunkPieces'. -/
def dechunkPiecesUptoCard : Claim7 := { stood := { row := dechunkPiecesUptoRow, standIns := [], harness := (true, "778408fbc28568eecdcf547036400ee7bf808a633045b4e472888d5a2b4bf766"), looks := false }, kinds := [], alts := [], laidByText := true, laidKinds := [.data, .data, .pinned], laidTests := true, laidLooks := .later }
def DechunkPiecesUptoCardSaid : Prop := Claim7.holds Tryd.pinned (.plain (OpenSpec.upto dechunkPiecesSpec)) dechunkPiecesUptoCard

/-- THE SECOND FORM's CARD OF 'catchpitlaw09.DechunkBytes'. -/
def dechunkBytesUptoCard : Claim7 := { stood := { row := dechunkBytesUptoRow, standIns := [], harness := (true, "778408fbc28568eecdcf547036400ee7bf808a633045b4e472888d5a2b4bf766"), looks := false }, kinds := [], alts := [], laidByText := true, laidKinds := [.data, .data, .pinned], laidTests := true, laidLooks := .later }
def DechunkBytesUptoCardSaid : Prop := Claim7.holds Tryd.pinned (.plain (OpenSpec.upto dechunkBytesSpec)) dechunkBytesUptoCard

/-- THE SECOND FORM's CARD OF 'catchpitlaw09.DechunkStays'. -/
def dechunkStaysUptoCard : Claim7 := { stood := { row := dechunkStaysUptoRow, standIns := [], harness := (true, "778408fbc28568eecdcf547036400ee7bf808a633045b4e472888d5a2b4bf766"), looks := false }, kinds := [], alts := [], laidByText := true, laidKinds := [.data, .data, .pinned], laidTests := true, laidLooks := .later }
def DechunkStaysUptoCardSaid : Prop := Claim7.holds Tryd.pinned (.plain (OpenSpec.upto dechunkStaysSpec)) dechunkStaysUptoCard

/-- THE SECOND FORM's CARD OF 'catchpitlaw09.DechunkCounts'. -/
def dechunkCountsUptoCard : Claim7 := { stood := { row := dechunkCountsUptoRow, standIns := [], harness := (true, "778408fbc28568eecdcf547036400ee7bf808a633045b4e472888d5a2b4bf766"), looks := false }, kinds := [], alts := [], laidByText := true, laidKinds := [.data, .data, .pinned], laidTests := true, laidLooks := .later }
def DechunkCountsUptoCardSaid : Prop := Claim7.holds Tryd.pinned (.plain (OpenSpec.upto dechunkCountsSpec)) dechunkCountsUptoCard
end Rows
end Go.Proofs.YtpeceneceimonaaDoor
