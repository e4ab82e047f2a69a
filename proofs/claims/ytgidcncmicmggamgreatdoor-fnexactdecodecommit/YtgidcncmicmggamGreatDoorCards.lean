/-
  DERIVED. GIVEN WITH THE SEED: THE CARDS: each row of YtgidcncmicmggamGreatDoorRows.lean that lists a variable, with what it lists TIED to the program's text (the seventh form; the later family's looks); each row that meets fmt, with fmt's text TOLD by the authors' own Lean function (tested against real Go, not proved from fmt's source: count such statements apart). THE CARD IS WHAT COUNTS. Prove the row's statement (the work); the ties are given (YtgidcncmicmggamGreatDoorTie.lean); close each card by the builder's one call (the guide's Derived/Test/ToyasCard.lean, 'card_holds'). Laid BY PROGRAM, IN A SANDBOX (cutbox-door.mjs). By AI agents, Wed Nov 11 2026. No macro, syntax, notation, axiom, sorry.
-/
import Derived.Test.YtgidcncmicmggamGreatDoorRows
import GoSem.ClaimSeven
namespace Go.Proofs.YtgidcncmicmggamGreatDoor
namespace Rows

/-- THE TIED CARD OF 'laws.FnExactDecodeCommit'. -/
def fnExactDecodeCommitCard : Claim7 := { stood := { row := fnExactDecodeCommitRow, standIns := [], harness := (true, "25b137f37f281a17cc4590ccd9c06dbdf3859f120125aa8f59a9a78708c39e78"), looks := true }, kinds := [], alts := [], laidByText := true, laidKinds := [.data, .data, .data, .handle, .sentinel, .sentinel, .data, .sentinel], laidTests := true, laidLooks := .later }
def FnExactDecodeCommitCardSaid : Prop := Claim7.holds Tryz.pinned (.plain (OpenSpec.ofChange fnExactDecodeCommitSpec)) fnExactDecodeCommitCard

/-- THE TIED CARD OF 'laws.FnExactWriteFiles'. -/
def fnExactWriteFilesCard : Claim7 := { stood := { row := fnExactWriteFilesRow, standIns := [], harness := (true, "25b137f37f281a17cc4590ccd9c06dbdf3859f120125aa8f59a9a78708c39e78"), looks := true }, kinds := [], alts := [], laidByText := true, laidKinds := [.data, .data, .data, .data, .handle, .data, .pinned], laidTests := true, laidLooks := .later }
def FnExactWriteFilesCardSaid : Prop := Claim7.holds Tryz.pinned (.plain (OpenSpec.ofChange fnExactWriteFilesSpec)) fnExactWriteFilesCard

/-- THE TIED CARD OF 'laws.FnExactReadFiles'. -/
def fnExactReadFilesCard : Claim7 := { stood := { row := fnExactReadFilesRow, standIns := [], harness := (true, "25b137f37f281a17cc4590ccd9c06dbdf3859f120125aa8f59a9a78708c39e78"), looks := true }, kinds := [], alts := [], laidByText := true, laidKinds := [.data, .data, .data, .handle, .data, .sentinel], laidTests := true, laidLooks := .later }
def FnExactReadFilesCardSaid : Prop := Claim7.holds Tryz.pinned (.plain (OpenSpec.ofChange fnExactReadFilesSpec)) fnExactReadFilesCard

/-- THE SECOND FORM's CARD OF 'laws.FnExactDecodeCommit'. -/
def fnExactDecodeCommitUptoCard : Claim7 := { stood := { row := fnExactDecodeCommitUptoRow, standIns := [], harness := (true, "25b137f37f281a17cc4590ccd9c06dbdf3859f120125aa8f59a9a78708c39e78"), looks := true }, kinds := [], alts := [], laidByText := true, laidKinds := [.data, .data, .data, .handle, .sentinel, .sentinel, .data, .sentinel], laidTests := true, laidLooks := .later }
def FnExactDecodeCommitUptoCardSaid : Prop := Claim7.holds Tryz.pinned (.plain (OpenSpec.upto fnExactDecodeCommitSpec)) fnExactDecodeCommitUptoCard

/-- THE SECOND FORM's CARD OF 'laws.FnExactWriteFiles'. -/
def fnExactWriteFilesUptoCard : Claim7 := { stood := { row := fnExactWriteFilesUptoRow, standIns := [], harness := (true, "25b137f37f281a17cc4590ccd9c06dbdf3859f120125aa8f59a9a78708c39e78"), looks := true }, kinds := [], alts := [], laidByText := true, laidKinds := [.data, .data, .data, .data, .handle, .data, .pinned], laidTests := true, laidLooks := .later }
def FnExactWriteFilesUptoCardSaid : Prop := Claim7.holds Tryz.pinned (.plain (OpenSpec.upto fnExactWriteFilesSpec)) fnExactWriteFilesUptoCard

/-- THE SECOND FORM's CARD OF 'laws.FnExactReadFiles'. -/
def fnExactReadFilesUptoCard : Claim7 := { stood := { row := fnExactReadFilesUptoRow, standIns := [], harness := (true, "25b137f37f281a17cc4590ccd9c06dbdf3859f120125aa8f59a9a78708c39e78"), looks := true }, kinds := [], alts := [], laidByText := true, laidKinds := [.data, .data, .data, .handle, .data, .sentinel], laidTests := true, laidLooks := .later }
def FnExactReadFilesUptoCardSaid : Prop := Claim7.holds Tryz.pinned (.plain (OpenSpec.upto fnExactReadFilesSpec)) fnExactReadFilesUptoCard
end Rows
end Go.Proofs.YtgidcncmicmggamGreatDoor
