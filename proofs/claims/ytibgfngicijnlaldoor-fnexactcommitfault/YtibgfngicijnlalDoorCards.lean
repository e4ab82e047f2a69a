/-
  DERIVED. GIVEN WITH THE SEED: THE CARDS: each row of YtibgfngicijnlalDoorRows.lean that lists a variable, with what it lists TIED to the program's text (the seventh form; the later family's looks); each row that meets fmt, with fmt's text TOLD by the authors' own Lean function (tested against real Go, not proved from fmt's source: count such statements apart). THE CARD IS WHAT COUNTS. Prove the row's statement (the work); the ties are given (YtibgfngicijnlalDoorTie.lean); close each card by the builder's one call (the guide's Derived/Test/ToyasCard.lean, 'card_holds'). Laid BY PROGRAM, IN A SANDBOX (cutbox-door.mjs). By AI agents, Wed Nov 11 2026. No macro, syntax, notation, axiom, sorry.
-/
import Derived.Test.YtibgfngicijnlalDoorRows
import GoSem.ClaimSeven
namespace Go.Proofs.YtibgfngicijnlalDoor
namespace Rows

/-- THE TIED CARD OF 'laws.FnExactTreeFault'. -/
def fnExactTreeFaultCard : Claim7 := { stood := { row := fnExactTreeFaultRow, standIns := [], harness := (true, "e2b38add3e2bfc0e39d5a18ea07cf9b26721c99cdbf23c6c950977a903f44068"), looks := true }, kinds := [], alts := [], laidByText := true, laidKinds := [.data, .data, .data, .handle, .data], laidTests := true, laidLooks := .later }
def FnExactTreeFaultCardSaid : Prop := Claim7.holds Tryd.pinned (.plain (OpenSpec.ofChange fnExactTreeFaultSpec)) fnExactTreeFaultCard

/-- THE TIED CARD OF 'laws.FnExactEncodeTree'. -/
def fnExactEncodeTreeCard : Claim7 := { stood := { row := fnExactEncodeTreeRow, standIns := [], harness := (true, "e2b38add3e2bfc0e39d5a18ea07cf9b26721c99cdbf23c6c950977a903f44068"), looks := true }, kinds := [], alts := [], laidByText := true, laidKinds := [.data, .data, .data, .handle, .data], laidTests := true, laidLooks := .later }
def FnExactEncodeTreeCardSaid : Prop := Claim7.holds Tryd.pinned (.plain (OpenSpec.ofChange fnExactEncodeTreeSpec)) fnExactEncodeTreeCard

/-- THE TIED CARD OF 'laws.FnExactCommitFault'. -/
def fnExactCommitFaultCard : Claim7 := { stood := { row := fnExactCommitFaultRow, standIns := [], harness := (true, "e2b38add3e2bfc0e39d5a18ea07cf9b26721c99cdbf23c6c950977a903f44068"), looks := true }, kinds := [], alts := [], laidByText := true, laidKinds := [.data, .data, .data, .handle, .data], laidTests := true, laidLooks := .later }
def FnExactCommitFaultCardSaid : Prop := Claim7.holds Tryd.pinned (.plain (OpenSpec.ofChange fnExactCommitFaultSpec)) fnExactCommitFaultCard

/-- THE SECOND FORM's CARD OF 'laws.FnExactTreeFault'. -/
def fnExactTreeFaultUptoCard : Claim7 := { stood := { row := fnExactTreeFaultUptoRow, standIns := [], harness := (true, "e2b38add3e2bfc0e39d5a18ea07cf9b26721c99cdbf23c6c950977a903f44068"), looks := true }, kinds := [], alts := [], laidByText := true, laidKinds := [.data, .data, .data, .handle, .data], laidTests := true, laidLooks := .later }
def FnExactTreeFaultUptoCardSaid : Prop := Claim7.holds Tryd.pinned (.plain (OpenSpec.upto fnExactTreeFaultSpec)) fnExactTreeFaultUptoCard

/-- THE SECOND FORM's CARD OF 'laws.FnExactEncodeTree'. -/
def fnExactEncodeTreeUptoCard : Claim7 := { stood := { row := fnExactEncodeTreeUptoRow, standIns := [], harness := (true, "e2b38add3e2bfc0e39d5a18ea07cf9b26721c99cdbf23c6c950977a903f44068"), looks := true }, kinds := [], alts := [], laidByText := true, laidKinds := [.data, .data, .data, .handle, .data], laidTests := true, laidLooks := .later }
def FnExactEncodeTreeUptoCardSaid : Prop := Claim7.holds Tryd.pinned (.plain (OpenSpec.upto fnExactEncodeTreeSpec)) fnExactEncodeTreeUptoCard

/-- THE SECOND FORM's CARD OF 'laws.FnExactCommitFault'. -/
def fnExactCommitFaultUptoCard : Claim7 := { stood := { row := fnExactCommitFaultUptoRow, standIns := [], harness := (true, "e2b38add3e2bfc0e39d5a18ea07cf9b26721c99cdbf23c6c950977a903f44068"), looks := true }, kinds := [], alts := [], laidByText := true, laidKinds := [.data, .data, .data, .handle, .data], laidTests := true, laidLooks := .later }
def FnExactCommitFaultUptoCardSaid : Prop := Claim7.holds Tryd.pinned (.plain (OpenSpec.upto fnExactCommitFaultSpec)) fnExactCommitFaultUptoCard
end Rows
end Go.Proofs.YtibgfngicijnlalDoor
