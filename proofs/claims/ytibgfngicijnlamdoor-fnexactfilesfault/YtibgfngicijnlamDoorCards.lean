/-
  DERIVED. GIVEN WITH THE SEED: THE CARDS: each row of YtibgfngicijnlamDoorRows.lean that lists a variable, with what it lists TIED to the program's text (the seventh form; the later family's looks); each row that meets fmt, with fmt's text TOLD by the authors' own Lean function (tested against real Go, not proved from fmt's source: count such statements apart). THE CARD IS WHAT COUNTS. Prove the row's statement (the work); the ties are given (YtibgfngicijnlamDoorTie.lean); close each card by the builder's one call (the guide's Derived/Test/ToyasCard.lean, 'card_holds'). Laid BY PROGRAM, IN A SANDBOX (cutbox-door.mjs). By AI agents, Wed Nov 11 2026. No macro, syntax, notation, axiom, sorry.
-/
import Derived.Test.YtibgfngicijnlamDoorRows
import GoSem.ClaimSeven
namespace Go.Proofs.YtibgfngicijnlamDoor
namespace Rows

/-- THE TIED CARD OF 'laws.FnExactEncodeCommit'. -/
def fnExactEncodeCommitCard : Claim7 := { stood := { row := fnExactEncodeCommitRow, standIns := [], harness := (true, "93d4334af4785d3401b9314b11e699b4d700777fca7025d2d0f0f84605827d79"), looks := true }, kinds := [], alts := [], laidByText := true, laidKinds := [.data, .data, .data, .handle, .data], laidTests := true, laidLooks := .later }
def FnExactEncodeCommitCardSaid : Prop := Claim7.holds Tryd.pinned (.plain (OpenSpec.ofChange fnExactEncodeCommitSpec)) fnExactEncodeCommitCard

/-- THE TIED CARD OF 'laws.FnExactPathFault'. -/
def fnExactPathFaultCard : Claim7 := { stood := { row := fnExactPathFaultRow, standIns := [], harness := (true, "93d4334af4785d3401b9314b11e699b4d700777fca7025d2d0f0f84605827d79"), looks := true }, kinds := [], alts := [], laidByText := true, laidKinds := [.data, .pinned], laidTests := true, laidLooks := .later }
def FnExactPathFaultCardSaid : Prop := Claim7.holds Tryd.pinned (.plain (OpenSpec.ofChange fnExactPathFaultSpec)) fnExactPathFaultCard

/-- THE TIED CARD OF 'laws.FnExactFilesFault'. -/
def fnExactFilesFaultCard : Claim7 := { stood := { row := fnExactFilesFaultRow, standIns := [], harness := (true, "93d4334af4785d3401b9314b11e699b4d700777fca7025d2d0f0f84605827d79"), looks := true }, kinds := [], alts := [], laidByText := true, laidKinds := [.data, .pinned], laidTests := true, laidLooks := .later }
def FnExactFilesFaultCardSaid : Prop := Claim7.holds Tryd.pinned (.plain (OpenSpec.ofChange fnExactFilesFaultSpec)) fnExactFilesFaultCard

/-- THE SECOND FORM's CARD OF 'laws.FnExactEncodeCommit'. -/
def fnExactEncodeCommitUptoCard : Claim7 := { stood := { row := fnExactEncodeCommitUptoRow, standIns := [], harness := (true, "93d4334af4785d3401b9314b11e699b4d700777fca7025d2d0f0f84605827d79"), looks := true }, kinds := [], alts := [], laidByText := true, laidKinds := [.data, .data, .data, .handle, .data], laidTests := true, laidLooks := .later }
def FnExactEncodeCommitUptoCardSaid : Prop := Claim7.holds Tryd.pinned (.plain (OpenSpec.upto fnExactEncodeCommitSpec)) fnExactEncodeCommitUptoCard

/-- THE SECOND FORM's CARD OF 'laws.FnExactPathFault'. -/
def fnExactPathFaultUptoCard : Claim7 := { stood := { row := fnExactPathFaultUptoRow, standIns := [], harness := (true, "93d4334af4785d3401b9314b11e699b4d700777fca7025d2d0f0f84605827d79"), looks := true }, kinds := [], alts := [], laidByText := true, laidKinds := [.data, .pinned], laidTests := true, laidLooks := .later }
def FnExactPathFaultUptoCardSaid : Prop := Claim7.holds Tryd.pinned (.plain (OpenSpec.upto fnExactPathFaultSpec)) fnExactPathFaultUptoCard

/-- THE SECOND FORM's CARD OF 'laws.FnExactFilesFault'. -/
def fnExactFilesFaultUptoCard : Claim7 := { stood := { row := fnExactFilesFaultUptoRow, standIns := [], harness := (true, "93d4334af4785d3401b9314b11e699b4d700777fca7025d2d0f0f84605827d79"), looks := true }, kinds := [], alts := [], laidByText := true, laidKinds := [.data, .pinned], laidTests := true, laidLooks := .later }
def FnExactFilesFaultUptoCardSaid : Prop := Claim7.holds Tryd.pinned (.plain (OpenSpec.upto fnExactFilesFaultSpec)) fnExactFilesFaultUptoCard
end Rows
end Go.Proofs.YtibgfngicijnlamDoor
