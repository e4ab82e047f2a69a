/-
  DERIVED. GIVEN WITH THE SEED: THE CARDS: each row of YtaggjnaogmhfpaaDoorRows.lean that lists a variable, with what it lists TIED to the program's text (the seventh form; the later family's looks); each row that meets fmt, with fmt's text TOLD by the authors' own Lean function (tested against real Go, not proved from fmt's source: count such statements apart). THE CARD IS WHAT COUNTS. Prove the row's statement (the work); the ties are given (YtaggjnaogmhfpaaDoorTie.lean); close each card by the builder's one call (the guide's Derived/Test/ToyasCard.lean, 'card_holds'). Laid BY PROGRAM, IN A SANDBOX (cutbox-door.mjs). By AI agents, Wed Nov 11 2026. No macro, syntax, notation, axiom, sorry.
-/
import Derived.Test.YtaggjnaogmhfpaaDoorRows
import GoSem.ClaimSeven
namespace Go.Proofs.YtaggjnaogmhfpaaDoor
namespace Rows

/-- THE TIED CARD OF 'laws.FnExactDiffFiles'. -/
def fnExactDiffFilesCard : Claim7 := { stood := { row := fnExactDiffFilesRow, standIns := [], harness := (true, "6ba0f608245e01de54191345c2b03740685d3ea84ef9aa1b1ff17204091eb132"), looks := false }, kinds := [], alts := [], laidByText := true, laidKinds := [.data, .pinned], laidTests := true, laidLooks := .later }
def FnExactDiffFilesCardSaid : Prop := Claim7.holds Tryd.pinned (.plain (OpenSpec.ofChange fnExactDiffFilesSpec)) fnExactDiffFilesCard

/-- THE TIED CARD OF 'laws.FnExactApplyDeltas'. -/
def fnExactApplyDeltasCard : Claim7 := { stood := { row := fnExactApplyDeltasRow, standIns := [], harness := (true, "6ba0f608245e01de54191345c2b03740685d3ea84ef9aa1b1ff17204091eb132"), looks := false }, kinds := [], alts := [], laidByText := true, laidKinds := [.data, .pinned], laidTests := true, laidLooks := .later }
def FnExactApplyDeltasCardSaid : Prop := Claim7.holds Tryd.pinned (.plain (OpenSpec.ofChange fnExactApplyDeltasSpec)) fnExactApplyDeltasCard

/-- THE SECOND FORM's CARD OF 'laws.FnExactDiffFiles'. -/
def fnExactDiffFilesUptoCard : Claim7 := { stood := { row := fnExactDiffFilesUptoRow, standIns := [], harness := (true, "6ba0f608245e01de54191345c2b03740685d3ea84ef9aa1b1ff17204091eb132"), looks := false }, kinds := [], alts := [], laidByText := true, laidKinds := [.data, .pinned], laidTests := true, laidLooks := .later }
def FnExactDiffFilesUptoCardSaid : Prop := Claim7.holds Tryd.pinned (.plain (OpenSpec.upto fnExactDiffFilesSpec)) fnExactDiffFilesUptoCard

/-- THE SECOND FORM's CARD OF 'laws.FnExactApplyDeltas'. -/
def fnExactApplyDeltasUptoCard : Claim7 := { stood := { row := fnExactApplyDeltasUptoRow, standIns := [], harness := (true, "6ba0f608245e01de54191345c2b03740685d3ea84ef9aa1b1ff17204091eb132"), looks := false }, kinds := [], alts := [], laidByText := true, laidKinds := [.data, .pinned], laidTests := true, laidLooks := .later }
def FnExactApplyDeltasUptoCardSaid : Prop := Claim7.holds Tryd.pinned (.plain (OpenSpec.upto fnExactApplyDeltasSpec)) fnExactApplyDeltasUptoCard
end Rows
end Go.Proofs.YtaggjnaogmhfpaaDoor
