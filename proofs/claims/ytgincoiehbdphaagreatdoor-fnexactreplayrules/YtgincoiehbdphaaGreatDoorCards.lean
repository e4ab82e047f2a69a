/-
  DERIVED. GIVEN WITH THE SEED: THE CARDS: each row of YtgincoiehbdphaaGreatDoorRows.lean that lists a variable, with what it lists TIED to the program's text (the seventh form; the later family's looks); each row that meets fmt, with fmt's text TOLD by the authors' own Lean function (tested against real Go, not proved from fmt's source: count such statements apart). THE CARD IS WHAT COUNTS. Prove the row's statement (the work); the ties are given (YtgincoiehbdphaaGreatDoorTie.lean); close each card by the builder's one call (the guide's Derived/Test/ToyasCard.lean, 'card_holds'). Laid BY PROGRAM, IN A SANDBOX (cutbox-door.mjs). By AI agents, Wed Nov 11 2026. No macro, syntax, notation, axiom, sorry.
-/
import Derived.Test.YtgincoiehbdphaaGreatDoorRows
import GoSem.ClaimSeven
namespace Go.Proofs.YtgincoiehbdphaaGreatDoor
namespace Rows

/-- THE TIED CARD OF 'laws.FnExactMergePath'. -/
def fnExactMergePathCard : Claim7 := { stood := { row := fnExactMergePathRow, standIns := [], harness := (true, "6f4395023d15c9d644571bdeb67c3f09f895b50463a72ffdf9305a936b5eef7b"), looks := false }, kinds := [], alts := [], laidByText := true, laidKinds := [.data, .pinned], laidTests := true, laidLooks := .later }
def FnExactMergePathCardSaid : Prop := Claim7.holds Tryz.pinned (.plain (OpenSpec.ofChange fnExactMergePathSpec)) fnExactMergePathCard

/-- THE TIED CARD OF 'laws.FnExactReplayRules'. -/
def fnExactReplayRulesCard : Claim7 := { stood := { row := fnExactReplayRulesRow, standIns := [], harness := (true, "6f4395023d15c9d644571bdeb67c3f09f895b50463a72ffdf9305a936b5eef7b"), looks := false }, kinds := [], alts := [], laidByText := true, laidKinds := [.data, .data, .data, .data, .pinned], laidTests := true, laidLooks := .later }
def FnExactReplayRulesCardSaid : Prop := Claim7.holds Tryz.pinned (.plain (OpenSpec.ofChange fnExactReplayRulesSpec)) fnExactReplayRulesCard

/-- THE SECOND FORM's CARD OF 'laws.FnExactMergePath'. -/
def fnExactMergePathUptoCard : Claim7 := { stood := { row := fnExactMergePathUptoRow, standIns := [], harness := (true, "6f4395023d15c9d644571bdeb67c3f09f895b50463a72ffdf9305a936b5eef7b"), looks := false }, kinds := [], alts := [], laidByText := true, laidKinds := [.data, .pinned], laidTests := true, laidLooks := .later }
def FnExactMergePathUptoCardSaid : Prop := Claim7.holds Tryz.pinned (.plain (OpenSpec.upto fnExactMergePathSpec)) fnExactMergePathUptoCard

/-- THE SECOND FORM's CARD OF 'laws.FnExactReplayRules'. -/
def fnExactReplayRulesUptoCard : Claim7 := { stood := { row := fnExactReplayRulesUptoRow, standIns := [], harness := (true, "6f4395023d15c9d644571bdeb67c3f09f895b50463a72ffdf9305a936b5eef7b"), looks := false }, kinds := [], alts := [], laidByText := true, laidKinds := [.data, .data, .data, .data, .pinned], laidTests := true, laidLooks := .later }
def FnExactReplayRulesUptoCardSaid : Prop := Claim7.holds Tryz.pinned (.plain (OpenSpec.upto fnExactReplayRulesSpec)) fnExactReplayRulesUptoCard
end Rows
end Go.Proofs.YtgincoiehbdphaaGreatDoor
