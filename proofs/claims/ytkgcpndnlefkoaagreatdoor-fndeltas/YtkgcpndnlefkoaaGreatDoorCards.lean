/-
  DERIVED. GIVEN WITH THE SEED: THE CARDS: each row of YtkgcpndnlefkoaaGreatDoorRows.lean that lists a variable, with what it lists TIED to the program's text (the seventh form; the later family's looks); each row that meets fmt, with fmt's text TOLD by the authors' own Lean function (tested against real Go, not proved from fmt's source: count such statements apart). THE CARD IS WHAT COUNTS. Prove the row's statement (the work); the ties are given (YtkgcpndnlefkoaaGreatDoorTie.lean); close each card by the builder's one call (the guide's Derived/Test/ToyasCard.lean, 'card_holds'). Laid BY PROGRAM, IN A SANDBOX (cutbox-door.mjs). By AI agents, Wed Nov 11 2026. No macro, syntax, notation, axiom, sorry.
-/
import Derived.Test.YtkgcpndnlefkoaaGreatDoorRows
import GoSem.ClaimSeven
namespace Go.Proofs.YtkgcpndnlefkoaaGreatDoor
namespace Rows

/-- THE TIED CARD OF 'laws.FnDeltas'. -/
def fnDeltasCard : Claim7 := { stood := { row := fnDeltasRow, standIns := [], harness := (true, "87e07874fe33b8d1ee6f39179c0e4d032bc34a7f57619583425faab2d962d7f3"), looks := false }, kinds := [], alts := [], laidByText := true, laidKinds := [.data, .pinned], laidTests := true, laidLooks := .later }
def FnDeltasCardSaid : Prop := Claim7.holds Tryz.pinned (.plain (OpenSpec.ofChange fnDeltasSpec)) fnDeltasCard

/-- THE SECOND FORM's CARD OF 'laws.FnDeltas'. -/
def fnDeltasUptoCard : Claim7 := { stood := { row := fnDeltasUptoRow, standIns := [], harness := (true, "87e07874fe33b8d1ee6f39179c0e4d032bc34a7f57619583425faab2d962d7f3"), looks := false }, kinds := [], alts := [], laidByText := true, laidKinds := [.data, .pinned], laidTests := true, laidLooks := .later }
def FnDeltasUptoCardSaid : Prop := Claim7.holds Tryz.pinned (.plain (OpenSpec.upto fnDeltasSpec)) fnDeltasUptoCard
end Rows
end Go.Proofs.YtkgcpndnlefkoaaGreatDoor
