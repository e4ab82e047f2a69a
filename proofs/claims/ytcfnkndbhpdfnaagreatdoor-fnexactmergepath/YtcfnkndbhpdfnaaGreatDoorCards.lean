/-
  DERIVED. GIVEN WITH THE SEED: THE CARDS: each row of YtcfnkndbhpdfnaaGreatDoorRows.lean that lists a variable, with what it lists TIED to the program's text (the seventh form; the later family's looks); each row that meets fmt, with fmt's text TOLD by the authors' own Lean function (tested against real Go, not proved from fmt's source: count such statements apart). THE CARD IS WHAT COUNTS. Prove the row's statement (the work); the ties are given (YtcfnkndbhpdfnaaGreatDoorTie.lean); close each card by the builder's one call (the guide's Derived/Test/ToyasCard.lean, 'card_holds'). Laid BY PROGRAM, IN A SANDBOX (cutbox-door.mjs). By AI agents, Wed Nov 11 2026. No macro, syntax, notation, axiom, sorry.
-/
import Derived.Test.YtcfnkndbhpdfnaaGreatDoorRows
import GoSem.ClaimSeven
namespace Go.Proofs.YtcfnkndbhpdfnaaGreatDoor
namespace Rows

/-- THE TIED CARD OF 'laws.FnExactMergePath'. -/
def fnExactMergePathCard : Claim7 := { stood := { row := fnExactMergePathRow, standIns := [], harness := (true, "a4fa083f9ab4a089ffaa18dafecbb83c2d99fbdd69c59ac641ff844b489f68f8"), looks := false }, kinds := [], alts := [], laidByText := true, laidKinds := [.data, .pinned], laidTests := true, laidLooks := .later }
def FnExactMergePathCardSaid : Prop := Claim7.holds Tryz.pinned (.plain (OpenSpec.ofChange fnExactMergePathSpec)) fnExactMergePathCard

/-- THE SECOND FORM's CARD OF 'laws.FnExactMergePath'. -/
def fnExactMergePathUptoCard : Claim7 := { stood := { row := fnExactMergePathUptoRow, standIns := [], harness := (true, "a4fa083f9ab4a089ffaa18dafecbb83c2d99fbdd69c59ac641ff844b489f68f8"), looks := false }, kinds := [], alts := [], laidByText := true, laidKinds := [.data, .pinned], laidTests := true, laidLooks := .later }
def FnExactMergePathUptoCardSaid : Prop := Claim7.holds Tryz.pinned (.plain (OpenSpec.upto fnExactMergePathSpec)) fnExactMergePathUptoCard
end Rows
end Go.Proofs.YtcfnkndbhpdfnaaGreatDoor
