/-
  DERIVED. GIVEN WITH THE SEED: THE CARDS: each row of YtepbkaidlffaiaoGreatDoorRows.lean that lists a variable, with what it lists TIED to the program's text (the seventh form; the later family's looks); each row that meets fmt, with fmt's text TOLD by the authors' own Lean function (tested against real Go, not proved from fmt's source: count such statements apart). THE CARD IS WHAT COUNTS. Prove the row's statement (the work); the ties are given (YtepbkaidlffaiaoGreatDoorTie.lean); close each card by the builder's one call (the guide's Derived/Test/ToyasCard.lean, 'card_holds'). Laid BY PROGRAM, IN A SANDBOX (cutbox-door.mjs). By AI agents, Wed Nov 11 2026. No macro, syntax, notation, axiom, sorry.
-/
import Derived.Test.YtepbkaidlffaiaoGreatDoorRows
import GoSem.ClaimSeven
namespace Go.Proofs.YtepbkaidlffaiaoGreatDoor
namespace Rows

/-- THE TIED CARD OF 'laws.FnExactParentsOf'. -/
def fnExactParentsOfCard : Claim7 := { stood := { row := fnExactParentsOfRow, standIns := [], harness := (true, "22d664c29e7a28dda2e0cad86db54255288e556c69e8aa7361b53fd705053a75"), looks := true }, kinds := [], alts := [], laidByText := true, laidKinds := [.data, .data, .data, .handle, .sentinel, .sentinel, .data, .sentinel], laidTests := true, laidLooks := .later }
def FnExactParentsOfCardSaid : Prop := Claim7.holds Tryz.pinned (.plain (OpenSpec.ofChange fnExactParentsOfSpec)) fnExactParentsOfCard

/-- THE TIED CARD OF 'laws.FnExactHistoryOf'. -/
def fnExactHistoryOfCard : Claim7 := { stood := { row := fnExactHistoryOfRow, standIns := [], harness := (true, "22d664c29e7a28dda2e0cad86db54255288e556c69e8aa7361b53fd705053a75"), looks := true }, kinds := [], alts := [], laidByText := true, laidKinds := [.data, .data, .data, .handle, .sentinel, .sentinel, .data, .sentinel], laidTests := true, laidLooks := .later }
def FnExactHistoryOfCardSaid : Prop := Claim7.holds Tryz.pinned (.plain (OpenSpec.ofChange fnExactHistoryOfSpec)) fnExactHistoryOfCard

/-- THE TIED CARD OF 'laws.FnExactIsAncestor'. -/
def fnExactIsAncestorCard : Claim7 := { stood := { row := fnExactIsAncestorRow, standIns := [], harness := (true, "22d664c29e7a28dda2e0cad86db54255288e556c69e8aa7361b53fd705053a75"), looks := true }, kinds := [], alts := [], laidByText := true, laidKinds := [.data, .data, .data, .handle, .sentinel, .sentinel, .data, .sentinel], laidTests := true, laidLooks := .later }
def FnExactIsAncestorCardSaid : Prop := Claim7.holds Tryz.pinned (.plain (OpenSpec.ofChange fnExactIsAncestorSpec)) fnExactIsAncestorCard

/-- THE TIED CARD OF 'laws.FnExactBasesOf'. -/
def fnExactBasesOfCard : Claim7 := { stood := { row := fnExactBasesOfRow, standIns := [], harness := (true, "22d664c29e7a28dda2e0cad86db54255288e556c69e8aa7361b53fd705053a75"), looks := true }, kinds := [], alts := [], laidByText := true, laidKinds := [.data, .data, .data, .handle, .sentinel, .sentinel, .data, .sentinel], laidTests := true, laidLooks := .later }
def FnExactBasesOfCardSaid : Prop := Claim7.holds Tryz.pinned (.plain (OpenSpec.ofChange fnExactBasesOfSpec)) fnExactBasesOfCard

/-- THE SECOND FORM's CARD OF 'laws.FnExactParentsOf'. -/
def fnExactParentsOfUptoCard : Claim7 := { stood := { row := fnExactParentsOfUptoRow, standIns := [], harness := (true, "22d664c29e7a28dda2e0cad86db54255288e556c69e8aa7361b53fd705053a75"), looks := true }, kinds := [], alts := [], laidByText := true, laidKinds := [.data, .data, .data, .handle, .sentinel, .sentinel, .data, .sentinel], laidTests := true, laidLooks := .later }
def FnExactParentsOfUptoCardSaid : Prop := Claim7.holds Tryz.pinned (.plain (OpenSpec.upto fnExactParentsOfSpec)) fnExactParentsOfUptoCard

/-- THE SECOND FORM's CARD OF 'laws.FnExactHistoryOf'. -/
def fnExactHistoryOfUptoCard : Claim7 := { stood := { row := fnExactHistoryOfUptoRow, standIns := [], harness := (true, "22d664c29e7a28dda2e0cad86db54255288e556c69e8aa7361b53fd705053a75"), looks := true }, kinds := [], alts := [], laidByText := true, laidKinds := [.data, .data, .data, .handle, .sentinel, .sentinel, .data, .sentinel], laidTests := true, laidLooks := .later }
def FnExactHistoryOfUptoCardSaid : Prop := Claim7.holds Tryz.pinned (.plain (OpenSpec.upto fnExactHistoryOfSpec)) fnExactHistoryOfUptoCard

/-- THE SECOND FORM's CARD OF 'laws.FnExactIsAncestor'. -/
def fnExactIsAncestorUptoCard : Claim7 := { stood := { row := fnExactIsAncestorUptoRow, standIns := [], harness := (true, "22d664c29e7a28dda2e0cad86db54255288e556c69e8aa7361b53fd705053a75"), looks := true }, kinds := [], alts := [], laidByText := true, laidKinds := [.data, .data, .data, .handle, .sentinel, .sentinel, .data, .sentinel], laidTests := true, laidLooks := .later }
def FnExactIsAncestorUptoCardSaid : Prop := Claim7.holds Tryz.pinned (.plain (OpenSpec.upto fnExactIsAncestorSpec)) fnExactIsAncestorUptoCard

/-- THE SECOND FORM's CARD OF 'laws.FnExactBasesOf'. -/
def fnExactBasesOfUptoCard : Claim7 := { stood := { row := fnExactBasesOfUptoRow, standIns := [], harness := (true, "22d664c29e7a28dda2e0cad86db54255288e556c69e8aa7361b53fd705053a75"), looks := true }, kinds := [], alts := [], laidByText := true, laidKinds := [.data, .data, .data, .handle, .sentinel, .sentinel, .data, .sentinel], laidTests := true, laidLooks := .later }
def FnExactBasesOfUptoCardSaid : Prop := Claim7.holds Tryz.pinned (.plain (OpenSpec.upto fnExactBasesOfSpec)) fnExactBasesOfUptoCard
end Rows
end Go.Proofs.YtepbkaidlffaiaoGreatDoor
