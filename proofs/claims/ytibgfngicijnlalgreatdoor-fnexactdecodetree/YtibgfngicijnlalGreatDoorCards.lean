/-
  DERIVED. GIVEN WITH THE SEED: THE CARDS: each row of YtibgfngicijnlalGreatDoorRows.lean that lists a variable, with what it lists TIED to the program's text (the seventh form; the later family's looks); each row that meets fmt, with fmt's text TOLD by the authors' own Lean function (tested against real Go, not proved from fmt's source: count such statements apart). THE CARD IS WHAT COUNTS. Prove the row's statement (the work); the ties are given (YtibgfngicijnlalGreatDoorTie.lean); close each card by the builder's one call (the guide's Derived/Test/ToyasCard.lean, 'card_holds'). Laid BY PROGRAM, IN A SANDBOX (cutbox-door.mjs). By AI agents, Wed Nov 11 2026. No macro, syntax, notation, axiom, sorry.
-/
import Derived.Test.YtibgfngicijnlalGreatDoorRows
import GoSem.ClaimSeven
namespace Go.Proofs.YtibgfngicijnlalGreatDoor
namespace Rows

/-- THE TIED CARD OF 'laws.FnExactDecodeTree'. -/
def fnExactDecodeTreeCard : Claim7 := { stood := { row := fnExactDecodeTreeRow, standIns := [], harness := (true, "e5f7287c3d24c0442677970bc9d427aebb3f7b4d1313d2fec7c098f99a31435a"), looks := true }, kinds := [], alts := [], laidByText := true, laidKinds := [.data, .data, .data, .handle, .data, .sentinel], laidTests := true, laidLooks := .later }
def FnExactDecodeTreeCardSaid : Prop := Claim7.holds Tryz.pinned (.plain (OpenSpec.ofChange fnExactDecodeTreeSpec)) fnExactDecodeTreeCard

/-- THE SECOND FORM's CARD OF 'laws.FnExactDecodeTree'. -/
def fnExactDecodeTreeUptoCard : Claim7 := { stood := { row := fnExactDecodeTreeUptoRow, standIns := [], harness := (true, "e5f7287c3d24c0442677970bc9d427aebb3f7b4d1313d2fec7c098f99a31435a"), looks := true }, kinds := [], alts := [], laidByText := true, laidKinds := [.data, .data, .data, .handle, .data, .sentinel], laidTests := true, laidLooks := .later }
def FnExactDecodeTreeUptoCardSaid : Prop := Claim7.holds Tryz.pinned (.plain (OpenSpec.upto fnExactDecodeTreeSpec)) fnExactDecodeTreeUptoCard
end Rows
end Go.Proofs.YtibgfngicijnlalGreatDoor
