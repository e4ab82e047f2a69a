/-
  DERIVED. GIVEN WITH THE SEED: THE CARDS: each row of YtipdebodanhooaaDoorRows.lean that lists a variable, with what it lists TIED to the program's text (the seventh form; the later family's looks); each row that meets fmt, with fmt's text TOLD by the authors' own Lean function (tested against real Go, not proved from fmt's source: count such statements apart). THE CARD IS WHAT COUNTS. Prove the row's statement (the work); the ties are given (YtipdebodanhooaaDoorTie.lean); close each card by the builder's one call (the guide's Derived/Test/ToyasCard.lean, 'card_holds'). Laid BY PROGRAM, IN A SANDBOX (cutbox-door.mjs). By AI agents, Wed Nov 11 2026. No macro, syntax, notation, axiom, sorry.
-/
import Derived.Test.YtipdebodanhooaaDoorRows
import GoSem.ClaimSeven
namespace Go.Proofs.YtipdebodanhooaaDoor
namespace Rows

/-- THE TIED CARD OF 'laws.FnResolves'. -/
def fnResolvesCard : Claim7 := { stood := { row := fnResolvesRow, standIns := [], harness := (true, "6d9402ce42aa7721fb001b350c7ccf3d631460beef163106015b10172db73147"), looks := false }, kinds := [], alts := [], laidByText := true, laidKinds := [.data, .pinned], laidTests := true, laidLooks := .later }
def FnResolvesCardSaid : Prop := Claim7.holds Tryd.pinned (.plain (OpenSpec.ofChange fnResolvesSpec)) fnResolvesCard

/-- THE SECOND FORM's CARD OF 'laws.FnResolves'. -/
def fnResolvesUptoCard : Claim7 := { stood := { row := fnResolvesUptoRow, standIns := [], harness := (true, "6d9402ce42aa7721fb001b350c7ccf3d631460beef163106015b10172db73147"), looks := false }, kinds := [], alts := [], laidByText := true, laidKinds := [.data, .pinned], laidTests := true, laidLooks := .later }
def FnResolvesUptoCardSaid : Prop := Claim7.holds Tryd.pinned (.plain (OpenSpec.upto fnResolvesSpec)) fnResolvesUptoCard
end Rows
end Go.Proofs.YtipdebodanhooaaDoor
