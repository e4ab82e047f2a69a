/-
  DERIVED. GIVEN WITH THE SEED: THE CARDS: each row of YtmeppbfamjeljaaDoorRows.lean that lists a variable, with what it lists TIED to the program's text (the seventh form; the later family's looks); each row that meets fmt, with fmt's text TOLD by the authors' own Lean function (tested against real Go, not proved from fmt's source: count such statements apart). THE CARD IS WHAT COUNTS. Prove the row's statement (the work); the ties are given (YtmeppbfamjeljaaDoorTie.lean); close each card by the builder's one call (the guide's Derived/Test/ToyasCard.lean, 'card_holds'). Laid BY PROGRAM, IN A SANDBOX (cutbox-door.mjs). By AI agents, Wed Nov 11 2026. No macro, syntax, notation, axiom, sorry.
-/
import Derived.Test.YtmeppbfamjeljaaDoorRows
import GoSem.ClaimSeven
namespace Go.Proofs.YtmeppbfamjeljaaDoor
namespace Rows

/-- THE TIED CARD OF 'laws.FnResolves'. -/
def fnResolvesCard : Claim7 := { stood := { row := fnResolvesRow, standIns := [], harness := (true, "2c6d269fe072877cb4916ab478aedc9ec9aae12af46637a3d75c62aaebb10672"), looks := false }, kinds := [], alts := [], laidByText := true, laidKinds := [.data, .pinned], laidTests := true, laidLooks := .later }
def FnResolvesCardSaid : Prop := Claim7.holds Tryd.pinned (.plain (OpenSpec.ofChange fnResolvesSpec)) fnResolvesCard

/-- THE TIED CARD OF 'laws.FnExactResolvePath'. -/
def fnExactResolvePathCard : Claim7 := { stood := { row := fnExactResolvePathRow, standIns := [], harness := (true, "2c6d269fe072877cb4916ab478aedc9ec9aae12af46637a3d75c62aaebb10672"), looks := false }, kinds := [], alts := [], laidByText := true, laidKinds := [.data, .pinned], laidTests := true, laidLooks := .later }
def FnExactResolvePathCardSaid : Prop := Claim7.holds Tryd.pinned (.plain (OpenSpec.ofChange fnExactResolvePathSpec)) fnExactResolvePathCard

/-- THE SECOND FORM's CARD OF 'laws.FnResolves'. -/
def fnResolvesUptoCard : Claim7 := { stood := { row := fnResolvesUptoRow, standIns := [], harness := (true, "2c6d269fe072877cb4916ab478aedc9ec9aae12af46637a3d75c62aaebb10672"), looks := false }, kinds := [], alts := [], laidByText := true, laidKinds := [.data, .pinned], laidTests := true, laidLooks := .later }
def FnResolvesUptoCardSaid : Prop := Claim7.holds Tryd.pinned (.plain (OpenSpec.upto fnResolvesSpec)) fnResolvesUptoCard

/-- THE SECOND FORM's CARD OF 'laws.FnExactResolvePath'. -/
def fnExactResolvePathUptoCard : Claim7 := { stood := { row := fnExactResolvePathUptoRow, standIns := [], harness := (true, "2c6d269fe072877cb4916ab478aedc9ec9aae12af46637a3d75c62aaebb10672"), looks := false }, kinds := [], alts := [], laidByText := true, laidKinds := [.data, .pinned], laidTests := true, laidLooks := .later }
def FnExactResolvePathUptoCardSaid : Prop := Claim7.holds Tryd.pinned (.plain (OpenSpec.upto fnExactResolvePathSpec)) fnExactResolvePathUptoCard
end Rows
end Go.Proofs.YtmeppbfamjeljaaDoor
