/-
  DERIVED. GIVEN WITH THE SEED: THE CARDS: each row of YtfklefdliakemaaDoorRows.lean that lists a variable, with what it lists TIED to the program's text (the seventh form; the later family's looks); each row that meets fmt, with fmt's text TOLD by the authors' own Lean function (tested against real Go, not proved from fmt's source: count such statements apart). THE CARD IS WHAT COUNTS. Prove the row's statement (the work); the ties are given (YtfklefdliakemaaDoorTie.lean); close each card by the builder's one call (the guide's Derived/Test/ToyasCard.lean, 'card_holds'). Laid BY PROGRAM, IN A SANDBOX (cutbox-door.mjs). By AI agents, Wed Nov 11 2026. No macro, syntax, notation, axiom, sorry.
-/
import Derived.Test.YtfklefdliakemaaDoorRows
import GoSem.ClaimSeven
namespace Go.Proofs.YtfklefdliakemaaDoor
namespace Rows

/-- THE TIED CARD OF 'laws.FnExactResolvePath'. -/
def fnExactResolvePathCard : Claim7 := { stood := { row := fnExactResolvePathRow, standIns := [], harness := (true, "796beda33d89fe98a4995d544343e6910bb2142f6a656101ade326fc557bf003"), looks := false }, kinds := [], alts := [], laidByText := true, laidKinds := [.data, .pinned], laidTests := true, laidLooks := .later }
def FnExactResolvePathCardSaid : Prop := Claim7.holds Tryd.pinned (.plain (OpenSpec.ofChange fnExactResolvePathSpec)) fnExactResolvePathCard

/-- THE TIED CARD OF 'laws.FnExactSwapStages'. -/
def fnExactSwapStagesCard : Claim7 := { stood := { row := fnExactSwapStagesRow, standIns := [], harness := (true, "796beda33d89fe98a4995d544343e6910bb2142f6a656101ade326fc557bf003"), looks := false }, kinds := [], alts := [], laidByText := true, laidKinds := [.data, .pinned], laidTests := true, laidLooks := .later }
def FnExactSwapStagesCardSaid : Prop := Claim7.holds Tryd.pinned (.plain (OpenSpec.ofChange fnExactSwapStagesSpec)) fnExactSwapStagesCard

/-- THE SECOND FORM's CARD OF 'laws.FnExactResolvePath'. -/
def fnExactResolvePathUptoCard : Claim7 := { stood := { row := fnExactResolvePathUptoRow, standIns := [], harness := (true, "796beda33d89fe98a4995d544343e6910bb2142f6a656101ade326fc557bf003"), looks := false }, kinds := [], alts := [], laidByText := true, laidKinds := [.data, .pinned], laidTests := true, laidLooks := .later }
def FnExactResolvePathUptoCardSaid : Prop := Claim7.holds Tryd.pinned (.plain (OpenSpec.upto fnExactResolvePathSpec)) fnExactResolvePathUptoCard

/-- THE SECOND FORM's CARD OF 'laws.FnExactSwapStages'. -/
def fnExactSwapStagesUptoCard : Claim7 := { stood := { row := fnExactSwapStagesUptoRow, standIns := [], harness := (true, "796beda33d89fe98a4995d544343e6910bb2142f6a656101ade326fc557bf003"), looks := false }, kinds := [], alts := [], laidByText := true, laidKinds := [.data, .pinned], laidTests := true, laidLooks := .later }
def FnExactSwapStagesUptoCardSaid : Prop := Claim7.holds Tryd.pinned (.plain (OpenSpec.upto fnExactSwapStagesSpec)) fnExactSwapStagesUptoCard
end Rows
end Go.Proofs.YtfklefdliakemaaDoor
