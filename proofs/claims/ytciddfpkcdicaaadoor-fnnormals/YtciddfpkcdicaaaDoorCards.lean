/-
  DERIVED. GIVEN WITH THE SEED: THE CARDS: each row of YtciddfpkcdicaaaDoorRows.lean that lists a variable, with what it lists TIED to the program's text (the seventh form; the later family's looks); each row that meets fmt, with fmt's text TOLD by the authors' own Lean function (tested against real Go, not proved from fmt's source: count such statements apart). THE CARD IS WHAT COUNTS. Prove the row's statement (the work); the ties are given (YtciddfpkcdicaaaDoorTie.lean); close each card by the builder's one call (the guide's Derived/Test/ToyasCard.lean, 'card_holds'). Laid BY PROGRAM, IN A SANDBOX (cutbox-door.mjs). By AI agents, Wed Nov 11 2026. No macro, syntax, notation, axiom, sorry.
-/
import Derived.Test.YtciddfpkcdicaaaDoorRows
import GoSem.ClaimSeven
namespace Go.Proofs.YtciddfpkcdicaaaDoor
namespace Rows

/-- THE TIED CARD OF 'laws.FnNormals'. -/
def fnNormalsCard : Claim7 := { stood := { row := fnNormalsRow, standIns := [], harness := (true, "0da9b50cc263df702e251c353961cb4f2bc3035e78503a8cf6edec803c628fb3"), looks := false }, kinds := [], alts := [], laidByText := true, laidKinds := [.data, .data, .data], laidTests := true, laidLooks := .later }
def FnNormalsCardSaid : Prop := Claim7.holds Tryd.pinned (.plain (OpenSpec.ofChange fnNormalsSpec)) fnNormalsCard

/-- THE TIED CARD OF 'laws.FnExactNormalText'. -/
def fnExactNormalTextCard : Claim7 := { stood := { row := fnExactNormalTextRow, standIns := [], harness := (true, "0da9b50cc263df702e251c353961cb4f2bc3035e78503a8cf6edec803c628fb3"), looks := false }, kinds := [], alts := [], laidByText := true, laidKinds := [.data, .data, .data], laidTests := true, laidLooks := .later }
def FnExactNormalTextCardSaid : Prop := Claim7.holds Tryd.pinned (.plain (OpenSpec.ofChange fnExactNormalTextSpec)) fnExactNormalTextCard

/-- THE SECOND FORM's CARD OF 'laws.FnNormals'. -/
def fnNormalsUptoCard : Claim7 := { stood := { row := fnNormalsUptoRow, standIns := [], harness := (true, "0da9b50cc263df702e251c353961cb4f2bc3035e78503a8cf6edec803c628fb3"), looks := false }, kinds := [], alts := [], laidByText := true, laidKinds := [.data, .data, .data], laidTests := true, laidLooks := .later }
def FnNormalsUptoCardSaid : Prop := Claim7.holds Tryd.pinned (.plain (OpenSpec.upto fnNormalsSpec)) fnNormalsUptoCard

/-- THE SECOND FORM's CARD OF 'laws.FnExactNormalText'. -/
def fnExactNormalTextUptoCard : Claim7 := { stood := { row := fnExactNormalTextUptoRow, standIns := [], harness := (true, "0da9b50cc263df702e251c353961cb4f2bc3035e78503a8cf6edec803c628fb3"), looks := false }, kinds := [], alts := [], laidByText := true, laidKinds := [.data, .data, .data], laidTests := true, laidLooks := .later }
def FnExactNormalTextUptoCardSaid : Prop := Claim7.holds Tryd.pinned (.plain (OpenSpec.upto fnExactNormalTextSpec)) fnExactNormalTextUptoCard
end Rows
end Go.Proofs.YtciddfpkcdicaaaDoor
