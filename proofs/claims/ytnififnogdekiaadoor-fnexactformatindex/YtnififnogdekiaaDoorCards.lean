/-
  DERIVED. GIVEN WITH THE SEED: THE CARDS: each row of YtnififnogdekiaaDoorRows.lean that lists a variable, with what it lists TIED to the program's text (the seventh form; the later family's looks); each row that meets fmt, with fmt's text TOLD by the authors' own Lean function (tested against real Go, not proved from fmt's source: count such statements apart). THE CARD IS WHAT COUNTS. Prove the row's statement (the work); the ties are given (YtnififnogdekiaaDoorTie.lean); close each card by the builder's one call (the guide's Derived/Test/ToyasCard.lean, 'card_holds'). Laid BY PROGRAM, IN A SANDBOX (cutbox-door.mjs). By AI agents, Wed Nov 11 2026. No macro, syntax, notation, axiom, sorry.
-/
import Derived.Test.YtnififnogdekiaaDoorRows
import GoSem.ClaimSeven
namespace Go.Proofs.YtnififnogdekiaaDoor
namespace Rows

/-- THE TIED CARD OF 'laws.FnExactFilesFault'. -/
def fnExactFilesFaultCard : Claim7 := { stood := { row := fnExactFilesFaultRow, standIns := [], harness := (true, "0b5f33395fba72026ac7d63b46ab6ce86e7c698e7ea2c46d4f3f9e3c9710c897"), looks := false }, kinds := [], alts := [], laidByText := true, laidKinds := [.data, .pinned], laidTests := true, laidLooks := .later }
def FnExactFilesFaultCardSaid : Prop := Claim7.holds Tryd.pinned (.plain (OpenSpec.ofChange fnExactFilesFaultSpec)) fnExactFilesFaultCard

/-- THE TIED CARD OF 'laws.FnExactDiffFiles'. -/
def fnExactDiffFilesCard : Claim7 := { stood := { row := fnExactDiffFilesRow, standIns := [], harness := (true, "0b5f33395fba72026ac7d63b46ab6ce86e7c698e7ea2c46d4f3f9e3c9710c897"), looks := false }, kinds := [], alts := [], laidByText := true, laidKinds := [.data, .pinned], laidTests := true, laidLooks := .later }
def FnExactDiffFilesCardSaid : Prop := Claim7.holds Tryd.pinned (.plain (OpenSpec.ofChange fnExactDiffFilesSpec)) fnExactDiffFilesCard

/-- THE TIED CARD OF 'laws.FnExactApplyDeltas'. -/
def fnExactApplyDeltasCard : Claim7 := { stood := { row := fnExactApplyDeltasRow, standIns := [], harness := (true, "0b5f33395fba72026ac7d63b46ab6ce86e7c698e7ea2c46d4f3f9e3c9710c897"), looks := false }, kinds := [], alts := [], laidByText := true, laidKinds := [.data, .pinned], laidTests := true, laidLooks := .later }
def FnExactApplyDeltasCardSaid : Prop := Claim7.holds Tryd.pinned (.plain (OpenSpec.ofChange fnExactApplyDeltasSpec)) fnExactApplyDeltasCard

/-- THE TIED CARD OF 'laws.FnExactIndexFault'. -/
def fnExactIndexFaultCard : Claim7 := { stood := { row := fnExactIndexFaultRow, standIns := [], harness := (true, "0b5f33395fba72026ac7d63b46ab6ce86e7c698e7ea2c46d4f3f9e3c9710c897"), looks := false }, kinds := [], alts := [], laidByText := true, laidKinds := [.data, .pinned], laidTests := true, laidLooks := .later }
def FnExactIndexFaultCardSaid : Prop := Claim7.holds Tryd.pinned (.plain (OpenSpec.ofChange fnExactIndexFaultSpec)) fnExactIndexFaultCard

/-- THE TIED CARD OF 'laws.FnExactFormatIndex'. -/
def fnExactFormatIndexCard : Claim7 := { stood := { row := fnExactFormatIndexRow, standIns := [], harness := (true, "0b5f33395fba72026ac7d63b46ab6ce86e7c698e7ea2c46d4f3f9e3c9710c897"), looks := false }, kinds := [], alts := [], laidByText := true, laidKinds := [.data, .data, .data, .data, .data, .pinned], laidTests := true, laidLooks := .later }
def FnExactFormatIndexCardSaid : Prop := Claim7.holds Tryd.pinned (.plain (OpenSpec.ofChange fnExactFormatIndexSpec)) fnExactFormatIndexCard

/-- THE SECOND FORM's CARD OF 'laws.FnExactFilesFault'. -/
def fnExactFilesFaultUptoCard : Claim7 := { stood := { row := fnExactFilesFaultUptoRow, standIns := [], harness := (true, "0b5f33395fba72026ac7d63b46ab6ce86e7c698e7ea2c46d4f3f9e3c9710c897"), looks := false }, kinds := [], alts := [], laidByText := true, laidKinds := [.data, .pinned], laidTests := true, laidLooks := .later }
def FnExactFilesFaultUptoCardSaid : Prop := Claim7.holds Tryd.pinned (.plain (OpenSpec.upto fnExactFilesFaultSpec)) fnExactFilesFaultUptoCard

/-- THE SECOND FORM's CARD OF 'laws.FnExactDiffFiles'. -/
def fnExactDiffFilesUptoCard : Claim7 := { stood := { row := fnExactDiffFilesUptoRow, standIns := [], harness := (true, "0b5f33395fba72026ac7d63b46ab6ce86e7c698e7ea2c46d4f3f9e3c9710c897"), looks := false }, kinds := [], alts := [], laidByText := true, laidKinds := [.data, .pinned], laidTests := true, laidLooks := .later }
def FnExactDiffFilesUptoCardSaid : Prop := Claim7.holds Tryd.pinned (.plain (OpenSpec.upto fnExactDiffFilesSpec)) fnExactDiffFilesUptoCard

/-- THE SECOND FORM's CARD OF 'laws.FnExactApplyDeltas'. -/
def fnExactApplyDeltasUptoCard : Claim7 := { stood := { row := fnExactApplyDeltasUptoRow, standIns := [], harness := (true, "0b5f33395fba72026ac7d63b46ab6ce86e7c698e7ea2c46d4f3f9e3c9710c897"), looks := false }, kinds := [], alts := [], laidByText := true, laidKinds := [.data, .pinned], laidTests := true, laidLooks := .later }
def FnExactApplyDeltasUptoCardSaid : Prop := Claim7.holds Tryd.pinned (.plain (OpenSpec.upto fnExactApplyDeltasSpec)) fnExactApplyDeltasUptoCard

/-- THE SECOND FORM's CARD OF 'laws.FnExactIndexFault'. -/
def fnExactIndexFaultUptoCard : Claim7 := { stood := { row := fnExactIndexFaultUptoRow, standIns := [], harness := (true, "0b5f33395fba72026ac7d63b46ab6ce86e7c698e7ea2c46d4f3f9e3c9710c897"), looks := false }, kinds := [], alts := [], laidByText := true, laidKinds := [.data, .pinned], laidTests := true, laidLooks := .later }
def FnExactIndexFaultUptoCardSaid : Prop := Claim7.holds Tryd.pinned (.plain (OpenSpec.upto fnExactIndexFaultSpec)) fnExactIndexFaultUptoCard

/-- THE SECOND FORM's CARD OF 'laws.FnExactFormatIndex'. -/
def fnExactFormatIndexUptoCard : Claim7 := { stood := { row := fnExactFormatIndexUptoRow, standIns := [], harness := (true, "0b5f33395fba72026ac7d63b46ab6ce86e7c698e7ea2c46d4f3f9e3c9710c897"), looks := false }, kinds := [], alts := [], laidByText := true, laidKinds := [.data, .data, .data, .data, .data, .pinned], laidTests := true, laidLooks := .later }
def FnExactFormatIndexUptoCardSaid : Prop := Claim7.holds Tryd.pinned (.plain (OpenSpec.upto fnExactFormatIndexSpec)) fnExactFormatIndexUptoCard
end Rows
end Go.Proofs.YtnififnogdekiaaDoor
