/-
  DERIVED. GIVEN WITH THE SEED: THE CARDS: each row of YtnififnogdekiabDoorRows.lean that lists a variable, with what it lists TIED to the program's text (the seventh form; the later family's looks); each row that meets fmt, with fmt's text TOLD by the authors' own Lean function (tested against real Go, not proved from fmt's source: count such statements apart). THE CARD IS WHAT COUNTS. Prove the row's statement (the work); the ties are given (YtnififnogdekiabDoorTie.lean); close each card by the builder's one call (the guide's Derived/Test/ToyasCard.lean, 'card_holds'). Laid BY PROGRAM, IN A SANDBOX (cutbox-door.mjs). By AI agents, Wed Nov 11 2026. No macro, syntax, notation, axiom, sorry.
-/
import Derived.Test.YtnififnogdekiabDoorRows
import GoSem.ClaimSeven
namespace Go.Proofs.YtnififnogdekiabDoor
namespace Rows

/-- THE TIED CARD OF 'laws.FnExactClashesIn'. -/
def fnExactClashesInCard : Claim7 := { stood := { row := fnExactClashesInRow, standIns := [], harness := (true, "9684ffaa99d4dd85a59b390b948b8cfaaf3d6a1197304c0b35c3830f3aebb1f4"), looks := false }, kinds := [], alts := [], laidByText := true, laidKinds := [.data, .pinned], laidTests := true, laidLooks := .later }
def FnExactClashesInCardSaid : Prop := Claim7.holds Tryd.pinned (.plain (OpenSpec.ofChange fnExactClashesInSpec)) fnExactClashesInCard

/-- THE TIED CARD OF 'laws.FnExactIndexFiles'. -/
def fnExactIndexFilesCard : Claim7 := { stood := { row := fnExactIndexFilesRow, standIns := [], harness := (true, "9684ffaa99d4dd85a59b390b948b8cfaaf3d6a1197304c0b35c3830f3aebb1f4"), looks := false }, kinds := [], alts := [], laidByText := true, laidKinds := [.data, .pinned], laidTests := true, laidLooks := .later }
def FnExactIndexFilesCardSaid : Prop := Claim7.holds Tryd.pinned (.plain (OpenSpec.ofChange fnExactIndexFilesSpec)) fnExactIndexFilesCard

/-- THE TIED CARD OF 'laws.FnExactFilesIndex'. -/
def fnExactFilesIndexCard : Claim7 := { stood := { row := fnExactFilesIndexRow, standIns := [], harness := (true, "9684ffaa99d4dd85a59b390b948b8cfaaf3d6a1197304c0b35c3830f3aebb1f4"), looks := false }, kinds := [], alts := [], laidByText := true, laidKinds := [.data, .pinned], laidTests := true, laidLooks := .later }
def FnExactFilesIndexCardSaid : Prop := Claim7.holds Tryd.pinned (.plain (OpenSpec.ofChange fnExactFilesIndexSpec)) fnExactFilesIndexCard

/-- THE TIED CARD OF 'laws.FnExactStageFiles'. -/
def fnExactStageFilesCard : Claim7 := { stood := { row := fnExactStageFilesRow, standIns := [], harness := (true, "9684ffaa99d4dd85a59b390b948b8cfaaf3d6a1197304c0b35c3830f3aebb1f4"), looks := false }, kinds := [], alts := [], laidByText := true, laidKinds := [.data, .pinned], laidTests := true, laidLooks := .later }
def FnExactStageFilesCardSaid : Prop := Claim7.holds Tryd.pinned (.plain (OpenSpec.ofChange fnExactStageFilesSpec)) fnExactStageFilesCard

/-- THE TIED CARD OF 'laws.FnExactResolvePath'. -/
def fnExactResolvePathCard : Claim7 := { stood := { row := fnExactResolvePathRow, standIns := [], harness := (true, "9684ffaa99d4dd85a59b390b948b8cfaaf3d6a1197304c0b35c3830f3aebb1f4"), looks := false }, kinds := [], alts := [], laidByText := true, laidKinds := [.data, .pinned], laidTests := true, laidLooks := .later }
def FnExactResolvePathCardSaid : Prop := Claim7.holds Tryd.pinned (.plain (OpenSpec.ofChange fnExactResolvePathSpec)) fnExactResolvePathCard

/-- THE TIED CARD OF 'laws.FnExactSwapStages'. -/
def fnExactSwapStagesCard : Claim7 := { stood := { row := fnExactSwapStagesRow, standIns := [], harness := (true, "9684ffaa99d4dd85a59b390b948b8cfaaf3d6a1197304c0b35c3830f3aebb1f4"), looks := false }, kinds := [], alts := [], laidByText := true, laidKinds := [.data, .pinned], laidTests := true, laidLooks := .later }
def FnExactSwapStagesCardSaid : Prop := Claim7.holds Tryd.pinned (.plain (OpenSpec.ofChange fnExactSwapStagesSpec)) fnExactSwapStagesCard

/-- THE SECOND FORM's CARD OF 'laws.FnExactClashesIn'. -/
def fnExactClashesInUptoCard : Claim7 := { stood := { row := fnExactClashesInUptoRow, standIns := [], harness := (true, "9684ffaa99d4dd85a59b390b948b8cfaaf3d6a1197304c0b35c3830f3aebb1f4"), looks := false }, kinds := [], alts := [], laidByText := true, laidKinds := [.data, .pinned], laidTests := true, laidLooks := .later }
def FnExactClashesInUptoCardSaid : Prop := Claim7.holds Tryd.pinned (.plain (OpenSpec.upto fnExactClashesInSpec)) fnExactClashesInUptoCard

/-- THE SECOND FORM's CARD OF 'laws.FnExactIndexFiles'. -/
def fnExactIndexFilesUptoCard : Claim7 := { stood := { row := fnExactIndexFilesUptoRow, standIns := [], harness := (true, "9684ffaa99d4dd85a59b390b948b8cfaaf3d6a1197304c0b35c3830f3aebb1f4"), looks := false }, kinds := [], alts := [], laidByText := true, laidKinds := [.data, .pinned], laidTests := true, laidLooks := .later }
def FnExactIndexFilesUptoCardSaid : Prop := Claim7.holds Tryd.pinned (.plain (OpenSpec.upto fnExactIndexFilesSpec)) fnExactIndexFilesUptoCard

/-- THE SECOND FORM's CARD OF 'laws.FnExactFilesIndex'. -/
def fnExactFilesIndexUptoCard : Claim7 := { stood := { row := fnExactFilesIndexUptoRow, standIns := [], harness := (true, "9684ffaa99d4dd85a59b390b948b8cfaaf3d6a1197304c0b35c3830f3aebb1f4"), looks := false }, kinds := [], alts := [], laidByText := true, laidKinds := [.data, .pinned], laidTests := true, laidLooks := .later }
def FnExactFilesIndexUptoCardSaid : Prop := Claim7.holds Tryd.pinned (.plain (OpenSpec.upto fnExactFilesIndexSpec)) fnExactFilesIndexUptoCard

/-- THE SECOND FORM's CARD OF 'laws.FnExactStageFiles'. -/
def fnExactStageFilesUptoCard : Claim7 := { stood := { row := fnExactStageFilesUptoRow, standIns := [], harness := (true, "9684ffaa99d4dd85a59b390b948b8cfaaf3d6a1197304c0b35c3830f3aebb1f4"), looks := false }, kinds := [], alts := [], laidByText := true, laidKinds := [.data, .pinned], laidTests := true, laidLooks := .later }
def FnExactStageFilesUptoCardSaid : Prop := Claim7.holds Tryd.pinned (.plain (OpenSpec.upto fnExactStageFilesSpec)) fnExactStageFilesUptoCard

/-- THE SECOND FORM's CARD OF 'laws.FnExactResolvePath'. -/
def fnExactResolvePathUptoCard : Claim7 := { stood := { row := fnExactResolvePathUptoRow, standIns := [], harness := (true, "9684ffaa99d4dd85a59b390b948b8cfaaf3d6a1197304c0b35c3830f3aebb1f4"), looks := false }, kinds := [], alts := [], laidByText := true, laidKinds := [.data, .pinned], laidTests := true, laidLooks := .later }
def FnExactResolvePathUptoCardSaid : Prop := Claim7.holds Tryd.pinned (.plain (OpenSpec.upto fnExactResolvePathSpec)) fnExactResolvePathUptoCard

/-- THE SECOND FORM's CARD OF 'laws.FnExactSwapStages'. -/
def fnExactSwapStagesUptoCard : Claim7 := { stood := { row := fnExactSwapStagesUptoRow, standIns := [], harness := (true, "9684ffaa99d4dd85a59b390b948b8cfaaf3d6a1197304c0b35c3830f3aebb1f4"), looks := false }, kinds := [], alts := [], laidByText := true, laidKinds := [.data, .pinned], laidTests := true, laidLooks := .later }
def FnExactSwapStagesUptoCardSaid : Prop := Claim7.holds Tryd.pinned (.plain (OpenSpec.upto fnExactSwapStagesSpec)) fnExactSwapStagesUptoCard
end Rows
end Go.Proofs.YtnififnogdekiabDoor
