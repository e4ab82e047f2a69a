/-
  No cell of these rows narrows 'for every input' (looked for: loops, veiled, ifaces, maps, wideKeys, modest, calm, conditions, laid).
  DERIVED. THE GIVEN ROWS OF THIS SEAT. 5 by the template 'for every input the law returns true; each argument reads behind the call as it read before'; 0 by the template 'total and deterministic' (their statements: YtlgeoaepjghdhaaTotals.lean).
  GIVEN WITH THE SEED: the statements are not yours to turn. If you find one false, say at which input.
  Laid BY PROGRAM, IN A SANDBOX (cutbox-rows.mjs): the forced cells as the released guide's own fill.sh prints them over the translation 96bb2cb75bcc9bdf… (all of the seat's roots in one cut). By AI agents, Wed Nov 11 2026. No macro, syntax, notation, axiom, sorry.
-/
import Derived.Test.YtlgeoaepjghdhaaChecked
import GoSem.Claim
import GoSem.ClaimJoined
import GoSem.ClaimMapViews
import Derived.JoinedTies
import Derived.KernelRfl
namespace Go.Proofs.Ytlgeoaepjghdhaa
/- THE CELL 'sum', in the pinned program and in every row, IS THE sha256 OF THE DUMP (.gsa) THAT YtlgeoaepjghdhaaProg.lean LOADS. Nothing in Lean hashes anything: it is a label: what it is worth is what the hold of that sum in a sandbox is worth. -/
noncomputable def Try.pinned : Pinned := { name := "ytlgeoaepjghdhaa", sum := "96bb2cb75bcc9bdfb6619b26c0b97ab7de46b6d0c558bcb9e12019407f93a872", checked := Try.checked }
namespace Rows
def none {H : Type} : Left H := { results := [], args := [] }

/-- 'laws.FnExactChunksOf': WHATEVER THE INPUT: true; the input reads as it did. -/
def fnExactChunksOfSpec : ChangeSpec := { name := "fnExactChunksOf", fn := fun _ => fun
  | [d1, d2, d3] => { results := [.lit (.bool true)], args := [d1, d2, d3] }
  | _ => none }
def fnExactChunksOfRow : OpenClaim := { program := "ytlgeoaepjghdhaa", sum := "96bb2cb75bcc9bdfb6619b26c0b97ab7de46b6d0c558bcb9e12019407f93a872", func := "loop.example/g00172/laws.FnExactChunksOf", spec := "fnExactChunksOf", inPlace := ["internal/bytealg.IndexByteString"], plainKeys := false, apart := false }
def FnExactChunksOfSaid : Prop := fnExactChunksOfRow.holds Try.pinned (OpenSpec.ofChange fnExactChunksOfSpec)

/-- ITS FALSE NEIGHBOUR: 'it returns false'. Refute it at one input. -/
def fnExactChunksOfWrong : ChangeSpec := { name := "fnExactChunksOf", fn := fun _ => fun
  | [d1, d2, d3] => { results := [.lit (.bool false)], args := [d1, d2, d3] }
  | _ => none }
def FnExactChunksOfWrongFalsely : Prop := fnExactChunksOfRow.holds Try.pinned (OpenSpec.ofChange fnExactChunksOfWrong)

/-- 'laws.FnExactMergeTexts': WHATEVER THE INPUT: true; the input reads as it did. -/
def fnExactMergeTextsSpec : ChangeSpec := { name := "fnExactMergeTexts", fn := fun _ => fun
  | [d1, d2, d3] => { results := [.lit (.bool true)], args := [d1, d2, d3] }
  | _ => none }
def fnExactMergeTextsRow : OpenClaim := { program := "ytlgeoaepjghdhaa", sum := "96bb2cb75bcc9bdfb6619b26c0b97ab7de46b6d0c558bcb9e12019407f93a872", func := "loop.example/g00172/laws.FnExactMergeTexts", spec := "fnExactMergeTexts", inPlace := ["internal/bytealg.IndexByteString", "internal/abi.NoEscape"], unfollowed := true, recurses := true, plainKeys := false, apart := false }
def FnExactMergeTextsSaid : Prop := fnExactMergeTextsRow.holds Try.pinned (OpenSpec.ofChange fnExactMergeTextsSpec)

/-- ITS FALSE NEIGHBOUR: 'it returns false'. Refute it at one input. -/
def fnExactMergeTextsWrong : ChangeSpec := { name := "fnExactMergeTexts", fn := fun _ => fun
  | [d1, d2, d3] => { results := [.lit (.bool false)], args := [d1, d2, d3] }
  | _ => none }
def FnExactMergeTextsWrongFalsely : Prop := fnExactMergeTextsRow.holds Try.pinned (OpenSpec.ofChange fnExactMergeTextsWrong)

/-- 'laws.FnExactMergeKind': WHATEVER THE INPUT: true; the input reads as it did. -/
def fnExactMergeKindSpec : ChangeSpec := { name := "fnExactMergeKind", fn := fun _ => fun
  | [d1, d2, d3] => { results := [.lit (.bool true)], args := [d1, d2, d3] }
  | _ => none }
def fnExactMergeKindRow : OpenClaim := { program := "ytlgeoaepjghdhaa", sum := "96bb2cb75bcc9bdfb6619b26c0b97ab7de46b6d0c558bcb9e12019407f93a872", func := "loop.example/g00172/laws.FnExactMergeKind", spec := "fnExactMergeKind", plainKeys := false, apart := false }
def FnExactMergeKindSaid : Prop := fnExactMergeKindRow.holds Try.pinned (OpenSpec.ofChange fnExactMergeKindSpec)

/-- ITS FALSE NEIGHBOUR: 'it returns false'. Refute it at one input. -/
def fnExactMergeKindWrong : ChangeSpec := { name := "fnExactMergeKind", fn := fun _ => fun
  | [d1, d2, d3] => { results := [.lit (.bool false)], args := [d1, d2, d3] }
  | _ => none }
def FnExactMergeKindWrongFalsely : Prop := fnExactMergeKindRow.holds Try.pinned (OpenSpec.ofChange fnExactMergeKindWrong)

/-- 'laws.FnExactWorkText': WHATEVER THE INPUT: true; the input reads as it did. -/
def fnExactWorkTextSpec : ChangeSpec := { name := "fnExactWorkText", fn := fun _ => fun
  | [d1, d2] => { results := [.lit (.bool true)], args := [d1, d2] }
  | _ => none }
def fnExactWorkTextRow : OpenClaim := { program := "ytlgeoaepjghdhaa", sum := "96bb2cb75bcc9bdfb6619b26c0b97ab7de46b6d0c558bcb9e12019407f93a872", func := "loop.example/g00172/laws.FnExactWorkText", spec := "fnExactWorkText", plainKeys := false, apart := false }
def FnExactWorkTextSaid : Prop := fnExactWorkTextRow.holds Try.pinned (OpenSpec.ofChange fnExactWorkTextSpec)

/-- ITS FALSE NEIGHBOUR: 'it returns false'. Refute it at one input. -/
def fnExactWorkTextWrong : ChangeSpec := { name := "fnExactWorkText", fn := fun _ => fun
  | [d1, d2] => { results := [.lit (.bool false)], args := [d1, d2] }
  | _ => none }
def FnExactWorkTextWrongFalsely : Prop := fnExactWorkTextRow.holds Try.pinned (OpenSpec.ofChange fnExactWorkTextWrong)

/-- 'laws.FnExactHasBlobs': WHATEVER THE INPUT: true; the input reads as it did. -/
def fnExactHasBlobsSpec : ChangeSpec := { name := "fnExactHasBlobs", fn := fun _ => fun
  | [d1, d2] => { results := [.lit (.bool true)], args := [d1, d2] }
  | _ => none }
def fnExactHasBlobsRow : OpenClaim := { program := "ytlgeoaepjghdhaa", sum := "96bb2cb75bcc9bdfb6619b26c0b97ab7de46b6d0c558bcb9e12019407f93a872", func := "loop.example/g00172/laws.FnExactHasBlobs", spec := "fnExactHasBlobs", inPlace := ["internal/bytealg.IndexByteString"], unfollowed := true, recurses := true, plainKeys := false, apart := false }
def FnExactHasBlobsSaid : Prop := fnExactHasBlobsRow.holds Try.pinned (OpenSpec.ofChange fnExactHasBlobsSpec)

/-- ITS FALSE NEIGHBOUR: 'it returns false'. Refute it at one input. -/
def fnExactHasBlobsWrong : ChangeSpec := { name := "fnExactHasBlobs", fn := fun _ => fun
  | [d1, d2] => { results := [.lit (.bool false)], args := [d1, d2] }
  | _ => none }
def FnExactHasBlobsWrongFalsely : Prop := fnExactHasBlobsRow.holds Try.pinned (OpenSpec.ofChange fnExactHasBlobsWrong)

/- THE SECOND FORM. 'bulk': how many values and letters a reading holds, each counted each time it is reached (what is shared counts as often as it is met; a slice's spare places count too). A statement '..UptoSaid' is the law's where the arguments, and the package variables that the reading takes, are together of bulk at most 1048576: NARROWER than '..Said'. Prove '..Said' where nothing that the law and all that it calls make is longer than what came in: it says more and counts as full. Else prove '..UptoSaid'. A law counts once. -/
mutual
def uptoBulk {H : Type} : DataW H → Nat
  | .lit (.string bytes) => bytes.length + 1
  | .lit _ => 1
  | .nil => 1
  | .ptr d => uptoBulk d + 1
  | .slice elems spare => uptoBulkAll elems + uptoBulkAll spare + 1
  | .agg parts => uptoBulkAll parts + 1
  | .iface _ d => uptoBulk d + 1
  | .map entries => uptoBulkEntries entries + 1
  | .held _ => 1
def uptoBulkAll {H : Type} : List (DataW H) → Nat
  | [] => 0
  | d :: r => uptoBulk d + uptoBulkAll r
def uptoBulkEntries {H : Type} : List (Lit × DataW H) → Nat
  | [] => 0
  | x :: r => uptoBulkEntry x + uptoBulkEntries r
def uptoBulkEntry {H : Type} : Lit × DataW H → Nat
  | (.string bytes, d) => bytes.length + uptoBulk d + 1
  | (_, d) => uptoBulk d + 1
 end
def uptoSmall : (H : Type) → List (DataW H) → Bool := fun _ ds => decide (uptoBulkAll ds ≤ 1048576)
def OpenSpec.upto (s : _root_.Go.ChangeSpec) : _root_.Go.OpenSpec := { _root_.Go.OpenSpec.ofChange s with cond := some uptoSmall }

/-- 'laws.FnExactChunksOf', WHERE WHAT IT READS IS OF BULK AT MOST 1048576: true; the input reads as it did. -/
def fnExactChunksOfUptoRow : OpenClaim := { program := "ytlgeoaepjghdhaa", sum := "96bb2cb75bcc9bdfb6619b26c0b97ab7de46b6d0c558bcb9e12019407f93a872", func := "loop.example/g00172/laws.FnExactChunksOf", spec := "fnExactChunksOf", inPlace := ["internal/bytealg.IndexByteString"], plainKeys := false, apart := false, narrowed := true }
def FnExactChunksOfUptoSaid : Prop := fnExactChunksOfUptoRow.holds Try.pinned (OpenSpec.upto fnExactChunksOfSpec)

/-- 'laws.FnExactMergeTexts', WHERE WHAT IT READS IS OF BULK AT MOST 1048576: true; the input reads as it did. -/
def fnExactMergeTextsUptoRow : OpenClaim := { program := "ytlgeoaepjghdhaa", sum := "96bb2cb75bcc9bdfb6619b26c0b97ab7de46b6d0c558bcb9e12019407f93a872", func := "loop.example/g00172/laws.FnExactMergeTexts", spec := "fnExactMergeTexts", inPlace := ["internal/bytealg.IndexByteString", "internal/abi.NoEscape"], unfollowed := true, recurses := true, plainKeys := false, apart := false, narrowed := true }
def FnExactMergeTextsUptoSaid : Prop := fnExactMergeTextsUptoRow.holds Try.pinned (OpenSpec.upto fnExactMergeTextsSpec)

/-- 'laws.FnExactMergeKind', WHERE WHAT IT READS IS OF BULK AT MOST 1048576: true; the input reads as it did. -/
def fnExactMergeKindUptoRow : OpenClaim := { program := "ytlgeoaepjghdhaa", sum := "96bb2cb75bcc9bdfb6619b26c0b97ab7de46b6d0c558bcb9e12019407f93a872", func := "loop.example/g00172/laws.FnExactMergeKind", spec := "fnExactMergeKind", plainKeys := false, apart := false, narrowed := true }
def FnExactMergeKindUptoSaid : Prop := fnExactMergeKindUptoRow.holds Try.pinned (OpenSpec.upto fnExactMergeKindSpec)

/-- 'laws.FnExactWorkText', WHERE WHAT IT READS IS OF BULK AT MOST 1048576: true; the input reads as it did. -/
def fnExactWorkTextUptoRow : OpenClaim := { program := "ytlgeoaepjghdhaa", sum := "96bb2cb75bcc9bdfb6619b26c0b97ab7de46b6d0c558bcb9e12019407f93a872", func := "loop.example/g00172/laws.FnExactWorkText", spec := "fnExactWorkText", plainKeys := false, apart := false, narrowed := true }
def FnExactWorkTextUptoSaid : Prop := fnExactWorkTextUptoRow.holds Try.pinned (OpenSpec.upto fnExactWorkTextSpec)

/-- 'laws.FnExactHasBlobs', WHERE WHAT IT READS IS OF BULK AT MOST 1048576: true; the input reads as it did. -/
def fnExactHasBlobsUptoRow : OpenClaim := { program := "ytlgeoaepjghdhaa", sum := "96bb2cb75bcc9bdfb6619b26c0b97ab7de46b6d0c558bcb9e12019407f93a872", func := "loop.example/g00172/laws.FnExactHasBlobs", spec := "fnExactHasBlobs", inPlace := ["internal/bytealg.IndexByteString"], unfollowed := true, recurses := true, plainKeys := false, apart := false, narrowed := true }
def FnExactHasBlobsUptoSaid : Prop := fnExactHasBlobsUptoRow.holds Try.pinned (OpenSpec.upto fnExactHasBlobsSpec)

end Rows
end Go.Proofs.Ytlgeoaepjghdhaa
