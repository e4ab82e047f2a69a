/-
  No cell of these rows narrows 'for every input' (looked for: loops, veiled, ifaces, maps, wideKeys, modest, calm, conditions, laid).
  DERIVED. THE GIVEN ROWS OF THIS SEAT. 6 by the template 'for every input the law returns true; each argument reads behind the call as it read before'; 0 by the template 'total and deterministic' (their statements: YtbmokagmpdgidajTotals.lean).
  GIVEN WITH THE SEED: the statements are not yours to turn. If you find one false, say at which input.
  Laid BY PROGRAM, IN A SANDBOX (cutbox-rows.mjs): the forced cells as the released guide's own fill.sh prints them over the translation 2f62e7ffb60e8b44… (all of the seat's roots in one cut). By AI agents, Wed Nov 11 2026. No macro, syntax, notation, axiom, sorry.
-/
import Derived.Test.YtbmokagmpdgidajChecked
import GoSem.Claim
import GoSem.ClaimJoined
import GoSem.ClaimMapViews
import Derived.JoinedTies
import Derived.KernelRfl
namespace Go.Proofs.Ytbmokagmpdgidaj
/- THE CELL 'sum', in the pinned program and in every row, IS THE sha256 OF THE DUMP (.gsa) THAT YtbmokagmpdgidajProg.lean LOADS. Nothing in Lean hashes anything: it is a label: what it is worth is what the hold of that sum in a sandbox is worth. -/
noncomputable def Try.pinned : Pinned := { name := "ytbmokagmpdgidaj", sum := "2f62e7ffb60e8b44cfd918fcd6c1f00c238d7dd5e8a7bc1bf7e48a56fb8d619c", checked := Try.checked }
namespace Rows
def none {H : Type} : Left H := { results := [], args := [] }

/-- 'laws.FnExactSwapChunks': WHATEVER THE INPUT: true; the input reads as it did. -/
def fnExactSwapChunksSpec : ChangeSpec := { name := "fnExactSwapChunks", fn := fun _ => fun
  | [d] => { results := [.lit (.bool true)], args := [d] }
  | _ => none }
def fnExactSwapChunksRow : OpenClaim := { program := "ytbmokagmpdgidaj", sum := "2f62e7ffb60e8b44cfd918fcd6c1f00c238d7dd5e8a7bc1bf7e48a56fb8d619c", func := "loop.example/g00172/laws.FnExactSwapChunks", spec := "fnExactSwapChunks", inPlace := ["internal/bytealg.IndexByteString"], apart := false }
def FnExactSwapChunksSaid : Prop := fnExactSwapChunksRow.holds Try.pinned (OpenSpec.ofChange fnExactSwapChunksSpec)

/-- ITS FALSE NEIGHBOUR: 'it returns false'. Refute it at one input. -/
def fnExactSwapChunksWrong : ChangeSpec := { name := "fnExactSwapChunks", fn := fun _ => fun
  | [d] => { results := [.lit (.bool false)], args := [d] }
  | _ => none }
def FnExactSwapChunksWrongFalsely : Prop := fnExactSwapChunksRow.holds Try.pinned (OpenSpec.ofChange fnExactSwapChunksWrong)

/-- 'laws.FnExactChunksFault': WHATEVER THE INPUT: true; the input reads as it did. -/
def fnExactChunksFaultSpec : ChangeSpec := { name := "fnExactChunksFault", fn := fun _ => fun
  | [d] => { results := [.lit (.bool true)], args := [d] }
  | _ => none }
def fnExactChunksFaultRow : OpenClaim := { program := "ytbmokagmpdgidaj", sum := "2f62e7ffb60e8b44cfd918fcd6c1f00c238d7dd5e8a7bc1bf7e48a56fb8d619c", func := "loop.example/g00172/laws.FnExactChunksFault", spec := "fnExactChunksFault", inPlace := ["internal/bytealg.IndexByteString"], apart := false }
def FnExactChunksFaultSaid : Prop := fnExactChunksFaultRow.holds Try.pinned (OpenSpec.ofChange fnExactChunksFaultSpec)

/-- ITS FALSE NEIGHBOUR: 'it returns false'. Refute it at one input. -/
def fnExactChunksFaultWrong : ChangeSpec := { name := "fnExactChunksFault", fn := fun _ => fun
  | [d] => { results := [.lit (.bool false)], args := [d] }
  | _ => none }
def FnExactChunksFaultWrongFalsely : Prop := fnExactChunksFaultRow.holds Try.pinned (OpenSpec.ofChange fnExactChunksFaultWrong)

/-- 'laws.FnExactWeaveSide': WHATEVER THE INPUT: true; the input reads as it did. -/
def fnExactWeaveSideSpec : ChangeSpec := { name := "fnExactWeaveSide", fn := fun _ => fun
  | [d1, d2] => { results := [.lit (.bool true)], args := [d1, d2] }
  | _ => none }
def fnExactWeaveSideRow : OpenClaim := { program := "ytbmokagmpdgidaj", sum := "2f62e7ffb60e8b44cfd918fcd6c1f00c238d7dd5e8a7bc1bf7e48a56fb8d619c", func := "loop.example/g00172/laws.FnExactWeaveSide", spec := "fnExactWeaveSide", inPlace := ["internal/bytealg.IndexByteString"], apart := false }
def FnExactWeaveSideSaid : Prop := fnExactWeaveSideRow.holds Try.pinned (OpenSpec.ofChange fnExactWeaveSideSpec)

/-- ITS FALSE NEIGHBOUR: 'it returns false'. Refute it at one input. -/
def fnExactWeaveSideWrong : ChangeSpec := { name := "fnExactWeaveSide", fn := fun _ => fun
  | [d1, d2] => { results := [.lit (.bool false)], args := [d1, d2] }
  | _ => none }
def FnExactWeaveSideWrongFalsely : Prop := fnExactWeaveSideRow.holds Try.pinned (OpenSpec.ofChange fnExactWeaveSideWrong)

/-- 'laws.FnExactMergeTexts': WHATEVER THE INPUT: true; the input reads as it did. -/
def fnExactMergeTextsSpec : ChangeSpec := { name := "fnExactMergeTexts", fn := fun _ => fun
  | [d1, d2, d3] => { results := [.lit (.bool true)], args := [d1, d2, d3] }
  | _ => none }
def fnExactMergeTextsRow : OpenClaim := { program := "ytbmokagmpdgidaj", sum := "2f62e7ffb60e8b44cfd918fcd6c1f00c238d7dd5e8a7bc1bf7e48a56fb8d619c", func := "loop.example/g00172/laws.FnExactMergeTexts", spec := "fnExactMergeTexts", inPlace := ["internal/bytealg.IndexByteString", "internal/abi.NoEscape"], unfollowed := true, recurses := true, apart := false }
def FnExactMergeTextsSaid : Prop := fnExactMergeTextsRow.holds Try.pinned (OpenSpec.ofChange fnExactMergeTextsSpec)

/-- ITS FALSE NEIGHBOUR: 'it returns false'. Refute it at one input. -/
def fnExactMergeTextsWrong : ChangeSpec := { name := "fnExactMergeTexts", fn := fun _ => fun
  | [d1, d2, d3] => { results := [.lit (.bool false)], args := [d1, d2, d3] }
  | _ => none }
def FnExactMergeTextsWrongFalsely : Prop := fnExactMergeTextsRow.holds Try.pinned (OpenSpec.ofChange fnExactMergeTextsWrong)

/-- 'laws.FnExactClashText': WHATEVER THE INPUT: true; the input reads as it did. -/
def fnExactClashTextSpec : ChangeSpec := { name := "fnExactClashText", fn := fun _ => fun
  | [d] => { results := [.lit (.bool true)], args := [d] }
  | _ => none }
def fnExactClashTextRow : OpenClaim := { program := "ytbmokagmpdgidaj", sum := "2f62e7ffb60e8b44cfd918fcd6c1f00c238d7dd5e8a7bc1bf7e48a56fb8d619c", func := "loop.example/g00172/laws.FnExactClashText", spec := "fnExactClashText", inPlace := ["internal/bytealg.IndexByteString", "internal/abi.NoEscape"], apart := false }
def FnExactClashTextSaid : Prop := fnExactClashTextRow.holds Try.pinned (OpenSpec.ofChange fnExactClashTextSpec)

/-- ITS FALSE NEIGHBOUR: 'it returns false'. Refute it at one input. -/
def fnExactClashTextWrong : ChangeSpec := { name := "fnExactClashText", fn := fun _ => fun
  | [d] => { results := [.lit (.bool false)], args := [d] }
  | _ => none }
def FnExactClashTextWrongFalsely : Prop := fnExactClashTextRow.holds Try.pinned (OpenSpec.ofChange fnExactClashTextWrong)

/-- 'laws.FnExactCountClashes': WHATEVER THE INPUT: true; the input reads as it did. -/
def fnExactCountClashesSpec : ChangeSpec := { name := "fnExactCountClashes", fn := fun _ => fun
  | [d] => { results := [.lit (.bool true)], args := [d] }
  | _ => none }
def fnExactCountClashesRow : OpenClaim := { program := "ytbmokagmpdgidaj", sum := "2f62e7ffb60e8b44cfd918fcd6c1f00c238d7dd5e8a7bc1bf7e48a56fb8d619c", func := "loop.example/g00172/laws.FnExactCountClashes", spec := "fnExactCountClashes", inPlace := ["internal/bytealg.IndexByteString"], apart := false }
def FnExactCountClashesSaid : Prop := fnExactCountClashesRow.holds Try.pinned (OpenSpec.ofChange fnExactCountClashesSpec)

/-- ITS FALSE NEIGHBOUR: 'it returns false'. Refute it at one input. -/
def fnExactCountClashesWrong : ChangeSpec := { name := "fnExactCountClashes", fn := fun _ => fun
  | [d] => { results := [.lit (.bool false)], args := [d] }
  | _ => none }
def FnExactCountClashesWrongFalsely : Prop := fnExactCountClashesRow.holds Try.pinned (OpenSpec.ofChange fnExactCountClashesWrong)

/- THE SECOND FORM. 'bulk': how many values and letters a reading holds, each counted each time it is reached (what is shared counts as often as it is met; a slice's spare places count too). A statement '..UptoSaid' is the law's where the arguments, and the package variables that the reading takes, are together of bulk at most 1048576: NARROWER than '..Said'. Prove '..Said' where nothing that the law and all that it calls make is longer than what came in: it says more and counts as full. Else prove '..UptoSaid'. A law counts once. -/
mutual
def uptoBulk {H : Type} : DataW H → Nat
  | .lit (.string bytes) => bytes.length + 1
  | .lit _ => 1
  | .nil => 1
  | .ptr d => uptoBulk d + 1
  | .slice elems spare => uptoBulkAll elems + uptoBulkAll spare + 1
  | .agg parts => uptoBulkAll parts + 1
  | .iface _ d => uptoBulk d + 1
  | .map entries => uptoBulkEntries entries + 1
  | .held _ => 1
def uptoBulkAll {H : Type} : List (DataW H) → Nat
  | [] => 0
  | d :: r => uptoBulk d + uptoBulkAll r
def uptoBulkEntries {H : Type} : List (Lit × DataW H) → Nat
  | [] => 0
  | x :: r => uptoBulkEntry x + uptoBulkEntries r
def uptoBulkEntry {H : Type} : Lit × DataW H → Nat
  | (.string bytes, d) => bytes.length + uptoBulk d + 1
  | (_, d) => uptoBulk d + 1
 end
def uptoSmall : (H : Type) → List (DataW H) → Bool := fun _ ds => decide (uptoBulkAll ds ≤ 1048576)
def OpenSpec.upto (s : _root_.Go.ChangeSpec) : _root_.Go.OpenSpec := { _root_.Go.OpenSpec.ofChange s with cond := some uptoSmall }

/-- 'laws.FnExactSwapChunks', WHERE WHAT IT READS IS OF BULK AT MOST 1048576: true; the input reads as it did. -/
def fnExactSwapChunksUptoRow : OpenClaim := { program := "ytbmokagmpdgidaj", sum := "2f62e7ffb60e8b44cfd918fcd6c1f00c238d7dd5e8a7bc1bf7e48a56fb8d619c", func := "loop.example/g00172/laws.FnExactSwapChunks", spec := "fnExactSwapChunks", inPlace := ["internal/bytealg.IndexByteString"], apart := false, narrowed := true }
def FnExactSwapChunksUptoSaid : Prop := fnExactSwapChunksUptoRow.holds Try.pinned (OpenSpec.upto fnExactSwapChunksSpec)

/-- 'laws.FnExactChunksFault', WHERE WHAT IT READS IS OF BULK AT MOST 1048576: true; the input reads as it did. -/
def fnExactChunksFaultUptoRow : OpenClaim := { program := "ytbmokagmpdgidaj", sum := "2f62e7ffb60e8b44cfd918fcd6c1f00c238d7dd5e8a7bc1bf7e48a56fb8d619c", func := "loop.example/g00172/laws.FnExactChunksFault", spec := "fnExactChunksFault", inPlace := ["internal/bytealg.IndexByteString"], apart := false, narrowed := true }
def FnExactChunksFaultUptoSaid : Prop := fnExactChunksFaultUptoRow.holds Try.pinned (OpenSpec.upto fnExactChunksFaultSpec)

/-- 'laws.FnExactWeaveSide', WHERE WHAT IT READS IS OF BULK AT MOST 1048576: true; the input reads as it did. -/
def fnExactWeaveSideUptoRow : OpenClaim := { program := "ytbmokagmpdgidaj", sum := "2f62e7ffb60e8b44cfd918fcd6c1f00c238d7dd5e8a7bc1bf7e48a56fb8d619c", func := "loop.example/g00172/laws.FnExactWeaveSide", spec := "fnExactWeaveSide", inPlace := ["internal/bytealg.IndexByteString"], apart := false, narrowed := true }
def FnExactWeaveSideUptoSaid : Prop := fnExactWeaveSideUptoRow.holds Try.pinned (OpenSpec.upto fnExactWeaveSideSpec)

/-- 'laws.FnExactMergeTexts', WHERE WHAT IT READS IS OF BULK AT MOST 1048576: true; the input reads as it did. -/
def fnExactMergeTextsUptoRow : OpenClaim := { program := "ytbmokagmpdgidaj", sum := "2f62e7ffb60e8b44cfd918fcd6c1f00c238d7dd5e8a7bc1bf7e48a56fb8d619c", func := "loop.example/g00172/laws.FnExactMergeTexts", spec := "fnExactMergeTexts", inPlace := ["internal/bytealg.IndexByteString", "internal/abi.NoEscape"], unfollowed := true, recurses := true, apart := false, narrowed := true }
def FnExactMergeTextsUptoSaid : Prop := fnExactMergeTextsUptoRow.holds Try.pinned (OpenSpec.upto fnExactMergeTextsSpec)

/-- 'laws.FnExactClashText', WHERE WHAT IT READS IS OF BULK AT MOST 1048576: true; the input reads as it did. -/
def fnExactClashTextUptoRow : OpenClaim := { program := "ytbmokagmpdgidaj", sum := "2f62e7ffb60e8b44cfd918fcd6c1f00c238d7dd5e8a7bc1bf7e48a56fb8d619c", func := "loop.example/g00172/laws.FnExactClashText", spec := "fnExactClashText", inPlace := ["internal/bytealg.IndexByteString", "internal/abi.NoEscape"], apart := false, narrowed := true }
def FnExactClashTextUptoSaid : Prop := fnExactClashTextUptoRow.holds Try.pinned (OpenSpec.upto fnExactClashTextSpec)

/-- 'laws.FnExactCountClashes', WHERE WHAT IT READS IS OF BULK AT MOST 1048576: true; the input reads as it did. -/
def fnExactCountClashesUptoRow : OpenClaim := { program := "ytbmokagmpdgidaj", sum := "2f62e7ffb60e8b44cfd918fcd6c1f00c238d7dd5e8a7bc1bf7e48a56fb8d619c", func := "loop.example/g00172/laws.FnExactCountClashes", spec := "fnExactCountClashes", inPlace := ["internal/bytealg.IndexByteString"], apart := false, narrowed := true }
def FnExactCountClashesUptoSaid : Prop := fnExactCountClashesUptoRow.holds Try.pinned (OpenSpec.upto fnExactCountClashesSpec)

end Rows
end Go.Proofs.Ytbmokagmpdgidaj
