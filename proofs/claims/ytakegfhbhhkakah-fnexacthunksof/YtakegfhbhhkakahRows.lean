/-
  No cell of these rows narrows 'for every input' (looked for: loops, veiled, ifaces, maps, wideKeys, modest, calm, conditions, laid).
  DERIVED. THE GIVEN ROWS OF THIS SEAT. 6 by the template 'for every input the law returns true; each argument reads behind the call as it read before'; 0 by the template 'total and deterministic' (their statements: YtakegfhbhhkakahTotals.lean).
  GIVEN WITH THE SEED: the statements are not yours to turn. If you find one false, say at which input.
  Laid BY PROGRAM, IN A SANDBOX (cutbox-rows.mjs): the forced cells as the released guide's own fill.sh prints them over the translation 967579bd7496dbd8… (all of the seat's roots in one cut). By AI agents, Wed Nov 11 2026. No macro, syntax, notation, axiom, sorry.
-/
import Derived.Test.YtakegfhbhhkakahChecked
import GoSem.Claim
import GoSem.ClaimJoined
import GoSem.ClaimMapViews
import Derived.JoinedTies
import Derived.KernelRfl
namespace Go.Proofs.Ytakegfhbhhkakah
/- THE CELL 'sum', in the pinned program and in every row, IS THE sha256 OF THE DUMP (.gsa) THAT YtakegfhbhhkakahProg.lean LOADS. Nothing in Lean hashes anything: it is a label: what it is worth is what the hold of that sum in a sandbox is worth. -/
noncomputable def Try.pinned : Pinned := { name := "ytakegfhbhhkakah", sum := "967579bd7496dbd8aed69926277384c3ea1b68366ba760295d6d64f795bc02a0", checked := Try.checked }
namespace Rows
def none {H : Type} : Left H := { results := [], args := [] }

/-- 'laws.FnExactChangesOf': WHATEVER THE INPUT: true; the input reads as it did. -/
def fnExactChangesOfSpec : ChangeSpec := { name := "fnExactChangesOf", fn := fun _ => fun
  | [d1, d2] => { results := [.lit (.bool true)], args := [d1, d2] }
  | _ => none }
def fnExactChangesOfRow : OpenClaim := { program := "ytakegfhbhhkakah", sum := "967579bd7496dbd8aed69926277384c3ea1b68366ba760295d6d64f795bc02a0", func := "loop.example/g00172/laws.FnExactChangesOf", spec := "fnExactChangesOf", inPlace := ["internal/bytealg.IndexByteString"], apart := false }
def FnExactChangesOfSaid : Prop := fnExactChangesOfRow.holds Try.pinned (OpenSpec.ofChange fnExactChangesOfSpec)

/-- ITS FALSE NEIGHBOUR: 'it returns false'. Refute it at one input. -/
def fnExactChangesOfWrong : ChangeSpec := { name := "fnExactChangesOf", fn := fun _ => fun
  | [d1, d2] => { results := [.lit (.bool false)], args := [d1, d2] }
  | _ => none }
def FnExactChangesOfWrongFalsely : Prop := fnExactChangesOfRow.holds Try.pinned (OpenSpec.ofChange fnExactChangesOfWrong)

/-- 'laws.FnExactEditCount': WHATEVER THE INPUT: true; the input reads as it did. -/
def fnExactEditCountSpec : ChangeSpec := { name := "fnExactEditCount", fn := fun _ => fun
  | [d1, d2] => { results := [.lit (.bool true)], args := [d1, d2] }
  | _ => none }
def fnExactEditCountRow : OpenClaim := { program := "ytakegfhbhhkakah", sum := "967579bd7496dbd8aed69926277384c3ea1b68366ba760295d6d64f795bc02a0", func := "loop.example/g00172/laws.FnExactEditCount", spec := "fnExactEditCount", inPlace := ["internal/bytealg.IndexByteString"], apart := false }
def FnExactEditCountSaid : Prop := fnExactEditCountRow.holds Try.pinned (OpenSpec.ofChange fnExactEditCountSpec)

/-- ITS FALSE NEIGHBOUR: 'it returns false'. Refute it at one input. -/
def fnExactEditCountWrong : ChangeSpec := { name := "fnExactEditCount", fn := fun _ => fun
  | [d1, d2] => { results := [.lit (.bool false)], args := [d1, d2] }
  | _ => none }
def FnExactEditCountWrongFalsely : Prop := fnExactEditCountRow.holds Try.pinned (OpenSpec.ofChange fnExactEditCountWrong)

/-- 'laws.FnExactWeaveChanges': WHATEVER THE INPUT: true; the input reads as it did. -/
def fnExactWeaveChangesSpec : ChangeSpec := { name := "fnExactWeaveChanges", fn := fun _ => fun
  | [d1, d2, d3] => { results := [.lit (.bool true)], args := [d1, d2, d3] }
  | _ => none }
def fnExactWeaveChangesRow : OpenClaim := { program := "ytakegfhbhhkakah", sum := "967579bd7496dbd8aed69926277384c3ea1b68366ba760295d6d64f795bc02a0", func := "loop.example/g00172/laws.FnExactWeaveChanges", spec := "fnExactWeaveChanges", inPlace := ["internal/bytealg.IndexByteString"], apart := false }
def FnExactWeaveChangesSaid : Prop := fnExactWeaveChangesRow.holds Try.pinned (OpenSpec.ofChange fnExactWeaveChangesSpec)

/-- ITS FALSE NEIGHBOUR: 'it returns false'. Refute it at one input. -/
def fnExactWeaveChangesWrong : ChangeSpec := { name := "fnExactWeaveChanges", fn := fun _ => fun
  | [d1, d2, d3] => { results := [.lit (.bool false)], args := [d1, d2, d3] }
  | _ => none }
def FnExactWeaveChangesWrongFalsely : Prop := fnExactWeaveChangesRow.holds Try.pinned (OpenSpec.ofChange fnExactWeaveChangesWrong)

/-- 'laws.FnExactChangesFault': WHATEVER THE INPUT: true; the input reads as it did. -/
def fnExactChangesFaultSpec : ChangeSpec := { name := "fnExactChangesFault", fn := fun _ => fun
  | [d1, d2, d3] => { results := [.lit (.bool true)], args := [d1, d2, d3] }
  | _ => none }
def fnExactChangesFaultRow : OpenClaim := { program := "ytakegfhbhhkakah", sum := "967579bd7496dbd8aed69926277384c3ea1b68366ba760295d6d64f795bc02a0", func := "loop.example/g00172/laws.FnExactChangesFault", spec := "fnExactChangesFault", inPlace := ["internal/bytealg.IndexByteString"], apart := false }
def FnExactChangesFaultSaid : Prop := fnExactChangesFaultRow.holds Try.pinned (OpenSpec.ofChange fnExactChangesFaultSpec)

/-- ITS FALSE NEIGHBOUR: 'it returns false'. Refute it at one input. -/
def fnExactChangesFaultWrong : ChangeSpec := { name := "fnExactChangesFault", fn := fun _ => fun
  | [d1, d2, d3] => { results := [.lit (.bool false)], args := [d1, d2, d3] }
  | _ => none }
def FnExactChangesFaultWrongFalsely : Prop := fnExactChangesFaultRow.holds Try.pinned (OpenSpec.ofChange fnExactChangesFaultWrong)

/-- 'laws.FnExactHunksOf': WHATEVER THE INPUT: true; the input reads as it did. -/
def fnExactHunksOfSpec : ChangeSpec := { name := "fnExactHunksOf", fn := fun _ => fun
  | [d1, d2, d3] => { results := [.lit (.bool true)], args := [d1, d2, d3] }
  | _ => none }
def fnExactHunksOfRow : OpenClaim := { program := "ytakegfhbhhkakah", sum := "967579bd7496dbd8aed69926277384c3ea1b68366ba760295d6d64f795bc02a0", func := "loop.example/g00172/laws.FnExactHunksOf", spec := "fnExactHunksOf", inPlace := ["internal/bytealg.IndexByteString"], apart := false }
def FnExactHunksOfSaid : Prop := fnExactHunksOfRow.holds Try.pinned (OpenSpec.ofChange fnExactHunksOfSpec)

/-- ITS FALSE NEIGHBOUR: 'it returns false'. Refute it at one input. -/
def fnExactHunksOfWrong : ChangeSpec := { name := "fnExactHunksOf", fn := fun _ => fun
  | [d1, d2, d3] => { results := [.lit (.bool false)], args := [d1, d2, d3] }
  | _ => none }
def FnExactHunksOfWrongFalsely : Prop := fnExactHunksOfRow.holds Try.pinned (OpenSpec.ofChange fnExactHunksOfWrong)

/-- 'laws.FnExactHunksFault': WHATEVER THE INPUT: true; the input reads as it did. -/
def fnExactHunksFaultSpec : ChangeSpec := { name := "fnExactHunksFault", fn := fun _ => fun
  | [d] => { results := [.lit (.bool true)], args := [d] }
  | _ => none }
def fnExactHunksFaultRow : OpenClaim := { program := "ytakegfhbhhkakah", sum := "967579bd7496dbd8aed69926277384c3ea1b68366ba760295d6d64f795bc02a0", func := "loop.example/g00172/laws.FnExactHunksFault", spec := "fnExactHunksFault", inPlace := ["internal/bytealg.IndexByteString"], unfollowed := true, recurses := true, apart := false }
def FnExactHunksFaultSaid : Prop := fnExactHunksFaultRow.holds Try.pinned (OpenSpec.ofChange fnExactHunksFaultSpec)

/-- ITS FALSE NEIGHBOUR: 'it returns false'. Refute it at one input. -/
def fnExactHunksFaultWrong : ChangeSpec := { name := "fnExactHunksFault", fn := fun _ => fun
  | [d] => { results := [.lit (.bool false)], args := [d] }
  | _ => none }
def FnExactHunksFaultWrongFalsely : Prop := fnExactHunksFaultRow.holds Try.pinned (OpenSpec.ofChange fnExactHunksFaultWrong)

/- THE SECOND FORM. 'bulk': how many values and letters a reading holds, each counted each time it is reached (what is shared counts as often as it is met; a slice's spare places count too). A statement '..UptoSaid' is the law's where the arguments, and the package variables that the reading takes, are together of bulk at most 1048576: NARROWER than '..Said'. Prove '..Said' where nothing that the law and all that it calls make is longer than what came in: it says more and counts as full. Else prove '..UptoSaid'. A law counts once. -/
mutual
def uptoBulk {H : Type} : DataW H → Nat
  | .lit (.string bytes) => bytes.length + 1
  | .lit _ => 1
  | .nil => 1
  | .ptr d => uptoBulk d + 1
  | .slice elems spare => uptoBulkAll elems + uptoBulkAll spare + 1
  | .agg parts => uptoBulkAll parts + 1
  | .iface _ d => uptoBulk d + 1
  | .map entries => uptoBulkEntries entries + 1
  | .held _ => 1
def uptoBulkAll {H : Type} : List (DataW H) → Nat
  | [] => 0
  | d :: r => uptoBulk d + uptoBulkAll r
def uptoBulkEntries {H : Type} : List (Lit × DataW H) → Nat
  | [] => 0
  | x :: r => uptoBulkEntry x + uptoBulkEntries r
def uptoBulkEntry {H : Type} : Lit × DataW H → Nat
  | (.string bytes, d) => bytes.length + uptoBulk d + 1
  | (_, d) => uptoBulk d + 1
 end
def uptoSmall : (H : Type) → List (DataW H) → Bool := fun _ ds => decide (uptoBulkAll ds ≤ 1048576)
def OpenSpec.upto (s : _root_.Go.ChangeSpec) : _root_.Go.OpenSpec := { _root_.Go.OpenSpec.ofChange s with cond := some uptoSmall }

/-- 'laws.FnExactChangesOf', WHERE WHAT IT READS IS OF BULK AT MOST 1048576: true; the input reads as it did. -/
def fnExactChangesOfUptoRow : OpenClaim := { program := "ytakegfhbhhkakah", sum := "967579bd7496dbd8aed69926277384c3ea1b68366ba760295d6d64f795bc02a0", func := "loop.example/g00172/laws.FnExactChangesOf", spec := "fnExactChangesOf", inPlace := ["internal/bytealg.IndexByteString"], apart := false, narrowed := true }
def FnExactChangesOfUptoSaid : Prop := fnExactChangesOfUptoRow.holds Try.pinned (OpenSpec.upto fnExactChangesOfSpec)

/-- 'laws.FnExactEditCount', WHERE WHAT IT READS IS OF BULK AT MOST 1048576: true; the input reads as it did. -/
def fnExactEditCountUptoRow : OpenClaim := { program := "ytakegfhbhhkakah", sum := "967579bd7496dbd8aed69926277384c3ea1b68366ba760295d6d64f795bc02a0", func := "loop.example/g00172/laws.FnExactEditCount", spec := "fnExactEditCount", inPlace := ["internal/bytealg.IndexByteString"], apart := false, narrowed := true }
def FnExactEditCountUptoSaid : Prop := fnExactEditCountUptoRow.holds Try.pinned (OpenSpec.upto fnExactEditCountSpec)

/-- 'laws.FnExactWeaveChanges', WHERE WHAT IT READS IS OF BULK AT MOST 1048576: true; the input reads as it did. -/
def fnExactWeaveChangesUptoRow : OpenClaim := { program := "ytakegfhbhhkakah", sum := "967579bd7496dbd8aed69926277384c3ea1b68366ba760295d6d64f795bc02a0", func := "loop.example/g00172/laws.FnExactWeaveChanges", spec := "fnExactWeaveChanges", inPlace := ["internal/bytealg.IndexByteString"], apart := false, narrowed := true }
def FnExactWeaveChangesUptoSaid : Prop := fnExactWeaveChangesUptoRow.holds Try.pinned (OpenSpec.upto fnExactWeaveChangesSpec)

/-- 'laws.FnExactChangesFault', WHERE WHAT IT READS IS OF BULK AT MOST 1048576: true; the input reads as it did. -/
def fnExactChangesFaultUptoRow : OpenClaim := { program := "ytakegfhbhhkakah", sum := "967579bd7496dbd8aed69926277384c3ea1b68366ba760295d6d64f795bc02a0", func := "loop.example/g00172/laws.FnExactChangesFault", spec := "fnExactChangesFault", inPlace := ["internal/bytealg.IndexByteString"], apart := false, narrowed := true }
def FnExactChangesFaultUptoSaid : Prop := fnExactChangesFaultUptoRow.holds Try.pinned (OpenSpec.upto fnExactChangesFaultSpec)

/-- 'laws.FnExactHunksOf', WHERE WHAT IT READS IS OF BULK AT MOST 1048576: true; the input reads as it did. -/
def fnExactHunksOfUptoRow : OpenClaim := { program := "ytakegfhbhhkakah", sum := "967579bd7496dbd8aed69926277384c3ea1b68366ba760295d6d64f795bc02a0", func := "loop.example/g00172/laws.FnExactHunksOf", spec := "fnExactHunksOf", inPlace := ["internal/bytealg.IndexByteString"], apart := false, narrowed := true }
def FnExactHunksOfUptoSaid : Prop := fnExactHunksOfUptoRow.holds Try.pinned (OpenSpec.upto fnExactHunksOfSpec)

/-- 'laws.FnExactHunksFault', WHERE WHAT IT READS IS OF BULK AT MOST 1048576: true; the input reads as it did. -/
def fnExactHunksFaultUptoRow : OpenClaim := { program := "ytakegfhbhhkakah", sum := "967579bd7496dbd8aed69926277384c3ea1b68366ba760295d6d64f795bc02a0", func := "loop.example/g00172/laws.FnExactHunksFault", spec := "fnExactHunksFault", inPlace := ["internal/bytealg.IndexByteString"], unfollowed := true, recurses := true, apart := false, narrowed := true }
def FnExactHunksFaultUptoSaid : Prop := fnExactHunksFaultUptoRow.holds Try.pinned (OpenSpec.upto fnExactHunksFaultSpec)

end Rows
end Go.Proofs.Ytakegfhbhhkakah
