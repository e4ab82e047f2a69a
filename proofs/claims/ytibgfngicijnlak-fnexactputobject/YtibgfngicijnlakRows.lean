/-
  No cell of these rows narrows 'for every input' (looked for: loops, veiled, ifaces, maps, wideKeys, modest, calm, conditions, laid).
  DERIVED. THE GIVEN ROWS OF THIS SEAT. 6 by the template 'for every input the law returns true; each argument reads behind the call as it read before'; 0 by the template 'total and deterministic' (their statements: YtibgfngicijnlakTotals.lean).
  GIVEN WITH THE SEED: the statements are not yours to turn. If you find one false, say at which input.
  Laid BY PROGRAM, IN A SANDBOX (cutbox-rows.mjs): the forced cells as the released guide's own fill.sh prints them over the translation 309ef3bb3868adab… (all of the seat's roots in one cut). By AI agents, Wed Nov 11 2026. No macro, syntax, notation, axiom, sorry.
-/
import Derived.Test.YtibgfngicijnlakChecked
import GoSem.Claim
import GoSem.ClaimJoined
import GoSem.ClaimMapViews
import Derived.JoinedTies
import Derived.KernelRfl
namespace Go.Proofs.Ytibgfngicijnlak
/- THE CELL 'sum', in the pinned program and in every row, IS THE sha256 OF THE DUMP (.gsa) THAT YtibgfngicijnlakProg.lean LOADS. Nothing in Lean hashes anything: it is a label: what it is worth is what the hold of that sum in a sandbox is worth. -/
noncomputable def Try.pinned : Pinned := { name := "ytibgfngicijnlak", sum := "309ef3bb3868adab0e1d3b0af81d84c4257e4168c873ff27f58945c039549ac5", checked := Try.checked }
namespace Rows
def none {H : Type} : Left H := { results := [], args := [] }

/-- 'laws.FnExactIdOf': WHATEVER THE INPUT: true; the input reads as it did. -/
def fnExactIdOfSpec : ChangeSpec := { name := "fnExactIdOf", fn := fun _ => fun
  | [d1, d2] => { results := [.lit (.bool true)], args := [d1, d2] }
  | _ => none }
def fnExactIdOfRow : OpenClaim := { program := "ytibgfngicijnlak", sum := "309ef3bb3868adab0e1d3b0af81d84c4257e4168c873ff27f58945c039549ac5", func := "loop.example/g00172/laws.FnExactIdOf", spec := "fnExactIdOf", inPlace := ["internal/bytealg.IndexByteString"], unfollowed := true, recurses := true, plainKeys := false, apart := false }
def FnExactIdOfSaid : Prop := fnExactIdOfRow.holds Try.pinned (OpenSpec.ofChange fnExactIdOfSpec)

/-- ITS FALSE NEIGHBOUR: 'it returns false'. Refute it at one input. -/
def fnExactIdOfWrong : ChangeSpec := { name := "fnExactIdOf", fn := fun _ => fun
  | [d1, d2] => { results := [.lit (.bool false)], args := [d1, d2] }
  | _ => none }
def FnExactIdOfWrongFalsely : Prop := fnExactIdOfRow.holds Try.pinned (OpenSpec.ofChange fnExactIdOfWrong)

/-- 'laws.FnExactIsId': WHATEVER THE INPUT: true; the input reads as it did. -/
def fnExactIsIdSpec : ChangeSpec := { name := "fnExactIsId", fn := fun _ => fun
  | [d] => { results := [.lit (.bool true)], args := [d] }
  | _ => none }
def fnExactIsIdRow : OpenClaim := { program := "ytibgfngicijnlak", sum := "309ef3bb3868adab0e1d3b0af81d84c4257e4168c873ff27f58945c039549ac5", func := "loop.example/g00172/laws.FnExactIsId", spec := "fnExactIsId", inPlace := ["internal/bytealg.IndexByteString"], plainKeys := false, apart := false }
def FnExactIsIdSaid : Prop := fnExactIsIdRow.holds Try.pinned (OpenSpec.ofChange fnExactIsIdSpec)

/-- ITS FALSE NEIGHBOUR: 'it returns false'. Refute it at one input. -/
def fnExactIsIdWrong : ChangeSpec := { name := "fnExactIsId", fn := fun _ => fun
  | [d] => { results := [.lit (.bool false)], args := [d] }
  | _ => none }
def FnExactIsIdWrongFalsely : Prop := fnExactIsIdRow.holds Try.pinned (OpenSpec.ofChange fnExactIsIdWrong)

/-- 'laws.FnExactStoreFault': WHATEVER THE INPUT: true; the input reads as it did. -/
def fnExactStoreFaultSpec : ChangeSpec := { name := "fnExactStoreFault", fn := fun _ => fun
  | [d] => { results := [.lit (.bool true)], args := [d] }
  | _ => none }
def fnExactStoreFaultRow : OpenClaim := { program := "ytibgfngicijnlak", sum := "309ef3bb3868adab0e1d3b0af81d84c4257e4168c873ff27f58945c039549ac5", func := "loop.example/g00172/laws.FnExactStoreFault", spec := "fnExactStoreFault", inPlace := ["internal/bytealg.IndexByteString"], unfollowed := true, recurses := true, plainKeys := false, apart := false }
def FnExactStoreFaultSaid : Prop := fnExactStoreFaultRow.holds Try.pinned (OpenSpec.ofChange fnExactStoreFaultSpec)

/-- ITS FALSE NEIGHBOUR: 'it returns false'. Refute it at one input. -/
def fnExactStoreFaultWrong : ChangeSpec := { name := "fnExactStoreFault", fn := fun _ => fun
  | [d] => { results := [.lit (.bool false)], args := [d] }
  | _ => none }
def FnExactStoreFaultWrongFalsely : Prop := fnExactStoreFaultRow.holds Try.pinned (OpenSpec.ofChange fnExactStoreFaultWrong)

/-- 'laws.FnExactPutObject': WHATEVER THE INPUT: true; the input reads as it did. -/
def fnExactPutObjectSpec : ChangeSpec := { name := "fnExactPutObject", fn := fun _ => fun
  | [d1, d2, d3] => { results := [.lit (.bool true)], args := [d1, d2, d3] }
  | _ => none }
def fnExactPutObjectRow : OpenClaim := { program := "ytibgfngicijnlak", sum := "309ef3bb3868adab0e1d3b0af81d84c4257e4168c873ff27f58945c039549ac5", func := "loop.example/g00172/laws.FnExactPutObject", spec := "fnExactPutObject", inPlace := ["internal/bytealg.IndexByteString", "internal/bytealg.abigen_runtime_cmpstring"], unfollowed := true, recurses := true, plainKeys := false, apart := false }
def FnExactPutObjectSaid : Prop := fnExactPutObjectRow.holds Try.pinned (OpenSpec.ofChange fnExactPutObjectSpec)

/-- ITS FALSE NEIGHBOUR: 'it returns false'. Refute it at one input. -/
def fnExactPutObjectWrong : ChangeSpec := { name := "fnExactPutObject", fn := fun _ => fun
  | [d1, d2, d3] => { results := [.lit (.bool false)], args := [d1, d2, d3] }
  | _ => none }
def FnExactPutObjectWrongFalsely : Prop := fnExactPutObjectRow.holds Try.pinned (OpenSpec.ofChange fnExactPutObjectWrong)

/-- 'laws.FnExactGetObject': WHATEVER THE INPUT: true; the input reads as it did. -/
def fnExactGetObjectSpec : ChangeSpec := { name := "fnExactGetObject", fn := fun _ => fun
  | [d1, d2, d3] => { results := [.lit (.bool true)], args := [d1, d2, d3] }
  | _ => none }
def fnExactGetObjectRow : OpenClaim := { program := "ytibgfngicijnlak", sum := "309ef3bb3868adab0e1d3b0af81d84c4257e4168c873ff27f58945c039549ac5", func := "loop.example/g00172/laws.FnExactGetObject", spec := "fnExactGetObject", inPlace := ["internal/bytealg.IndexByteString"], unfollowed := true, recurses := true, plainKeys := false, apart := false }
def FnExactGetObjectSaid : Prop := fnExactGetObjectRow.holds Try.pinned (OpenSpec.ofChange fnExactGetObjectSpec)

/-- ITS FALSE NEIGHBOUR: 'it returns false'. Refute it at one input. -/
def fnExactGetObjectWrong : ChangeSpec := { name := "fnExactGetObject", fn := fun _ => fun
  | [d1, d2, d3] => { results := [.lit (.bool false)], args := [d1, d2, d3] }
  | _ => none }
def FnExactGetObjectWrongFalsely : Prop := fnExactGetObjectRow.holds Try.pinned (OpenSpec.ofChange fnExactGetObjectWrong)

/-- 'laws.FnExactMergeStores': WHATEVER THE INPUT: true; the input reads as it did. -/
def fnExactMergeStoresSpec : ChangeSpec := { name := "fnExactMergeStores", fn := fun _ => fun
  | [d1, d2] => { results := [.lit (.bool true)], args := [d1, d2] }
  | _ => none }
def fnExactMergeStoresRow : OpenClaim := { program := "ytibgfngicijnlak", sum := "309ef3bb3868adab0e1d3b0af81d84c4257e4168c873ff27f58945c039549ac5", func := "loop.example/g00172/laws.FnExactMergeStores", spec := "fnExactMergeStores", inPlace := ["internal/bytealg.IndexByteString", "internal/bytealg.abigen_runtime_cmpstring"], unfollowed := true, recurses := true, plainKeys := false, apart := false }
def FnExactMergeStoresSaid : Prop := fnExactMergeStoresRow.holds Try.pinned (OpenSpec.ofChange fnExactMergeStoresSpec)

/-- ITS FALSE NEIGHBOUR: 'it returns false'. Refute it at one input. -/
def fnExactMergeStoresWrong : ChangeSpec := { name := "fnExactMergeStores", fn := fun _ => fun
  | [d1, d2] => { results := [.lit (.bool false)], args := [d1, d2] }
  | _ => none }
def FnExactMergeStoresWrongFalsely : Prop := fnExactMergeStoresRow.holds Try.pinned (OpenSpec.ofChange fnExactMergeStoresWrong)

/- THE SECOND FORM. 'bulk': how many values and letters a reading holds, each counted each time it is reached (what is shared counts as often as it is met; a slice's spare places count too). A statement '..UptoSaid' is the law's where the arguments, and the package variables that the reading takes, are together of bulk at most 1048576: NARROWER than '..Said'. Prove '..Said' where nothing that the law and all that it calls make is longer than what came in: it says more and counts as full. Else prove '..UptoSaid'. A law counts once. -/
mutual
def uptoBulk {H : Type} : DataW H → Nat
  | .lit (.string bytes) => bytes.length + 1
  | .lit _ => 1
  | .nil => 1
  | .ptr d => uptoBulk d + 1
  | .slice elems spare => uptoBulkAll elems + uptoBulkAll spare + 1
  | .agg parts => uptoBulkAll parts + 1
  | .iface _ d => uptoBulk d + 1
  | .map entries => uptoBulkEntries entries + 1
  | .held _ => 1
def uptoBulkAll {H : Type} : List (DataW H) → Nat
  | [] => 0
  | d :: r => uptoBulk d + uptoBulkAll r
def uptoBulkEntries {H : Type} : List (Lit × DataW H) → Nat
  | [] => 0
  | x :: r => uptoBulkEntry x + uptoBulkEntries r
def uptoBulkEntry {H : Type} : Lit × DataW H → Nat
  | (.string bytes, d) => bytes.length + uptoBulk d + 1
  | (_, d) => uptoBulk d + 1
 end
def uptoSmall : (H : Type) → List (DataW H) → Bool := fun _ ds => decide (uptoBulkAll ds ≤ 1048576)
def OpenSpec.upto (s : _root_.Go.ChangeSpec) : _root_.Go.OpenSpec := { _root_.Go.OpenSpec.ofChange s with cond := some uptoSmall }

/-- 'laws.FnExactIdOf', WHERE WHAT IT READS IS OF BULK AT MOST 1048576: true; the input reads as it did. -/
def fnExactIdOfUptoRow : OpenClaim := { program := "ytibgfngicijnlak", sum := "309ef3bb3868adab0e1d3b0af81d84c4257e4168c873ff27f58945c039549ac5", func := "loop.example/g00172/laws.FnExactIdOf", spec := "fnExactIdOf", inPlace := ["internal/bytealg.IndexByteString"], unfollowed := true, recurses := true, plainKeys := false, apart := false, narrowed := true }
def FnExactIdOfUptoSaid : Prop := fnExactIdOfUptoRow.holds Try.pinned (OpenSpec.upto fnExactIdOfSpec)

/-- 'laws.FnExactIsId', WHERE WHAT IT READS IS OF BULK AT MOST 1048576: true; the input reads as it did. -/
def fnExactIsIdUptoRow : OpenClaim := { program := "ytibgfngicijnlak", sum := "309ef3bb3868adab0e1d3b0af81d84c4257e4168c873ff27f58945c039549ac5", func := "loop.example/g00172/laws.FnExactIsId", spec := "fnExactIsId", inPlace := ["internal/bytealg.IndexByteString"], plainKeys := false, apart := false, narrowed := true }
def FnExactIsIdUptoSaid : Prop := fnExactIsIdUptoRow.holds Try.pinned (OpenSpec.upto fnExactIsIdSpec)

/-- 'laws.FnExactStoreFault', WHERE WHAT IT READS IS OF BULK AT MOST 1048576: true; the input reads as it did. -/
def fnExactStoreFaultUptoRow : OpenClaim := { program := "ytibgfngicijnlak", sum := "309ef3bb3868adab0e1d3b0af81d84c4257e4168c873ff27f58945c039549ac5", func := "loop.example/g00172/laws.FnExactStoreFault", spec := "fnExactStoreFault", inPlace := ["internal/bytealg.IndexByteString"], unfollowed := true, recurses := true, plainKeys := false, apart := false, narrowed := true }
def FnExactStoreFaultUptoSaid : Prop := fnExactStoreFaultUptoRow.holds Try.pinned (OpenSpec.upto fnExactStoreFaultSpec)

/-- 'laws.FnExactPutObject', WHERE WHAT IT READS IS OF BULK AT MOST 1048576: true; the input reads as it did. -/
def fnExactPutObjectUptoRow : OpenClaim := { program := "ytibgfngicijnlak", sum := "309ef3bb3868adab0e1d3b0af81d84c4257e4168c873ff27f58945c039549ac5", func := "loop.example/g00172/laws.FnExactPutObject", spec := "fnExactPutObject", inPlace := ["internal/bytealg.IndexByteString", "internal/bytealg.abigen_runtime_cmpstring"], unfollowed := true, recurses := true, plainKeys := false, apart := false, narrowed := true }
def FnExactPutObjectUptoSaid : Prop := fnExactPutObjectUptoRow.holds Try.pinned (OpenSpec.upto fnExactPutObjectSpec)

/-- 'laws.FnExactGetObject', WHERE WHAT IT READS IS OF BULK AT MOST 1048576: true; the input reads as it did. -/
def fnExactGetObjectUptoRow : OpenClaim := { program := "ytibgfngicijnlak", sum := "309ef3bb3868adab0e1d3b0af81d84c4257e4168c873ff27f58945c039549ac5", func := "loop.example/g00172/laws.FnExactGetObject", spec := "fnExactGetObject", inPlace := ["internal/bytealg.IndexByteString"], unfollowed := true, recurses := true, plainKeys := false, apart := false, narrowed := true }
def FnExactGetObjectUptoSaid : Prop := fnExactGetObjectUptoRow.holds Try.pinned (OpenSpec.upto fnExactGetObjectSpec)

/-- 'laws.FnExactMergeStores', WHERE WHAT IT READS IS OF BULK AT MOST 1048576: true; the input reads as it did. -/
def fnExactMergeStoresUptoRow : OpenClaim := { program := "ytibgfngicijnlak", sum := "309ef3bb3868adab0e1d3b0af81d84c4257e4168c873ff27f58945c039549ac5", func := "loop.example/g00172/laws.FnExactMergeStores", spec := "fnExactMergeStores", inPlace := ["internal/bytealg.IndexByteString", "internal/bytealg.abigen_runtime_cmpstring"], unfollowed := true, recurses := true, plainKeys := false, apart := false, narrowed := true }
def FnExactMergeStoresUptoSaid : Prop := fnExactMergeStoresUptoRow.holds Try.pinned (OpenSpec.upto fnExactMergeStoresSpec)

end Rows
end Go.Proofs.Ytibgfngicijnlak
