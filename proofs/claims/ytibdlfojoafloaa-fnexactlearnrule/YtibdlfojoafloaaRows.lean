/-
  No cell of these rows narrows 'for every input' (looked for: loops, veiled, ifaces, maps, wideKeys, modest, calm, conditions, laid).
  DERIVED. THE GIVEN ROWS OF THIS SEAT. 4 by the template 'for every input the law returns true; each argument reads behind the call as it read before'; 0 by the template 'total and deterministic' (their statements: YtibdlfojoafloaaTotals.lean).
  GIVEN WITH THE SEED: the statements are not yours to turn. If you find one false, say at which input.
  Laid BY PROGRAM, IN A SANDBOX (cutbox-rows.mjs): the forced cells as the released guide's own fill.sh prints them over the translation 6fda34df88f0f9b2… (all of the seat's roots in one cut). By AI agents, Wed Nov 11 2026. No macro, syntax, notation, axiom, sorry.
-/
import Derived.Test.YtibdlfojoafloaaChecked
import GoSem.Claim
import GoSem.ClaimJoined
import GoSem.ClaimMapViews
import Derived.JoinedTies
import Derived.KernelRfl
namespace Go.Proofs.Ytibdlfojoafloaa
/- THE CELL 'sum', in the pinned program and in every row, IS THE sha256 OF THE DUMP (.gsa) THAT YtibdlfojoafloaaProg.lean LOADS. Nothing in Lean hashes anything: it is a label: what it is worth is what the hold of that sum in a sandbox is worth. -/
noncomputable def Try.pinned : Pinned := { name := "ytibdlfojoafloaa", sum := "6fda34df88f0f9b2ec9e34a7fd45330adf6746f36a9ac634c68e0455de457186", checked := Try.checked }
namespace Rows
def none {H : Type} : Left H := { results := [], args := [] }

/-- 'laws.FnRules': WHATEVER THE INPUT: true; the input reads as it did. -/
def fnRulesSpec : ChangeSpec := { name := "fnRules", fn := fun _ => fun
  | [d] => { results := [.lit (.bool true)], args := [d] }
  | _ => none }
def fnRulesRow : OpenClaim := { program := "ytibdlfojoafloaa", sum := "6fda34df88f0f9b2ec9e34a7fd45330adf6746f36a9ac634c68e0455de457186", func := "loop.example/g00172/laws.FnRules", spec := "fnRules", inPlace := ["internal/bytealg.IndexByteString", "internal/bytealg.abigen_runtime_cmpstring", "slices.overlaps[loop.example/g00172/impl.Rule]"], unfollowed := true, recurses := true, apart := false }
def FnRulesSaid : Prop := fnRulesRow.holds Try.pinned (OpenSpec.ofChange fnRulesSpec)

/-- ITS FALSE NEIGHBOUR: 'it returns false'. Refute it at one input. -/
def fnRulesWrong : ChangeSpec := { name := "fnRules", fn := fun _ => fun
  | [d] => { results := [.lit (.bool false)], args := [d] }
  | _ => none }
def FnRulesWrongFalsely : Prop := fnRulesRow.holds Try.pinned (OpenSpec.ofChange fnRulesWrong)

/-- 'laws.FnExactLearnRule': WHATEVER THE INPUT: true; the input reads as it did. -/
def fnExactLearnRuleSpec : ChangeSpec := { name := "fnExactLearnRule", fn := fun _ => fun
  | [d1, d2, d3] => { results := [.lit (.bool true)], args := [d1, d2, d3] }
  | _ => none }
def fnExactLearnRuleRow : OpenClaim := { program := "ytibdlfojoafloaa", sum := "6fda34df88f0f9b2ec9e34a7fd45330adf6746f36a9ac634c68e0455de457186", func := "loop.example/g00172/laws.FnExactLearnRule", spec := "fnExactLearnRule", inPlace := ["internal/bytealg.IndexByteString", "internal/bytealg.abigen_runtime_cmpstring", "slices.overlaps[loop.example/g00172/impl.Rule]"], unfollowed := true, recurses := true, apart := false }
def FnExactLearnRuleSaid : Prop := fnExactLearnRuleRow.holds Try.pinned (OpenSpec.ofChange fnExactLearnRuleSpec)

/-- ITS FALSE NEIGHBOUR: 'it returns false'. Refute it at one input. -/
def fnExactLearnRuleWrong : ChangeSpec := { name := "fnExactLearnRule", fn := fun _ => fun
  | [d1, d2, d3] => { results := [.lit (.bool false)], args := [d1, d2, d3] }
  | _ => none }
def FnExactLearnRuleWrongFalsely : Prop := fnExactLearnRuleRow.holds Try.pinned (OpenSpec.ofChange fnExactLearnRuleWrong)

/-- 'laws.FnExactForgetRule': WHATEVER THE INPUT: true; the input reads as it did. -/
def fnExactForgetRuleSpec : ChangeSpec := { name := "fnExactForgetRule", fn := fun _ => fun
  | [d1, d2] => { results := [.lit (.bool true)], args := [d1, d2] }
  | _ => none }
def fnExactForgetRuleRow : OpenClaim := { program := "ytibdlfojoafloaa", sum := "6fda34df88f0f9b2ec9e34a7fd45330adf6746f36a9ac634c68e0455de457186", func := "loop.example/g00172/laws.FnExactForgetRule", spec := "fnExactForgetRule", inPlace := ["internal/bytealg.IndexByteString", "internal/bytealg.abigen_runtime_cmpstring", "slices.overlaps[loop.example/g00172/impl.Rule]"], unfollowed := true, recurses := true, apart := false }
def FnExactForgetRuleSaid : Prop := fnExactForgetRuleRow.holds Try.pinned (OpenSpec.ofChange fnExactForgetRuleSpec)

/-- ITS FALSE NEIGHBOUR: 'it returns false'. Refute it at one input. -/
def fnExactForgetRuleWrong : ChangeSpec := { name := "fnExactForgetRule", fn := fun _ => fun
  | [d1, d2] => { results := [.lit (.bool false)], args := [d1, d2] }
  | _ => none }
def FnExactForgetRuleWrongFalsely : Prop := fnExactForgetRuleRow.holds Try.pinned (OpenSpec.ofChange fnExactForgetRuleWrong)

/-- 'laws.FnExactNewRepo': WHATEVER THE INPUT: true; the input reads as it did. -/
def fnExactNewRepoSpec : ChangeSpec := { name := "fnExactNewRepo", fn := fun _ => fun
  | [d] => { results := [.lit (.bool true)], args := [d] }
  | _ => none }
def fnExactNewRepoRow : OpenClaim := { program := "ytibdlfojoafloaa", sum := "6fda34df88f0f9b2ec9e34a7fd45330adf6746f36a9ac634c68e0455de457186", func := "loop.example/g00172/laws.FnExactNewRepo", spec := "fnExactNewRepo", apart := false }
def FnExactNewRepoSaid : Prop := fnExactNewRepoRow.holds Try.pinned (OpenSpec.ofChange fnExactNewRepoSpec)

/-- ITS FALSE NEIGHBOUR: 'it returns false'. Refute it at one input. -/
def fnExactNewRepoWrong : ChangeSpec := { name := "fnExactNewRepo", fn := fun _ => fun
  | [d] => { results := [.lit (.bool false)], args := [d] }
  | _ => none }
def FnExactNewRepoWrongFalsely : Prop := fnExactNewRepoRow.holds Try.pinned (OpenSpec.ofChange fnExactNewRepoWrong)

/- THE SECOND FORM. 'bulk': how many values and letters a reading holds, each counted each time it is reached (what is shared counts as often as it is met; a slice's spare places count too). A statement '..UptoSaid' is the law's where the arguments, and the package variables that the reading takes, are together of bulk at most 1048576: NARROWER than '..Said'. Prove '..Said' where nothing that the law and all that it calls make is longer than what came in: it says more and counts as full. Else prove '..UptoSaid'. A law counts once. -/
mutual
def uptoBulk {H : Type} : DataW H → Nat
  | .lit (.string bytes) => bytes.length + 1
  | .lit _ => 1
  | .nil => 1
  | .ptr d => uptoBulk d + 1
  | .slice elems spare => uptoBulkAll elems + uptoBulkAll spare + 1
  | .agg parts => uptoBulkAll parts + 1
  | .iface _ d => uptoBulk d + 1
  | .map entries => uptoBulkEntries entries + 1
  | .held _ => 1
def uptoBulkAll {H : Type} : List (DataW H) → Nat
  | [] => 0
  | d :: r => uptoBulk d + uptoBulkAll r
def uptoBulkEntries {H : Type} : List (Lit × DataW H) → Nat
  | [] => 0
  | x :: r => uptoBulkEntry x + uptoBulkEntries r
def uptoBulkEntry {H : Type} : Lit × DataW H → Nat
  | (.string bytes, d) => bytes.length + uptoBulk d + 1
  | (_, d) => uptoBulk d + 1
 end
def uptoSmall : (H : Type) → List (DataW H) → Bool := fun _ ds => decide (uptoBulkAll ds ≤ 1048576)
def OpenSpec.upto (s : _root_.Go.ChangeSpec) : _root_.Go.OpenSpec := { _root_.Go.OpenSpec.ofChange s with cond := some uptoSmall }

/-- 'laws.FnRules', WHERE WHAT IT READS IS OF BULK AT MOST 1048576: true; the input reads as it did. -/
def fnRulesUptoRow : OpenClaim := { program := "ytibdlfojoafloaa", sum := "6fda34df88f0f9b2ec9e34a7fd45330adf6746f36a9ac634c68e0455de457186", func := "loop.example/g00172/laws.FnRules", spec := "fnRules", inPlace := ["internal/bytealg.IndexByteString", "internal/bytealg.abigen_runtime_cmpstring", "slices.overlaps[loop.example/g00172/impl.Rule]"], unfollowed := true, recurses := true, apart := false, narrowed := true }
def FnRulesUptoSaid : Prop := fnRulesUptoRow.holds Try.pinned (OpenSpec.upto fnRulesSpec)

/-- 'laws.FnExactLearnRule', WHERE WHAT IT READS IS OF BULK AT MOST 1048576: true; the input reads as it did. -/
def fnExactLearnRuleUptoRow : OpenClaim := { program := "ytibdlfojoafloaa", sum := "6fda34df88f0f9b2ec9e34a7fd45330adf6746f36a9ac634c68e0455de457186", func := "loop.example/g00172/laws.FnExactLearnRule", spec := "fnExactLearnRule", inPlace := ["internal/bytealg.IndexByteString", "internal/bytealg.abigen_runtime_cmpstring", "slices.overlaps[loop.example/g00172/impl.Rule]"], unfollowed := true, recurses := true, apart := false, narrowed := true }
def FnExactLearnRuleUptoSaid : Prop := fnExactLearnRuleUptoRow.holds Try.pinned (OpenSpec.upto fnExactLearnRuleSpec)

/-- 'laws.FnExactForgetRule', WHERE WHAT IT READS IS OF BULK AT MOST 1048576: true; the input reads as it did. -/
def fnExactForgetRuleUptoRow : OpenClaim := { program := "ytibdlfojoafloaa", sum := "6fda34df88f0f9b2ec9e34a7fd45330adf6746f36a9ac634c68e0455de457186", func := "loop.example/g00172/laws.FnExactForgetRule", spec := "fnExactForgetRule", inPlace := ["internal/bytealg.IndexByteString", "internal/bytealg.abigen_runtime_cmpstring", "slices.overlaps[loop.example/g00172/impl.Rule]"], unfollowed := true, recurses := true, apart := false, narrowed := true }
def FnExactForgetRuleUptoSaid : Prop := fnExactForgetRuleUptoRow.holds Try.pinned (OpenSpec.upto fnExactForgetRuleSpec)

/-- 'laws.FnExactNewRepo', WHERE WHAT IT READS IS OF BULK AT MOST 1048576: true; the input reads as it did. -/
def fnExactNewRepoUptoRow : OpenClaim := { program := "ytibdlfojoafloaa", sum := "6fda34df88f0f9b2ec9e34a7fd45330adf6746f36a9ac634c68e0455de457186", func := "loop.example/g00172/laws.FnExactNewRepo", spec := "fnExactNewRepo", apart := false, narrowed := true }
def FnExactNewRepoUptoSaid : Prop := fnExactNewRepoUptoRow.holds Try.pinned (OpenSpec.upto fnExactNewRepoSpec)

end Rows
end Go.Proofs.Ytibdlfojoafloaa
