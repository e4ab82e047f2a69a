/-
  No cell of these rows narrows 'for every input' (looked for: loops, veiled, ifaces, maps, wideKeys, modest, calm, conditions, laid).
  DERIVED. THE GIVEN ROWS OF THIS SEAT. 4 by the template 'for every input the law returns true; each argument reads behind the call as it read before'; 0 by the template 'total and deterministic' (their statements: YtciddfpkcdicaabTotals.lean).
  GIVEN WITH THE SEED: the statements are not yours to turn. If you find one false, say at which input.
  Laid BY PROGRAM, IN A SANDBOX (cutbox-rows.mjs): the forced cells as the released guide's own fill.sh prints them over the translation 989514d0d4a58116… (all of the seat's roots in one cut). By AI agents, Wed Nov 11 2026. No macro, syntax, notation, axiom, sorry.
-/
import Derived.Test.YtciddfpkcdicaabChecked
import GoSem.Claim
import GoSem.ClaimJoined
import GoSem.ClaimMapViews
import Derived.JoinedTies
import Derived.KernelRfl
namespace Go.Proofs.Ytciddfpkcdicaab
/- THE CELL 'sum', in the pinned program and in every row, IS THE sha256 OF THE DUMP (.gsa) THAT YtciddfpkcdicaabProg.lean LOADS. Nothing in Lean hashes anything: it is a label: what it is worth is what the hold of that sum in a sandbox is worth. -/
noncomputable def Try.pinned : Pinned := { name := "ytciddfpkcdicaab", sum := "989514d0d4a581165a2a1829846627433691a4324e45db35f93e852342c079e3", checked := Try.checked }
namespace Rows
def none {H : Type} : Left H := { results := [], args := [] }

/-- 'laws.FnExactRulesFault': WHATEVER THE INPUT: true; the input reads as it did. -/
def fnExactRulesFaultSpec : ChangeSpec := { name := "fnExactRulesFault", fn := fun _ => fun
  | [d] => { results := [.lit (.bool true)], args := [d] }
  | _ => none }
def fnExactRulesFaultRow : OpenClaim := { program := "ytciddfpkcdicaab", sum := "989514d0d4a581165a2a1829846627433691a4324e45db35f93e852342c079e3", func := "loop.example/g00172/laws.FnExactRulesFault", spec := "fnExactRulesFault", inPlace := ["internal/bytealg.IndexByteString"], unfollowed := true, recurses := true, apart := false }
def FnExactRulesFaultSaid : Prop := fnExactRulesFaultRow.holds Try.pinned (OpenSpec.ofChange fnExactRulesFaultSpec)

/-- ITS FALSE NEIGHBOUR: 'it returns false'. Refute it at one input. -/
def fnExactRulesFaultWrong : ChangeSpec := { name := "fnExactRulesFault", fn := fun _ => fun
  | [d] => { results := [.lit (.bool false)], args := [d] }
  | _ => none }
def FnExactRulesFaultWrongFalsely : Prop := fnExactRulesFaultRow.holds Try.pinned (OpenSpec.ofChange fnExactRulesFaultWrong)

/-- 'laws.FnExactLearnRule': WHATEVER THE INPUT: true; the input reads as it did. -/
def fnExactLearnRuleSpec : ChangeSpec := { name := "fnExactLearnRule", fn := fun _ => fun
  | [d1, d2, d3] => { results := [.lit (.bool true)], args := [d1, d2, d3] }
  | _ => none }
def fnExactLearnRuleRow : OpenClaim := { program := "ytciddfpkcdicaab", sum := "989514d0d4a581165a2a1829846627433691a4324e45db35f93e852342c079e3", func := "loop.example/g00172/laws.FnExactLearnRule", spec := "fnExactLearnRule", inPlace := ["internal/bytealg.IndexByteString", "internal/bytealg.abigen_runtime_cmpstring", "slices.overlaps[loop.example/g00172/impl.Rule]"], unfollowed := true, recurses := true, apart := false }
def FnExactLearnRuleSaid : Prop := fnExactLearnRuleRow.holds Try.pinned (OpenSpec.ofChange fnExactLearnRuleSpec)

/-- ITS FALSE NEIGHBOUR: 'it returns false'. Refute it at one input. -/
def fnExactLearnRuleWrong : ChangeSpec := { name := "fnExactLearnRule", fn := fun _ => fun
  | [d1, d2, d3] => { results := [.lit (.bool false)], args := [d1, d2, d3] }
  | _ => none }
def FnExactLearnRuleWrongFalsely : Prop := fnExactLearnRuleRow.holds Try.pinned (OpenSpec.ofChange fnExactLearnRuleWrong)

/-- 'laws.FnExactForgetRule': WHATEVER THE INPUT: true; the input reads as it did. -/
def fnExactForgetRuleSpec : ChangeSpec := { name := "fnExactForgetRule", fn := fun _ => fun
  | [d1, d2] => { results := [.lit (.bool true)], args := [d1, d2] }
  | _ => none }
def fnExactForgetRuleRow : OpenClaim := { program := "ytciddfpkcdicaab", sum := "989514d0d4a581165a2a1829846627433691a4324e45db35f93e852342c079e3", func := "loop.example/g00172/laws.FnExactForgetRule", spec := "fnExactForgetRule", inPlace := ["internal/bytealg.IndexByteString", "internal/bytealg.abigen_runtime_cmpstring", "slices.overlaps[loop.example/g00172/impl.Rule]"], unfollowed := true, recurses := true, apart := false }
def FnExactForgetRuleSaid : Prop := fnExactForgetRuleRow.holds Try.pinned (OpenSpec.ofChange fnExactForgetRuleSpec)

/-- ITS FALSE NEIGHBOUR: 'it returns false'. Refute it at one input. -/
def fnExactForgetRuleWrong : ChangeSpec := { name := "fnExactForgetRule", fn := fun _ => fun
  | [d1, d2] => { results := [.lit (.bool false)], args := [d1, d2] }
  | _ => none }
def FnExactForgetRuleWrongFalsely : Prop := fnExactForgetRuleRow.holds Try.pinned (OpenSpec.ofChange fnExactForgetRuleWrong)

/-- 'laws.FnExactFindRule': WHATEVER THE INPUT: true; the input reads as it did. -/
def fnExactFindRuleSpec : ChangeSpec := { name := "fnExactFindRule", fn := fun _ => fun
  | [d1, d2] => { results := [.lit (.bool true)], args := [d1, d2] }
  | _ => none }
def fnExactFindRuleRow : OpenClaim := { program := "ytciddfpkcdicaab", sum := "989514d0d4a581165a2a1829846627433691a4324e45db35f93e852342c079e3", func := "loop.example/g00172/laws.FnExactFindRule", spec := "fnExactFindRule", inPlace := ["internal/bytealg.IndexByteString"], unfollowed := true, recurses := true, apart := false }
def FnExactFindRuleSaid : Prop := fnExactFindRuleRow.holds Try.pinned (OpenSpec.ofChange fnExactFindRuleSpec)

/-- ITS FALSE NEIGHBOUR: 'it returns false'. Refute it at one input. -/
def fnExactFindRuleWrong : ChangeSpec := { name := "fnExactFindRule", fn := fun _ => fun
  | [d1, d2] => { results := [.lit (.bool false)], args := [d1, d2] }
  | _ => none }
def FnExactFindRuleWrongFalsely : Prop := fnExactFindRuleRow.holds Try.pinned (OpenSpec.ofChange fnExactFindRuleWrong)

/- THE SECOND FORM. 'bulk': how many values and letters a reading holds, each counted each time it is reached (what is shared counts as often as it is met; a slice's spare places count too). A statement '..UptoSaid' is the law's where the arguments, and the package variables that the reading takes, are together of bulk at most 1048576: NARROWER than '..Said'. Prove '..Said' where nothing that the law and all that it calls make is longer than what came in: it says more and counts as full. Else prove '..UptoSaid'. A law counts once. -/
mutual
def uptoBulk {H : Type} : DataW H → Nat
  | .lit (.string bytes) => bytes.length + 1
  | .lit _ => 1
  | .nil => 1
  | .ptr d => uptoBulk d + 1
  | .slice elems spare => uptoBulkAll elems + uptoBulkAll spare + 1
  | .agg parts => uptoBulkAll parts + 1
  | .iface _ d => uptoBulk d + 1
  | .map entries => uptoBulkEntries entries + 1
  | .held _ => 1
def uptoBulkAll {H : Type} : List (DataW H) → Nat
  | [] => 0
  | d :: r => uptoBulk d + uptoBulkAll r
def uptoBulkEntries {H : Type} : List (Lit × DataW H) → Nat
  | [] => 0
  | x :: r => uptoBulkEntry x + uptoBulkEntries r
def uptoBulkEntry {H : Type} : Lit × DataW H → Nat
  | (.string bytes, d) => bytes.length + uptoBulk d + 1
  | (_, d) => uptoBulk d + 1
 end
def uptoSmall : (H : Type) → List (DataW H) → Bool := fun _ ds => decide (uptoBulkAll ds ≤ 1048576)
def OpenSpec.upto (s : _root_.Go.ChangeSpec) : _root_.Go.OpenSpec := { _root_.Go.OpenSpec.ofChange s with cond := some uptoSmall }

/-- 'laws.FnExactRulesFault', WHERE WHAT IT READS IS OF BULK AT MOST 1048576: true; the input reads as it did. -/
def fnExactRulesFaultUptoRow : OpenClaim := { program := "ytciddfpkcdicaab", sum := "989514d0d4a581165a2a1829846627433691a4324e45db35f93e852342c079e3", func := "loop.example/g00172/laws.FnExactRulesFault", spec := "fnExactRulesFault", inPlace := ["internal/bytealg.IndexByteString"], unfollowed := true, recurses := true, apart := false, narrowed := true }
def FnExactRulesFaultUptoSaid : Prop := fnExactRulesFaultUptoRow.holds Try.pinned (OpenSpec.upto fnExactRulesFaultSpec)

/-- 'laws.FnExactLearnRule', WHERE WHAT IT READS IS OF BULK AT MOST 1048576: true; the input reads as it did. -/
def fnExactLearnRuleUptoRow : OpenClaim := { program := "ytciddfpkcdicaab", sum := "989514d0d4a581165a2a1829846627433691a4324e45db35f93e852342c079e3", func := "loop.example/g00172/laws.FnExactLearnRule", spec := "fnExactLearnRule", inPlace := ["internal/bytealg.IndexByteString", "internal/bytealg.abigen_runtime_cmpstring", "slices.overlaps[loop.example/g00172/impl.Rule]"], unfollowed := true, recurses := true, apart := false, narrowed := true }
def FnExactLearnRuleUptoSaid : Prop := fnExactLearnRuleUptoRow.holds Try.pinned (OpenSpec.upto fnExactLearnRuleSpec)

/-- 'laws.FnExactForgetRule', WHERE WHAT IT READS IS OF BULK AT MOST 1048576: true; the input reads as it did. -/
def fnExactForgetRuleUptoRow : OpenClaim := { program := "ytciddfpkcdicaab", sum := "989514d0d4a581165a2a1829846627433691a4324e45db35f93e852342c079e3", func := "loop.example/g00172/laws.FnExactForgetRule", spec := "fnExactForgetRule", inPlace := ["internal/bytealg.IndexByteString", "internal/bytealg.abigen_runtime_cmpstring", "slices.overlaps[loop.example/g00172/impl.Rule]"], unfollowed := true, recurses := true, apart := false, narrowed := true }
def FnExactForgetRuleUptoSaid : Prop := fnExactForgetRuleUptoRow.holds Try.pinned (OpenSpec.upto fnExactForgetRuleSpec)

/-- 'laws.FnExactFindRule', WHERE WHAT IT READS IS OF BULK AT MOST 1048576: true; the input reads as it did. -/
def fnExactFindRuleUptoRow : OpenClaim := { program := "ytciddfpkcdicaab", sum := "989514d0d4a581165a2a1829846627433691a4324e45db35f93e852342c079e3", func := "loop.example/g00172/laws.FnExactFindRule", spec := "fnExactFindRule", inPlace := ["internal/bytealg.IndexByteString"], unfollowed := true, recurses := true, apart := false, narrowed := true }
def FnExactFindRuleUptoSaid : Prop := fnExactFindRuleUptoRow.holds Try.pinned (OpenSpec.upto fnExactFindRuleSpec)

end Rows
end Go.Proofs.Ytciddfpkcdicaab
