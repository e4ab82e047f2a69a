/- The contracts of next and between (places and lists of three sides). No statement is proved here. -/
import Derived.Test.YtkeinpobngfioaaRows
import Derived.Test.YtkeinpobngfioaaLemQ
import Derived.Test.YtkeinpobngfioaaDTabQ
import Derived.Test.YtkeinpobngfioaaHkTQ
import Derived.WalkKit
import Derived.ProofKit
import Derived.Below
import Derived.WalkSpells
import Derived.Deep.RegionWith
import Derived.Deep.QuietTactic
import Derived.BigQuiet
namespace Go.Proofs.Ytkeinpobngfioaa
open Go.ChangeShapes Go.WideShapes Go.ChangeAt Go.RowKit

def nxTo (a b c : Nat) (k : Nat) : List Value := [.int .i64 (if 0 < k then (a : Int) + 1 else (a : Int)), .int .i64 (if 1 < k then (b : Int) + 1 else (b : Int)), .int .i64 (if 2 < k then (c : Int) + 1 else (c : Int))]
/-- The part of a slice between two places. -/
def segA (a : Option Addr) (c f : Nat) : Option Addr := if c = f then a else a.map (·.add f)
def segV (a : Option Addr) (c f t : Nat) : Value := .slice (segA a c f) (t - f) (c - f)
def btTo (a1 a2 a3 : Option Addr) (n1 n2 n3 c1 c2 c3 f1 f2 f3 t1 t2 t3 k : Nat) : List Value :=
  [if 0 < k then segV a1 c1 f1 t1 else .slice a1 n1 c1, if 1 < k then segV a2 c2 f2 t2 else .slice a2 n2 c2, if 2 < k then segV a3 c3 f3 t3 else .slice a3 n3 c3]
end Go.Proofs.Ytkeinpobngfioaa
