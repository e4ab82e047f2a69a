/- The contracts of CommonOf, the program's and the specification's. No statement is proved here. -/
import Derived.Test.YtidjcjeiigjmaahRows
import Derived.Test.YtidjcjeiigjmaahLem
import Derived.Test.YtidjcjeiigjmaahStrs
import Derived.Test.YtidjcjeiigjmaahLFLem
import Derived.Test.YtidjcjeiigjmaahLF
import Derived.Test.YtidjcjeiigjmaahCom
import Derived.Test.YtidjcjeiigjmaahAsked
import Derived.Test.YtidjcjeiigjmaahDTab
import Derived.Test.YtidjcjeiigjmaahFill
import Derived.Test.YtidjcjeiigjmaahSTab
import Derived.Test.YtidjcjeiigjmaahAlc
import Derived.WalkKit
import Derived.ProofKit
import Derived.Below
namespace Go.Proofs.Ytidjcjeiigjmaah
open Go.ChangeShapes Go.WideShapes Go.ChangeAt Go.RowKit

/-- The value that CommonOf tells. -/
def comV (xs ys : List ByteArray) : Int := if asked xs ys = 0 then (comAt xs ys 0 0 : Int) else 0
theorem comV_ok {xs ys : List ByteArray} (h : asked xs ys = 0) : comV xs ys = (comAt xs ys 0 0 : Int) := if_pos h
theorem comV_no {xs ys : List ByteArray} (h : ¬ asked xs ys = 0) : comV xs ys = 0 := if_neg h
theorem ret_agg2 {a b c d : Value} (h1 : a = c) (h2 : b = d) : Ending.returned (.agg #[a, b]) = .returned (.agg #[c, d]) := by rw [h1, h2]

/-- A struct of two cells that a variable holds. -/
structure Res2 (w : World) (p : Nat) (u v : Value) : Prop where
  c0 : w.cell? ⟨p, 0, none⟩ = some u
  c1 : w.cell? ⟨p, 1, none⟩ = some v
  f0 : w.frozen? ⟨p, 0, none⟩ = false
  f1 : w.frozen? ⟨p, 1, none⟩ = false
theorem Res2.new (w : World) (u v : Value) (t : TypeId) : Res2 (w.alloc (.cells #[u, v] t)) w.heap.size u v := ⟨by simp, by simp, by simp, by simp⟩
theorem Res2.below {w w' : World} {p : Nat} {u v : Value} (h : Res2 w p u v) (hp : p < w.heap.size) (hb : Below w.heap.size w w') : Res2 w' p u v :=
  ⟨(hb.cell (p := ⟨p, 0, none⟩) hp).trans h.c0, (hb.cell (p := ⟨p, 1, none⟩) hp).trans h.c1, (hb.frozen (p := ⟨p, 0, none⟩) hp).trans h.f0, (hb.frozen (p := ⟨p, 1, none⟩) hp).trans h.f1⟩
theorem below_sets {B p : Nat} {a w : World} (h : Below B a w) (hp : B ≤ p) (u v : Value) : Below B a ((w.setCell ⟨p, 0, none⟩ u).setCell ⟨p, 1, none⟩ v) := (h.setCell (p := ⟨p, 0, none⟩) hp u).setCell (p := ⟨p, 1, none⟩) hp v
theorem allocBelow (w : World) (o : Obj) : Below w.heap.size w (w.alloc o) := (Below.refl _ _).alloc (Nat.le_refl _) _

set_option maxHeartbeats 400000 in
theorem eqIntResult (c v : Int) (w : World) :
    Calls Try.prog 20 #[.agg #[.int .i64 c, .int .i64 v], .agg #[.int .i64 c, .int .i64 v]] w fun e w' => e = .returned (.bool true) ∧ Below w.heap.size w w' := by
  have hb : (c != c) = false := by simp
  have hb2 : (v != v) = false := by simp
  go_enter Try.func20, Try.ntmps20
  go_wp2
  go_ret
  exact ⟨rfl, ((Below.refl _ _).alloc (Nat.le_refl _) _).alloc (by simp) _⟩
end Go.Proofs.Ytidjcjeiigjmaah
