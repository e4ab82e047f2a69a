/- The contracts of CommonOf, the program's and the specification's. No statement is proved here. -/
import Derived.Test.YtakegfhbhhkakahRows
import Derived.Test.YtakegfhbhhkakahLem
import Derived.Test.YtakegfhbhhkakahStrs
import Derived.Test.YtakegfhbhhkakahOwn
import Derived.Test.YtakegfhbhhkakahLFLem
import Derived.Test.YtakegfhbhhkakahLF
import Derived.Test.YtakegfhbhhkakahCom
import Derived.Test.YtakegfhbhhkakahAsked
import Derived.Test.YtakegfhbhhkakahDTab
import Derived.Test.YtakegfhbhhkakahFill
import Derived.Test.YtakegfhbhhkakahSTab
import Derived.Test.YtakegfhbhhkakahAlc
import Derived.WalkKit
import Derived.ProofKit
import Derived.Below
namespace Go.Proofs.Ytakegfhbhhkakah
open Go.ChangeShapes Go.WideShapes Go.ChangeAt Go.RowKit

/-- The value that CommonOf tells. -/
def comV (xs ys : List ByteArray) : Int := if asked xs ys = 0 then (comAt xs ys 0 0 : Int) else 0
theorem comV_ok {xs ys : List ByteArray} (h : asked xs ys = 0) : comV xs ys = (comAt xs ys 0 0 : Int) := if_pos h
theorem comV_no {xs ys : List ByteArray} (h : ¬ asked xs ys = 0) : comV xs ys = 0 := if_neg h
set_option maxHeartbeats 400000 in
theorem eqIntResult (c v : Int) (w : World) :
    Calls Try.prog 20 #[.agg #[.int .i64 c, .int .i64 v], .agg #[.int .i64 c, .int .i64 v]] w fun e w' => e = .returned (.bool true) ∧ Below w.heap.size w w' := by
  have hb : (c != c) = false := by simp
  have hb2 : (v != v) = false := by simp
  go_enter Try.func20, Try.ntmps20
  go_wp2
  go_ret
  exact ⟨rfl, ((Below.refl _ _).alloc (Nat.le_refl _) _).alloc (by simp) _⟩
end Go.Proofs.Ytakegfhbhhkakah
