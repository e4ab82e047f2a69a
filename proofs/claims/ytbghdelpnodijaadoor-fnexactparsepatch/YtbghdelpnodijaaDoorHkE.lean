/- The contracts of the laws' eqHunk and markHunk. No statement is proved here. -/
import Derived.Test.YtbghdelpnodijaaDoorRows
import Derived.Test.YtbghdelpnodijaaDoorLem
import Derived.Test.YtbghdelpnodijaaDoorStrs
import Derived.Test.YtbghdelpnodijaaDoorMarks
import Derived.Test.YtbghdelpnodijaaDoorDTab
import Derived.Test.YtbghdelpnodijaaDoorOwn
import Derived.Test.YtbghdelpnodijaaDoorFr
import Derived.WalkKit
import Derived.ProofKit
import Derived.Below
import Derived.WalkSpells
namespace Go.Proofs.YtbghdelpnodijaaDoor
open Go.ChangeShapes Go.WideShapes Go.ChangeAt Go.RowKit

set_option maxHeartbeats 1000000 in
theorem eqHunk (x0 x1 : Int) (a1 a2 : Option Addr) (k1 k2 : Nat) (ss : List ByteArray) (w : World) (h1 : SS w a1 ss) (h2 : SS w a2 ss) (hn : ss.length ≤ 1048576) :
    Calls Tryd.prog 23 #[.agg #[.int .i64 x0, .int .i64 x1, .slice a1 ss.length k1], .agg #[.int .i64 x0, .int .i64 x1, .slice a2 ss.length k2]] w fun e w' => e = .returned (.bool true) ∧ Below w.heap.size w w' := by
  go_enter Tryd.func23, Tryd.ntmps23
  have hN : ∀ o1 o2, Below w.heap.size w ((w.alloc o1).alloc o2) := fun o1 o2 => ((Below.refl _ _).alloc (Nat.le_refl _) _).alloc (by simp) _
  have q0 : (x0 != x0) = false := by simp
  have q1 : (x1 != x1) = false := by simp
  go_wp2_with fail
  refine (eqStringS _ _ _ _ _ _ _ (h1.below (hN _ _)) (h2.below (hN _ _)) hn hn).mono ?_; rintro e w1 ⟨rfl, n1, rfl⟩
  rw [eqB_self]
  go_wp2_with fail
  go_ret
  exact ⟨rfl, below_drewN' (hN _ _) n1⟩

end Go.Proofs.YtbghdelpnodijaaDoor
