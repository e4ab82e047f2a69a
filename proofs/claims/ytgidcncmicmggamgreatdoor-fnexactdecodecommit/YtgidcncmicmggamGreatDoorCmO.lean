/- szCommit, toCommit, eqCommit of the law. No statement is proved here. -/
import Derived.Test.YtgidcncmicmggamGreatDoorRows
import Derived.Test.YtgidcncmicmggamGreatDoorLem
import Derived.Test.YtgidcncmicmggamGreatDoorStrs
import Derived.Test.YtgidcncmicmggamGreatDoorDTab
import Derived.Test.YtgidcncmicmggamGreatDoorOwn
import Derived.Test.YtgidcncmicmggamGreatDoorFr
import Derived.Test.YtgidcncmicmggamGreatDoorHkT
import Derived.WalkKit
import Derived.ProofKit
import Derived.Below
import Derived.WalkSpells
namespace Go.Proofs.YtgidcncmicmggamGreatDoor
open Go.ChangeShapes Go.WideShapes Go.ChangeAt Go.RowKit

theorem cm_beq (s : ByteArray) : (s.toList != s.toList) = false := by simp
set_option maxRecDepth 20000 in
set_option maxHeartbeats 1000000 in
theorem eqCommit (t no : ByteArray) (tm : Int) (a1 a2 : Option Addr) (k1 k2 : Nat) (ss : List ByteArray) (w : World) (h1 : SS w a1 ss) (h2 : SS w a2 ss) (hn : ss.length ≤ 1048576) :
    Calls Tryz.prog 32 #[.agg #[.string t, .slice a1 ss.length k1, .int .i64 tm, .string no], .agg #[.string t, .slice a2 ss.length k2, .int .i64 tm, .string no]] w fun e w' => e = .returned (.bool true) ∧ Below w.heap.size w w' := by
  go_enter Tryz.func32, Tryz.ntmps32
  have hN : ∀ o1 o2, Below w.heap.size w ((w.alloc o1).alloc o2) := fun o1 o2 => ((Below.refl _ _).alloc (Nat.le_refl _) _).alloc (by simp) _
  have q0 : (t.toList == t.toList) = true := beq_bytes_true rfl
  have q1 : (no.toList == no.toList) = true := beq_bytes_true rfl
  have q2 : (tm != tm) = false := by simp
  go_wp2_with fail
  refine (eqStringS _ _ _ _ _ _ _ (h1.below (hN _ _)) (h2.below (hN _ _)) hn hn).mono ?_; rintro e w1 ⟨rfl, n1, rfl⟩
  rw [eqB_self]
  go_wp2_with fail
  go_ret
  exact ⟨rfl, below_drewN' (hN _ _) n1⟩

end Go.Proofs.YtgidcncmicmggamGreatDoor
