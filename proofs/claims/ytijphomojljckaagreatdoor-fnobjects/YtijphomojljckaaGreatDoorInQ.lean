/- The contract of spec.l1In. No statement is proved here. -/
import Derived.Test.YtijphomojljckaaGreatDoorRows
import Derived.Test.YtijphomojljckaaGreatDoorLemQ
import Derived.WalkKit
import Derived.ProofKit
import Derived.Below
namespace Go.Proofs.YtijphomojljckaaGreatDoor
open Go.ChangeShapes Go.WideShapes Go.ChangeAt Go.RowKit

def inB (v lo hi : Int) : Bool := decide (lo ≤ v ∧ v ≤ hi)
theorem l1In (v lo hi : Int) (w : World) :
    Calls Tryz.prog 30 #[.int .i64 v, .int .i64 lo, .int .i64 hi] w fun e w' => e = .returned (.bool (inB v lo hi)) ∧ w' = w := by
  by_cases h1 : lo ≤ v
  · have hE : Hid (inB v lo hi = decide (v ≤ hi)) := by show _ = _; simp [inB, h1]
    go_enter Tryz.func30, Tryz.ntmps30
    go_wp2
    go_ret
    exact ⟨ret_bool hE.out.symm, rfl⟩
  · have hE : Hid (inB v lo hi = false) := by show _ = _; simp [inB, h1]
    go_enter Tryz.func30, Tryz.ntmps30
    go_wp2
    go_ret
    exact ⟨ret_bool hE.out.symm, rfl⟩
end Go.Proofs.YtijphomojljckaaGreatDoor
