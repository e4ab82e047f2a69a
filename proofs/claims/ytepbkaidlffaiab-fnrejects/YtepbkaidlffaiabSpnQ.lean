/- The contract of impl.spanIsIn. No statement is proved here. -/
import Derived.Test.YtepbkaidlffaiabRows
import Derived.Test.YtepbkaidlffaiabLemQ
import Derived.WalkKit
import Derived.ProofKit
import Derived.Below
namespace Go.Proofs.Ytepbkaidlffaiab
open Go.ChangeShapes Go.WideShapes Go.ChangeAt Go.RowKit

/-- Whether count lines from at_ on are within n. -/
def inSpan (at_ count : Int) (n : Nat) : Bool := decide (0 ≤ at_ ∧ 0 ≤ count ∧ at_ ≤ (n : Int) - count)
set_option maxHeartbeats 400000 in
theorem spanIsIn (x c : Int) (a : Option Addr) (n cap : Nat) (w : World) (hn : n ≤ 1048576) (h3 : c ≤ 9223372036854775807) :
    Calls Try.prog 96 #[.int .i64 x, .int .i64 c, .slice a n cap] w fun e w' => e = .returned (.bool (inSpan x c n)) ∧ w' = w := by
  by_cases h1 : 0 ≤ x
  · by_cases h2 : 0 ≤ c
    · have hE : Hid (inSpan x c n = decide (x ≤ (n : Int) - c)) := by show _ = _; simp [inSpan, h1, h2]
      go_enter Try.func96, Try.ntmps96
      go_wp2
      go_ret
      exact ⟨ret_bool hE.out.symm, rfl⟩
    · have hE : Hid (inSpan x c n = false) := by show _ = _; simp [inSpan, h1, h2]
      go_enter Try.func96, Try.ntmps96
      go_wp2
      go_ret
      exact ⟨ret_bool hE.out.symm, rfl⟩
  · have hE : Hid (inSpan x c n = false) := by show _ = _; simp [inSpan, h1]
    go_enter Try.func96, Try.ntmps96
    go_wp2
    go_ret
    exact ⟨ret_bool hE.out.symm, rfl⟩
end Go.Proofs.Ytepbkaidlffaiab
