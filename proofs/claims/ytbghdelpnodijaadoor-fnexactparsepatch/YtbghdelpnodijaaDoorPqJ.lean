/- The lines of a hunk: a count below nought is never made good. No statement is proved here. -/
import Derived.Test.YtbghdelpnodijaaDoorRows
import Derived.Test.YtbghdelpnodijaaDoorLem
import Derived.Test.YtbghdelpnodijaaDoorHkL
import Derived.Test.YtbghdelpnodijaaDoorHkC
import Derived.Test.YtbghdelpnodijaaDoorPpR
set_option linter.unusedVariables false
namespace Go.Proofs.YtbghdelpnodijaaDoor.Pp
open Go.ChangeShapes Go.WideShapes Go.ChangeAt Go.RowKit

theorem rdL_neg (t : ByteArray) : ∀ (f : Nat) (o n : Int) (p : Nat), (o < 0 ∨ n < 0) → rdL t f o n p = none := by
  intro f
  induction f with
  | zero => intro o n p _; rfl
  | succ f ih =>
    intro o n p h
    by_cases h1 : 0 < o ∨ 0 < n
    · cases e : lnP t p with
      | none => exact rdL_none h1 e
      | some x =>
        obtain ⟨s, q⟩ := x
        have a1 : 0 ≤ old1 (mark0 s) := by unfold old1; split <;> decide
        have a2 : 0 ≤ new1 (mark0 s) := by unfold new1; split <;> decide
        rw [rdL_go h1 e, ih _ _ q (by omega)]
        rfl
    · exact rdL_bad h1 h
end Go.Proofs.YtbghdelpnodijaaDoor.Pp
