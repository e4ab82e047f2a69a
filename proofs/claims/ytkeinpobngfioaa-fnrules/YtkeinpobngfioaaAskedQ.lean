/- The contracts of spec.l2Asked and impl.faultOfEither: the LinesFault of one list of lines, then of the other. No statement is proved here. -/
import Derived.Test.YtkeinpobngfioaaRows
import Derived.Test.YtkeinpobngfioaaLemQ
import Derived.Test.YtkeinpobngfioaaDTabQ
import Derived.Test.YtkeinpobngfioaaLFLemQ
import Derived.Test.YtkeinpobngfioaaHkTQ
import Derived.WalkKit
import Derived.ProofKit
namespace Go.Proofs.Ytkeinpobngfioaa
open Go.ChangeShapes Go.WideShapes Go.ChangeAt Go.RowKit

/-- The fault of two lists of lines. -/
def asked (xs ys : List ByteArray) : Int := if lf xs = 0 then lf ys else lf xs
theorem asked_left {xs ys : List ByteArray} (h : ¬ lf xs = 0) : asked xs ys = lf xs := if_neg h
theorem asked_right {xs ys : List ByteArray} (h : lf xs = 0) : asked xs ys = lf ys := if_pos h
theorem lf_zero {ss : List ByteArray} (h : lf ss = 0) : ss.length ≤ 100 ∧ tot ss ≤ 2000 := by
  unfold lf at h
  split at h
  · cases h
  · omega
theorem asked_zero {xs ys : List ByteArray} (h : asked xs ys = 0) : lf xs = 0 ∧ lf ys = 0 := by
  by_cases hx : lf xs = 0
  · rw [asked_right hx] at h; exact ⟨hx, h⟩
  · rw [asked_left hx] at h; exact absurd h hx
end Go.Proofs.Ytkeinpobngfioaa
