/- A new table of the program's: all its cells are zero. No statement is proved here. -/
import Derived.Test.YtkeinpobngfioaaRows
import Derived.Test.YtkeinpobngfioaaDTabQ
import Derived.WalkKit
import Derived.ProofKit
import Derived.Below
import Derived.OwnWalk
namespace Go.Proofs.Ytkeinpobngfioaa
open Go.ChangeShapes Go.WideShapes Go.ChangeAt Go.RowKit

def isZ : Value → Bool
  | .int .i64 n => n == 0
  | _ => false
def isF : Value → Bool
  | .bool b => !b
  | _ => false
theorem isZ_eq {v : Value} (h : isZ v = true) : v = .int .i64 0 := by
  unfold isZ at h
  split at h
  · rw [eq_of_beq h]
  · cases h
theorem isF_eq {v : Value} (h : isF v = true) : v = .bool false := by
  unfold isF at h
  split at h
  · simp at h; rw [h]
  · cases h
def tabCheck : Option Value → Bool
  | some (.agg Z) => (Z.size == 10202) && ((Z.toList.take 202).all isZ && (Z.toList.drop 202).all isF)
  | _ => false
end Go.Proofs.Ytkeinpobngfioaa
