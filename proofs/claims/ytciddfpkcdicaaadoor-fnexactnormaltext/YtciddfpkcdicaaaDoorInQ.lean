/- The contract of spec.l1In. No statement is proved here. -/
import Derived.Test.YtciddfpkcdicaaaDoorRows
import Derived.Test.YtciddfpkcdicaaaDoorLemQ
import Derived.WalkKit
import Derived.ProofKit
import Derived.Below
namespace Go.Proofs.YtciddfpkcdicaaaDoor
open Go.ChangeShapes Go.WideShapes Go.ChangeAt Go.RowKit

def inB (v lo hi : Int) : Bool := decide (lo ≤ v ∧ v ≤ hi)
end Go.Proofs.YtciddfpkcdicaaaDoor
