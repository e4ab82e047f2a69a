/- The contracts of CommonOf, the program's and the specification's. No statement is proved here. -/
import Derived.Test.YtepbkaidlffaiabRows
import Derived.Test.YtepbkaidlffaiabLemQ
import Derived.Test.YtepbkaidlffaiabStrsQ
import Derived.Test.YtepbkaidlffaiabOwnQ
import Derived.Test.YtepbkaidlffaiabLFLemQ
import Derived.Test.YtepbkaidlffaiabLFQ
import Derived.Test.YtepbkaidlffaiabComQ
import Derived.Test.YtepbkaidlffaiabAskedQ
import Derived.Test.YtepbkaidlffaiabDTabQ
import Derived.Test.YtepbkaidlffaiabFillQ
import Derived.Test.YtepbkaidlffaiabSTabQ
import Derived.Test.YtepbkaidlffaiabAlcQ
import Derived.WalkKit
import Derived.ProofKit
import Derived.Below
namespace Go.Proofs.Ytepbkaidlffaiab
open Go.ChangeShapes Go.WideShapes Go.ChangeAt Go.RowKit

/-- The value that CommonOf tells. -/
def comV (xs ys : List ByteArray) : Int := if asked xs ys = 0 then (comAt xs ys 0 0 : Int) else 0
theorem comV_ok {xs ys : List ByteArray} (h : asked xs ys = 0) : comV xs ys = (comAt xs ys 0 0 : Int) := if_pos h
theorem comV_no {xs ys : List ByteArray} (h : ¬ asked xs ys = 0) : comV xs ys = 0 := if_neg h
end Go.Proofs.Ytepbkaidlffaiab
