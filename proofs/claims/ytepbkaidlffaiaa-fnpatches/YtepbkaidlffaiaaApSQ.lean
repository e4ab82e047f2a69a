/- The contract of spec.ApplyHunks. No statement is proved here. -/
import Derived.Test.YtepbkaidlffaiaaRows
import Derived.Test.YtepbkaidlffaiaaLemQ
import Derived.Test.YtepbkaidlffaiaaStrsQ
import Derived.Test.YtepbkaidlffaiaaLFLemQ
import Derived.Test.YtepbkaidlffaiaaLFQ
import Derived.Test.YtepbkaidlffaiaaDTabQ
import Derived.Test.YtepbkaidlffaiaaOwnQ
import Derived.Test.YtepbkaidlffaiaaFrQ
import Derived.Test.YtepbkaidlffaiaaInQ
import Derived.Test.YtepbkaidlffaiaaWvCQ
import Derived.Test.YtepbkaidlffaiaaHkLQ
import Derived.Test.YtepbkaidlffaiaaHkCQ
import Derived.Test.YtepbkaidlffaiaaHkSQ
import Derived.Test.YtepbkaidlffaiaaHfCQ
import Derived.Test.YtepbkaidlffaiaaHfIQ
import Derived.Test.YtepbkaidlffaiaaHfSQ
import Derived.Test.YtepbkaidlffaiaaHnLQ
import Derived.Test.YtepbkaidlffaiaaApCQ
import Derived.Test.YtepbkaidlffaiaaApBQ
import Derived.WalkKit
import Derived.ProofKit
import Derived.Below
import Derived.WalkSpells
import Derived.Maps.AppendAt
namespace Go.Proofs.Ytepbkaidlffaiaa
open Go.ChangeShapes Go.WideShapes Go.ChangeAt Go.RowKit

end Go.Proofs.Ytepbkaidlffaiaa
