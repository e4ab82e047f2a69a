/- The contract of impl.hunkAround. No statement is proved here. -/
import Derived.Test.YtepbkaidlffaiabRows
import Derived.Test.YtepbkaidlffaiabLemQ
import Derived.Test.YtepbkaidlffaiabStrsQ
import Derived.Test.YtepbkaidlffaiabDTabQ
import Derived.Test.YtepbkaidlffaiabOwnQ
import Derived.Test.YtepbkaidlffaiabFrQ
import Derived.Test.YtepbkaidlffaiabWvCQ
import Derived.Test.YtepbkaidlffaiabComQ
import Derived.Test.YtepbkaidlffaiabChgQ
import Derived.Test.YtepbkaidlffaiabEdCQ
import Derived.Test.YtepbkaidlffaiabHkLQ
import Derived.Test.YtepbkaidlffaiabHkTQ
import Derived.Test.YtepbkaidlffaiabHfCQ
import Derived.Test.YtepbkaidlffaiabHnLQ
import Derived.Test.YtepbkaidlffaiabHrRQ
import Derived.Test.YtepbkaidlffaiabHoMQ
import Derived.Test.YtepbkaidlffaiabHoPQ
import Derived.Test.YtepbkaidlffaiabHoHQ
import Derived.WalkKit
import Derived.ProofKit
import Derived.Below
import Derived.WalkSpells
import Derived.Maps.AppendAt
import Derived.Deep.RegionLaw
import Derived.Deep.CutRange
namespace Go.Proofs.Ytepbkaidlffaiab
open Go.ChangeShapes Go.WideShapes Go.ChangeAt Go.RowKit

end Go.Proofs.Ytepbkaidlffaiab
