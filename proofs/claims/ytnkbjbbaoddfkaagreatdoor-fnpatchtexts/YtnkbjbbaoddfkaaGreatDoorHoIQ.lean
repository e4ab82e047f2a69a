/- The contract of impl.hunkAround. No statement is proved here. -/
import Derived.Test.YtnkbjbbaoddfkaaGreatDoorRows
import Derived.Test.YtnkbjbbaoddfkaaGreatDoorLemQ
import Derived.Test.YtnkbjbbaoddfkaaGreatDoorDTabQ
import Derived.Test.YtnkbjbbaoddfkaaGreatDoorWvCQ
import Derived.Test.YtnkbjbbaoddfkaaGreatDoorComQ
import Derived.Test.YtnkbjbbaoddfkaaGreatDoorPairsQ
import Derived.Test.YtnkbjbbaoddfkaaGreatDoorCoCQ
import Derived.Test.YtnkbjbbaoddfkaaGreatDoorHkLQ
import Derived.Test.YtnkbjbbaoddfkaaGreatDoorHkTQ
import Derived.Test.YtnkbjbbaoddfkaaGreatDoorHfCQ
import Derived.Test.YtnkbjbbaoddfkaaGreatDoorHnLQ
import Derived.Test.YtnkbjbbaoddfkaaGreatDoorHrRQ
import Derived.Test.YtnkbjbbaoddfkaaGreatDoorRvLQ
import Derived.Test.YtnkbjbbaoddfkaaGreatDoorHoPQ
import Derived.WalkKit
import Derived.ProofKit
import Derived.Below
import Derived.WalkSpells
import Derived.Maps.AppendAt
import Derived.Deep.RegionLaw
import Derived.Deep.CutRange
namespace Go.Proofs.YtnkbjbbaoddfkaaGreatDoor
open Go.ChangeShapes Go.WideShapes Go.ChangeAt Go.RowKit

end Go.Proofs.YtnkbjbbaoddfkaaGreatDoor
