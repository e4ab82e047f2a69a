/- The contracts of the program's isTaken and FilesFault. No statement is proved here. -/
import Derived.Test.YtmeppbfamjeljaaDoorRows
import Derived.Test.YtmeppbfamjeljaaDoorLemQ
import Derived.Test.YtmeppbfamjeljaaDoorDTabQ
import Derived.Test.YtmeppbfamjeljaaDoorHkTQ
import Derived.Test.YtmeppbfamjeljaaDoorIdLQ
import Derived.Test.YtmeppbfamjeljaaDoorFlLQ
import Derived.Test.YtmeppbfamjeljaaDoorPfCQ
import Derived.Test.YtmeppbfamjeljaaDoorDiCQ
import Derived.WalkKit
import Derived.ProofKit
import Derived.Below
import Derived.WalkSpells
import Derived.Deep.QuietTactic
import Derived.BigQuiet
import Derived.Deep.RegionWith
import Derived.Laws.Cover1
import Derived.Test.YtmeppbfamjeljaaDoorFfCQ
namespace Go.Proofs.YtmeppbfamjeljaaDoor.Fl
open Go.ChangeShapes Go.WideShapes Go.ChangeAt Go.RowKit

end Go.Proofs.YtmeppbfamjeljaaDoor.Fl
