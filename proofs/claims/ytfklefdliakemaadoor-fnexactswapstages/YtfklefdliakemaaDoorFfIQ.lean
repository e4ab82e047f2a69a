/- The contracts of the program's isTaken and FilesFault. No statement is proved here. -/
import Derived.Test.YtfklefdliakemaaDoorRows
import Derived.Test.YtfklefdliakemaaDoorLemQ
import Derived.Test.YtfklefdliakemaaDoorDTabQ
import Derived.Test.YtfklefdliakemaaDoorHkTQ
import Derived.Test.YtfklefdliakemaaDoorIdLQ
import Derived.Test.YtfklefdliakemaaDoorFlLQ
import Derived.Test.YtfklefdliakemaaDoorPfCQ
import Derived.Test.YtfklefdliakemaaDoorDiCQ
import Derived.WalkKit
import Derived.ProofKit
import Derived.Below
import Derived.WalkSpells
import Derived.Deep.QuietTactic
import Derived.BigQuiet
import Derived.Deep.RegionWith
import Derived.Laws.Cover1
import Derived.Test.YtfklefdliakemaaDoorFfCQ
namespace Go.Proofs.YtfklefdliakemaaDoor.Fl
open Go.ChangeShapes Go.WideShapes Go.ChangeAt Go.RowKit

end Go.Proofs.YtfklefdliakemaaDoor.Fl
