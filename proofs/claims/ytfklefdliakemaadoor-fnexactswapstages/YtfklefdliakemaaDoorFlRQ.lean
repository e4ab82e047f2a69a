/- The contracts of the laws' helpers over FilesResult. No statement is proved here. -/
import Derived.Test.YtfklefdliakemaaDoorRows
import Derived.Test.YtfklefdliakemaaDoorLemQ
import Derived.Test.YtfklefdliakemaaDoorMarksQ
import Derived.Test.YtfklefdliakemaaDoorDTabQ
import Derived.Test.YtfklefdliakemaaDoorHkTQ
import Derived.Test.YtfklefdliakemaaDoorFlLQ
import Derived.Test.YtfklefdliakemaaDoorFlTQ
import Derived.Test.YtfklefdliakemaaDoorFlMQ
import Derived.WalkKit
import Derived.ProofKit
import Derived.Below
import Derived.WalkSpells
import Derived.Deep.RegionWith
namespace Go.Proofs.YtfklefdliakemaaDoor.Fl
open Go.ChangeShapes Go.WideShapes Go.ChangeAt Go.RowKit

theorem obMk {w : World} {base n c m : Nat} {a : Option Addr} (h : w.ownsRow base 59 3 (.slice a n c) n (ocells (mkO m n))) : OB w.heap.size w a (mkO m n) :=
  OB.of (c := c) (base := base) (by rw [mkO_length]; exact h)
end Go.Proofs.YtfklefdliakemaaDoor.Fl
