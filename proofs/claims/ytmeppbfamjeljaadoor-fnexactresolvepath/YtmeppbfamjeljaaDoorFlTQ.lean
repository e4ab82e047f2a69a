/- The contracts of the laws' helpers over lists of files (szFileS, toFileS, eqFileS). No statement is proved here. -/
import Derived.Test.YtmeppbfamjeljaaDoorRows
import Derived.Test.YtmeppbfamjeljaaDoorLemQ
import Derived.Test.YtmeppbfamjeljaaDoorDTabQ
import Derived.Test.YtmeppbfamjeljaaDoorFlLQ
import Derived.WalkKit
import Derived.ProofKit
import Derived.Below
import Derived.WalkSpells
import Derived.Deep.QuietTactic
import Derived.BigQuiet
import Derived.Deep.RegionWith
namespace Go.Proofs.YtmeppbfamjeljaaDoor.Fl
open Go.ChangeShapes Go.WideShapes Go.ChangeAt Go.RowKit

theorem beqSelf (s : ByteArray) : (s.toList == s.toList) = true := beq_bytes_true rfl
end Go.Proofs.YtmeppbfamjeljaaDoor.Fl
