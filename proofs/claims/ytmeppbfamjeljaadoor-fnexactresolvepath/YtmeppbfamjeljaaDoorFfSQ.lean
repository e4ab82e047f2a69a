/- The contract of the specification's FilesFault. No statement is proved here. -/
import Derived.Test.YtmeppbfamjeljaaDoorRows
import Derived.Test.YtmeppbfamjeljaaDoorLemQ
import Derived.Test.YtmeppbfamjeljaaDoorDTabQ
import Derived.Test.YtmeppbfamjeljaaDoorHkTQ
import Derived.Test.YtmeppbfamjeljaaDoorIdLQ
import Derived.Test.YtmeppbfamjeljaaDoorFlLQ
import Derived.Test.YtmeppbfamjeljaaDoorPfCQ
import Derived.Test.YtmeppbfamjeljaaDoorDiCQ
import Derived.WalkKit
import Derived.ProofKit
import Derived.Below
import Derived.WalkSpells
import Derived.Deep.QuietTactic
import Derived.BigQuiet
import Derived.Deep.RegionWith
import Derived.Laws.Cover1
import Derived.Test.YtmeppbfamjeljaaDoorPfSQ
import Derived.Test.YtmeppbfamjeljaaDoorFfCQ
import Derived.Deep.RegionHeld
import Derived.Deep.CutRange
namespace Go.Proofs.YtmeppbfamjeljaaDoor.Fl
open Go.ChangeShapes Go.WideShapes Go.ChangeAt Go.RowKit

theorem quietM {P : Program} {f : FuncId} {args : Array Value} {w : World} {n : Nat} {v : Value} (h : Calls P f args (w.drewN n) fun e w' => e = .returned v ∧ ∃ m, w' = (w.drewN n).drewN m) : Calls P f args (w.drewN n) fun e w'' => e = .returned v ∧ ∃ m, w'' = w.drewN m := h.mono fun _ _ ⟨he, m, hm⟩ => ⟨he, n + m, by rw [hm, World.drewN_drewN]⟩
theorem quietS {P : Program} {f : FuncId} {args : Array Value} {w : World} {n : Nat} {v : Value} (h : Calls P f args (w.drewN n) fun e w' => e = .returned v ∧ w' = w.drewN n) : Calls P f args (w.drewN n) fun e w'' => e = .returned v ∧ ∃ m, w'' = w.drewN m := h.mono fun _ _ ⟨he, hm⟩ => ⟨he, n, hm⟩
end Go.Proofs.YtmeppbfamjeljaaDoor.Fl
