/- (One string.) The contract of impl.writeParts. No statement is proved here. -/
import Derived.Test.YtkeinpobngfioaaRows
import Derived.Test.YtkeinpobngfioaaLemQ
import Derived.Test.YtkeinpobngfioaaLFLemQ
import Derived.Test.YtkeinpobngfioaaDTabQ
import Derived.Test.YtkeinpobngfioaaBldQ
import Derived.Test.YtkeinpobngfioaaCkLQ
import Derived.Test.YtkeinpobngfioaaRtMQ
import Derived.Test.YtkeinpobngfioaaCtCQ
import Derived.WalkKit
import Derived.ProofKit
import Derived.Below
import Derived.WalkSpells
import Derived.Test.YtkeinpobngfioaaHkTQ
import Derived.Test.YtkeinpobngfioaaCkCQ
import Derived.Test.YtkeinpobngfioaaCkBQ
import Derived.Test.YtkeinpobngfioaaCtTQ
import Derived.Laws.Concat
import Derived.Deep.QuietTactic
import Derived.BigQuiet
import Derived.Deep.RegionWith
import Derived.Deep.CutRange
import Derived.Lib.OthersKept
namespace Go.Proofs.Ytkeinpobngfioaa
open Go.ChangeShapes Go.WideShapes Go.ChangeAt Go.RowKit

end Go.Proofs.Ytkeinpobngfioaa
/- The contract of the program's ClashText. No statement is proved here. -/
namespace Go.Proofs.Ytkeinpobngfioaa
open Go.ChangeShapes Go.WideShapes Go.ChangeAt Go.RowKit

theorem Res2.belowAt {w w' : World} {p B : Nat} {u v : Value} (h : Res2 w p u v) (hp : p < B) (hb : Below B w w') : Res2 w' p u v :=
  ⟨(hb.cell (p := ⟨p, 0, none⟩) hp).trans h.c0, (hb.cell (p := ⟨p, 1, none⟩) hp).trans h.c1, (hb.frozen (p := ⟨p, 0, none⟩) hp).trans h.f0, (hb.frozen (p := ⟨p, 1, none⟩) hp).trans h.f1⟩
/-- A row of one string that was just laid. -/
theorem oneSS (w : World) (s : ByteArray) (t : TypeId) (hs : s.size ≤ 9223372036854775807) : SS (w.alloc (.cells #[.string s] t)) (some ⟨w.heap.size, 0, none⟩) [s] :=
  ⟨fun k hk => by
    have : k = 0 := by simpa using hk
    subst this
    exact hs, fun k hk => by
    have : k = 0 := by simpa using hk
    subst this
    exact ⟨w.heap.size, 0, rfl, by simp, by simp⟩⟩
end Go.Proofs.Ytkeinpobngfioaa
