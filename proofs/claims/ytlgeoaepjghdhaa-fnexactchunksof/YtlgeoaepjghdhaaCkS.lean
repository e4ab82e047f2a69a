/- The contract of spec.ChunksFault. No statement is proved here. -/
import Derived.Test.YtlgeoaepjghdhaaRows
import Derived.Test.YtlgeoaepjghdhaaLem
import Derived.Test.YtlgeoaepjghdhaaStrs
import Derived.Test.YtlgeoaepjghdhaaLFLem
import Derived.Test.YtlgeoaepjghdhaaLF
import Derived.Test.YtlgeoaepjghdhaaDTab
import Derived.Test.YtlgeoaepjghdhaaOwn
import Derived.Test.YtlgeoaepjghdhaaFr
import Derived.Test.YtlgeoaepjghdhaaIn
import Derived.Test.YtlgeoaepjghdhaaCkL
import Derived.Test.YtlgeoaepjghdhaaCkC
import Derived.Test.YtlgeoaepjghdhaaCkB
import Derived.Test.YtlgeoaepjghdhaaCkI
import Derived.WalkKit
import Derived.ProofKit
import Derived.Below
import Derived.WalkSpells
import Derived.Deep.QuietTactic
import Derived.BigQuiet
import Derived.Deep.RegionWith
import Derived.Deep.CutRange
namespace Go.Proofs.Ytlgeoaepjghdhaa
open Go.ChangeShapes Go.WideShapes Go.ChangeAt Go.RowKit

theorem wrapIn {x : Int} (h0 : -9223372036854775808 ≤ x) (h1 : x ≤ 9223372036854775807) : IntKind.i64.wrap x = x := by rw [IntKind.wrap_i64]; omega
theorem bare_sum (x0 : Int) (x1 x2 x3 : List ByteArray) : bare (x0, x1, x2, x3) = ((x1.length : Int) + (x2.length : Int) + (x3.length : Int) == 0) := by
  unfold bare
  by_cases h : x1.length = 0 ∧ x2.length = 0 ∧ x3.length = 0
  · have e : (x1.length : Int) + (x2.length : Int) + (x3.length : Int) = 0 := by omega
    rw [e]; exact decide_eq_true h
  · have e : ¬ (x1.length : Int) + (x2.length : Int) + (x3.length : Int) = 0 := by omega
    rw [show ((x1.length : Int) + (x2.length : Int) + (x3.length : Int) == 0) = false from beq_eq_false_iff_ne.2 e]; exact decide_eq_false h

end Go.Proofs.Ytlgeoaepjghdhaa
