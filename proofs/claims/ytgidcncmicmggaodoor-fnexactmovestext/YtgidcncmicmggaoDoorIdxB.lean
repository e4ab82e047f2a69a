/- The contract of strings.IndexByte over this seat's program. No statement is proved here. -/
import Derived.Test.YtgidcncmicmggaoDoorRows
import Derived.Test.YtgidcncmicmggaoDoorLem
import Derived.WalkKit
import Derived.ProofKit
import Derived.Lib.Bytealg
namespace Go.Proofs.YtgidcncmicmggaoDoor
open Go.ChangeShapes Go.WideShapes Go.ChangeAt Go.RowKit

theorem idxEntry (s : ByteArray) (c : Int) (w : World) :
    (callFunc 52 #[.string s, .int .u8 c]).run Tryd.prog w = .ok (.value (.int .i64 (Lib.indexByte s.data.toList c.toNat.toUInt8))) w := by
  rw [run_callFunc_extern Tryd.func52 (by kernel_rfl) (by kernel_rfl) (by kernel_rfl) (e := Extern.BytealgIndexByte.indexByte) (by kernel_rfl), Lib.run_indexByteString]
  rfl

end Go.Proofs.YtgidcncmicmggaoDoor
