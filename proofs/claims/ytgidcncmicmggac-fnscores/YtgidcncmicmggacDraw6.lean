/- The contract of the specification's l1Bent (lines of nine bytes) over this seat's program. No statement is proved here. -/
import Derived.Test.YtgidcncmicmggacRows
import Derived.Test.YtgidcncmicmggacLem
import Derived.Test.YtgidcncmicmggacStrs
import Derived.Test.YtgidcncmicmggacMarks
import Derived.Test.YtgidcncmicmggacDraw
import Derived.Test.YtgidcncmicmggacDraw2
import Derived.Test.YtgidcncmicmggacDraw5
import Derived.WalkKit
import Derived.ProofKit
import Derived.Below
import Derived.WalkSpells
namespace Go.Proofs.Ytgidcncmicmggac
open Go.ChangeShapes Go.WideShapes Go.ChangeAt Go.RowKit

def BentPost9 (N b : Nat) (a : Option Addr) (n cap : Nat) (k : Int) (w : World) (e : Ending) (w' : World) : Prop := ∃ (x : Option Addr) (c : Nat) (ss : List ByteArray), e = .returned (.slice x ss.length c) ∧ SS w' x ss ∧ ss.length ≤ 1000 ∧ Small 9 ss ∧ w.grownBy w' (some b) ∧ ∃ k', Src N w' b a n cap k' ∧ k' ≤ k + 200

end Go.Proofs.Ytgidcncmicmggac
