/- An argument that is a chunk, or a list of chunks, opened. No statement is proved here. -/
import Derived.Test.YtlgeoaepjghdhaaRows
import Derived.Test.YtlgeoaepjghdhaaLem
import Derived.Test.YtlgeoaepjghdhaaStrs
import Derived.Test.YtlgeoaepjghdhaaDTab
import Derived.Test.YtlgeoaepjghdhaaFr
import Derived.Test.YtlgeoaepjghdhaaIn
import Derived.Test.YtlgeoaepjghdhaaCkL
import Derived.Test.YtlgeoaepjghdhaaCkN
import Derived.WalkKit
import Derived.ProofKit
import Derived.Deep.Strs
import Derived.SliceStrings
import Derived.Lib.SmallJoins
namespace Go.Proofs.Ytlgeoaepjghdhaa
open Go.ChangeShapes Go.WideShapes Go.ChangeAt Go.RowKit

theorem oneAt {cs : List Value} {k : Nat} {v : Value} (h : (cs.drop k).take 1 = [v]) : cs[k]? = some v := by
  have := congrArg (fun l => l[0]?) h
  simpa [List.getElem?_take, List.getElem?_drop] using this
theorem openSlN {H : Type} {enc : TypeId × Value → H} {W : World} {m : Nat} {cs : List Value} {y : DataW H × List MemPlace}
    (t : DataW.trod enc Try.prog W 0 (fun _ => true) true m 22 cs = some y) (hlt : ∀ x ∈ y.2, x.block < W.heap.size) :
    ∃ a cap ss, cs = [.slice a ss.length cap] ∧ SSN W.heap.size W a cap ss ∧ ss.length ≤ 9223372036854775807 := by
  obtain ⟨a, len, cap, e2, hnil⟩ : ∃ a len cap, cs = [.slice a len cap] ∧ (a = none → cap = 0) := by
    rcases open_strings Try.underlying22 Try.underlying9 (by kernel_rfl) t with ⟨hcs, _⟩ | ⟨x, l, c, ss, hcs, _⟩
    · exact ⟨_, _, _, hcs, fun _ => rfl⟩
    · exact ⟨_, _, _, hcs, fun h => by cases h⟩
  obtain ⟨ss, rfl, hS, hn⟩ := openSS (enc := enc) (W := W) (a := a) (len := len) (cap := cap) (d := y.1) (p := y.2) ⟨m, by
    show DataW.trod enc Try.prog W 0 (fun _ => true) true m 22 [.slice a len cap] = some y
    rw [← e2]; exact t⟩ hlt
  exact ⟨a, cap, ss, e2, ⟨hS.toB, hnil⟩, hn⟩
theorem mem_of_lns {l : List Ck} {ss : List ByteArray} (h : ss ∈ lnsAll l) : ∃ c ∈ l, ss = c.2.1 ∨ ss = c.2.2.1 ∨ ss = c.2.2.2 := by
  unfold lnsAll at h
  obtain ⟨c, hc, hs⟩ := List.mem_flatMap.1 h
  exact ⟨c, hc, by simpa using hs⟩
end Go.Proofs.Ytlgeoaepjghdhaa
