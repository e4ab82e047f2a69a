/- The contracts of takenLines and of mergedText. No statement is proved here. -/
import Derived.Test.YtkeinpobngfioaaRows
import Derived.Test.YtkeinpobngfioaaLemQ
import Derived.Test.YtkeinpobngfioaaDTabQ
import Derived.Test.YtkeinpobngfioaaHkTQ
import Derived.Test.YtkeinpobngfioaaCkLQ
import Derived.Test.YtkeinpobngfioaaCkCQ
import Derived.Test.YtkeinpobngfioaaCkBQ
import Derived.Test.YtkeinpobngfioaaRtMQ
import Derived.Test.YtkeinpobngfioaaCtTQ
import Derived.Test.YtkeinpobngfioaaCtCQ
import Derived.Test.YtkeinpobngfioaaCtVQ
import Derived.WalkKit
import Derived.ProofKit
import Derived.Below
import Derived.WalkSpells
import Derived.Deep.QuietTactic
import Derived.BigQuiet
import Derived.Laws.Concat
namespace Go.Proofs.Ytkeinpobngfioaa
open Go.ChangeShapes Go.WideShapes Go.ChangeAt Go.RowKit

theorem ret_val {v u : Value} (h : v = u) : Ending.returned v = .returned u := by rw [h]
/-- Chunks whose text can be made. -/
structure Mx (l : List Ck) : Prop where
  each : ∀ c ∈ l, c.2.1.length ≤ 1048576 ∧ c.2.2.1.length ≤ 1048576 ∧ c.2.2.2.length ≤ 1048576 ∧ tot c.2.1 ≤ 1048576 ∧ tot c.2.2.1 ≤ 1048576 ∧ tot c.2.2.2 ≤ 1048576 ∧ (c.1 = 4 → ctOK c.1 c.2.1 c.2.2.1 c.2.2.2 = true)
  whole : tot (ptsA l) + (ptsA l).length ≤ 100000000
theorem atF_bel {T e : TypeId} {B b : Nat} {p : Value} {bs : List Value} {w w' : World} (h : Lib.BuilderAtF T e B b p bs w) (hb : Below w.heap.size w w') : Lib.BuilderAtF T e B b p bs w' := by
  have hlt := h.lt
  obtain ⟨hB, v, hbk, hown, hne⟩ := h
  exact ⟨hB, v, (hb.block b hlt).trans hbk, hown.kept (grownOfBelow hb none) (by cases hv : v.ownBlock <;> simp), hne⟩
theorem KB.belowAt {B : Nat} {w w' : World} {a : Option Addr} {l : List Ck} (h : KB B w a l) (hb : Below B w w') : KB B w' a l := fun k hk => by
  obtain ⟨g, off, a1, c1, a2, c2, a3, c3, e, hg, d0, d1, d2, d3, s1, s2, s3⟩ := h k hk
  have key : ∀ {a : Option Addr} {c : Nat} {ss : List ByteArray}, SSN B w a c ss → SSN B w' a c ss := fun {a c ss} hs => ⟨⟨hs.1.1, fun j hj => by obtain ⟨b', o, e, hl, hc⟩ := hs.1.2 j hj; exact ⟨b', o, e, hl, (hb.cell (p := ⟨b', o + j, none⟩) hl).trans hc⟩⟩, hs.2⟩
  exact ⟨g, off, a1, c1, a2, c2, a3, c3, e, hg, (hb.cell (p := ⟨g, off + k * 4, none⟩) hg).trans d0, (hb.cell (p := ⟨g, off + k * 4 + 1, none⟩) hg).trans d1, (hb.cell (p := ⟨g, off + k * 4 + 2, none⟩) hg).trans d2, (hb.cell (p := ⟨g, off + k * 4 + 3, none⟩) hg).trans d3, key s1, key s2, key s3⟩
end Go.Proofs.Ytkeinpobngfioaa
/- The contract of l4Merge. No statement is proved here. -/
namespace Go.Proofs.Ytkeinpobngfioaa
open Go.ChangeShapes Go.WideShapes Go.ChangeAt Go.RowKit

theorem ptsA_len_le (l : List Ck) (k : Nat) (h : k < l.length) : (ptsA (l.take k)).length + (pts (l.getD k cnil)).length ≤ (ptsA l).length := by
  have e : ptsA l = ptsA (l.take k) ++ (pts (l.getD k cnil) ++ ptsA (l.drop (k + 1))) := by
    have := ck_drop l k h
    unfold ptsA
    rw [← List.flatMap_cons, ← this, ← List.flatMap_append, List.take_append_drop]
  rw [e]
  simp only [List.length_append]
  omega
theorem ctOK_wh {x0 : Int} {x1 x2 x3 : List ByteArray} (h : ctOK x0 x1 x2 x3 = true) : wh x1 = true ∧ wh x2 = true ∧ wh x3 = true := by
  unfold ctOK at h
  simp only [Bool.and_eq_true] at h
  exact ⟨h.2.2.1, h.2.2.2.1, h.2.2.2.2⟩
theorem ret_two {s t : ByteArray} {a b : Int} (h : s = t) (k : a = b) : Ending.returned (.tuple #[.string s, .int .i64 a]) = .returned (.tuple #[.string t, .int .i64 b]) := by rw [h, k]
end Go.Proofs.Ytkeinpobngfioaa
