/- The contracts of the laws' helpers over ChunksResult. No statement is proved here. -/
import Derived.Test.YtciddfpkcdicaaaRows
import Derived.Test.YtciddfpkcdicaaaLemQ
import Derived.Test.YtciddfpkcdicaaaMarksQ
import Derived.Test.YtciddfpkcdicaaaDTabQ
import Derived.Test.YtciddfpkcdicaaaInQ
import Derived.Test.YtciddfpkcdicaaaCkLQ
import Derived.Test.YtciddfpkcdicaaaCkNQ
import Derived.Test.YtciddfpkcdicaaaCkTQ
import Derived.Test.YtciddfpkcdicaaaCkMQ
import Derived.WalkKit
import Derived.ProofKit
import Derived.Below
import Derived.WalkSpells
namespace Go.Proofs.Ytciddfpkcdicaaa
open Go.ChangeShapes Go.WideShapes Go.ChangeAt Go.RowKit

theorem marks_fit (m n : Nat) (h : m + n ≤ 4194304) : ∀ k, k < (marks m n).length → ((marks m n).getD k ByteArray.empty).size ≤ 9223372036854775807 := fun k hk => by
  rw [marks_length] at hk
  rw [marks_at m n k hk]
  exact mtxt_size _ (by omega)
/-- A marked line is short; so are the lines of marked chunks. -/
theorem mixX_fits {l : List Ck} {m : Nat} (h : m + mkK l l.length ≤ 4194304) : FitsK (mixX l m l.length) := fun ss hss k hk => by
  obtain ⟨y, hy, hq⟩ := mem_of_lns hss
  unfold mixX at hy
  obtain ⟨i, hi, e⟩ := List.mem_map.1 hy
  have hi' : i < l.length := List.mem_range.1 hi
  rw [if_pos hi'] at e
  subst e
  have h1 := mkK_le l (i + 1)
  rw [mkK_succ l i hi'] at h1
  unfold mk1 at h1
  unfold mkX mkC at hq
  rcases hq with rfl | rfl | rfl
  · exact marks_fit _ _ (by omega) k hk
  · exact marks_fit _ _ (by omega) k hk
  · exact marks_fit _ _ (by omega) k hk
/-- The answer with code r and chunks L, in memory of its own. -/
def KP2 (r : Int) (L : List Ck) (w : World) (e : Ending) (w' : World) : Prop := ∃ v sl, e = .returned (.agg #[.int .i64 r, v]) ∧ KO w.heap.size w' v L sl ∧ Below w.heap.size w w'
end Go.Proofs.Ytciddfpkcdicaaa
