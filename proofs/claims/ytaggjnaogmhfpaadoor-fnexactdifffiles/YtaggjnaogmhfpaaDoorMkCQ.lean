/- The contracts of MergeKind, of the program and of the specification. No statement is proved here. -/
import Derived.Test.YtaggjnaogmhfpaaDoorRows
import Derived.Test.YtaggjnaogmhfpaaDoorFlLQ
import Derived.Test.YtaggjnaogmhfpaaDoorFlTQ
import Derived.WalkKit
import Derived.ProofKit
import Derived.Below
import Derived.WalkSpells
import Derived.Deep.QuietTactic
import Derived.BigQuiet
import Derived.Laws.Cover1
import Derived.Laws.StructEq
namespace Go.Proofs.YtaggjnaogmhfpaaDoor.Fl
open Go.ChangeShapes Go.WideShapes Go.ChangeAt Go.RowKit

theorem run_eqF (x1 x3 y1 y3 : ByteArray) (x2 y2 : Int) (w : World) : (Op.equalIn 10000 52 (.agg #[.string x1, .int .i64 x2, .string x3]) (.agg #[.string y1, .int .i64 y2, .string y3])).run Tryd.prog w = .ok (decide (((x1, x2, x3) : Ob) = (y1, y2, y3))) w := by
  by_cases h1 : x1 = y1
  · subst h1
    have b1 := beqSelf x1
    by_cases h2 : x2 = y2
    · subst h2
      by_cases h3 : x3 = y3
      · subst h3
        have b3 := beqSelf x3
        go_simp
      · have b3 : (x3.toList == y3.toList) = false := beq_bytes_false h3
        have e : ¬ (((x1, x2, x3) : Ob) = (x1, x2, y3)) := fun h => h3 (by simpa using h)
        rw [decide_eq_false e]
        go_simp
    · have b2 : (x2 == y2) = false := by simp [h2]
      have e : ¬ (((x1, x2, x3) : Ob) = (x1, y2, y3)) := fun h => h2 (by simp at h; exact h.1)
      rw [decide_eq_false e]
      go_simp
  · have b1 : (x1.toList == y1.toList) = false := beq_bytes_false h1
    have e : ¬ (((x1, x2, x3) : Ob) = (y1, y2, y3)) := fun h => h1 (by simp at h; exact h.1)
    rw [decide_eq_false e]
    go_simp

/-- What MergeKind answers. -/
def mk (b o t : Ob) : Int := if o = t then 0 else if t = b then 1 else if o = b then 2 else if o = onil then 4 else if t = onil then 4 else 3
theorem ef_yes {x1 x3 y1 y3 : ByteArray} {x2 y2 : Int} (h : ((x1, x2, x3) : Ob) = (y1, y2, y3)) (w : World) : (Op.equalIn 10000 52 (.agg #[.string x1, .int .i64 x2, .string x3]) (.agg #[.string y1, .int .i64 y2, .string y3])).run Tryd.prog w = .ok true w := by
  rw [run_eqF, decide_eq_true h]
theorem ef_no {x1 x3 y1 y3 : ByteArray} {x2 y2 : Int} (h : ¬ ((x1, x2, x3) : Ob) = (y1, y2, y3)) (w : World) : (Op.equalIn 10000 52 (.agg #[.string x1, .int .i64 x2, .string x3]) (.agg #[.string y1, .int .i64 y2, .string y3])).run Tryd.prog w = .ok false w := by
  rw [run_eqF, decide_eq_false h]
theorem ef_nil {x1 x3 : ByteArray} {x2 : Int} (h : ((x1, x2, x3) : Ob) = onil) (w : World) : (Op.equalIn 10000 52 (.agg #[.string x1, .int .i64 x2, .string x3]) (.agg #[.string ⟨#[]⟩, .int .i64 0, .string ⟨#[]⟩])).run Tryd.prog w = .ok true w := ef_yes h w
theorem ef_some {x1 x3 : ByteArray} {x2 : Int} (h : ¬ ((x1, x2, x3) : Ob) = onil) (w : World) : (Op.equalIn 10000 52 (.agg #[.string x1, .int .i64 x2, .string x3]) (.agg #[.string ⟨#[]⟩, .int .i64 0, .string ⟨#[]⟩])).run Tryd.prog w = .ok false w := ef_no h w
end Go.Proofs.YtaggjnaogmhfpaaDoor.Fl
