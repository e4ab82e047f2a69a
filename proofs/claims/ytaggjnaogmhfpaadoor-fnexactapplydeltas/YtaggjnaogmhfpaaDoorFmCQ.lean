/- Small contracts: which modes files have, which stages entries have. No statement is proved here. -/
import Derived.Test.YtaggjnaogmhfpaaDoorRows
import Derived.Test.YtaggjnaogmhfpaaDoorLemQ
import Derived.Test.YtaggjnaogmhfpaaDoorInQ
import Derived.WalkKit
import Derived.ProofKit
import Derived.Below
import Derived.Laws.Cover1
namespace Go.Proofs.YtaggjnaogmhfpaaDoor
open Go.ChangeShapes Go.WideShapes Go.ChangeAt Go.RowKit

theorem mode_yes {x : Int} (h : inB x 1 2 = true) : x = 1 ∨ x = 2 := by
  unfold inB at h
  simp at h
  omega
theorem mode_no {x : Int} (h : inB x 1 2 = false) : (x == 1) = false ∧ (x == 2) = false := by
  refine ⟨?_, ?_⟩
  · cases e : x == 1 with
    | false => rfl
    | true => simp at e; subst e; simp [inB] at h
  · cases e : x == 2 with
    | false => rfl
    | true => simp at e; subst e; simp [inB] at h
theorem isFileModeC (x : Int) (w : World) : Calls Tryd.prog 59 #[.int .i64 x] w fun e w' => e = .returned (.bool (inB x 1 2)) ∧ w' = w := by
  cases h : inB x 1 2 with
  | true =>
    rcases mode_yes h with rfl | rfl
    · clear h
      go_enter Tryd.func59, Tryd.ntmps59
      go_wp2
      go_ret
      exact ⟨rfl, rfl⟩
    · clear h
      go_enter Tryd.func59, Tryd.ntmps59
      go_wp2
      go_ret
      exact ⟨rfl, rfl⟩
  | false =>
    obtain ⟨h1, h2⟩ := mode_no h
    clear h
    go_enter Tryd.func59, Tryd.ntmps59
    go_wp2
    go_ret
    exact ⟨rfl, rfl⟩
end Go.Proofs.YtaggjnaogmhfpaaDoor
