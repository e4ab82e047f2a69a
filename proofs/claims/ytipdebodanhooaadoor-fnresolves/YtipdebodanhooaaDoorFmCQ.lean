/- Small contracts: which modes files have, which stages entries have. No statement is proved here. -/
import Derived.Test.YtipdebodanhooaaDoorRows
import Derived.Test.YtipdebodanhooaaDoorLemQ
import Derived.Test.YtipdebodanhooaaDoorDTabQ
import Derived.WalkKit
import Derived.ProofKit
import Derived.Below
import Derived.Laws.Cover1
namespace Go.Proofs.YtipdebodanhooaaDoor
open Go.ChangeShapes Go.WideShapes Go.ChangeAt Go.RowKit

theorem mode_yes {x : Int} (h : inB x 1 2 = true) : x = 1 ∨ x = 2 := by
  unfold inB at h
  simp at h
  omega
theorem mode_no {x : Int} (h : inB x 1 2 = false) : (x == 1) = false ∧ (x == 2) = false := by
  refine ⟨?_, ?_⟩
  · cases e : x == 1 with
    | false => rfl
    | true => simp at e; subst e; simp [inB] at h
  · cases e : x == 2 with
    | false => rfl
    | true => simp at e; subst e; simp [inB] at h
theorem isFileModeC (x : Int) (w : World) : Calls Tryd.prog 25 #[.int .i64 x] w fun e w' => e = .returned (.bool (inB x 1 2)) ∧ w' = w := by
  cases h : inB x 1 2 with
  | true =>
    rcases mode_yes h with rfl | rfl
    · clear h
      go_enter Tryd.func25, Tryd.ntmps25
      go_wp2
      go_ret
      exact ⟨rfl, rfl⟩
    · clear h
      go_enter Tryd.func25, Tryd.ntmps25
      go_wp2
      go_ret
      exact ⟨rfl, rfl⟩
  | false =>
    obtain ⟨h1, h2⟩ := mode_no h
    clear h
    go_enter Tryd.func25, Tryd.ntmps25
    go_wp2
    go_ret
    exact ⟨rfl, rfl⟩
theorem l10ModeC (x : Int) (w : World) : Calls Tryd.prog 36 #[.int .i64 x] w fun e w' => e = .returned (.bool (inB x 1 2)) ∧ w' = w := by
  cases h : inB x 1 2 with
  | true =>
    rcases mode_yes h with rfl | rfl
    · clear h
      go_enter Tryd.func36, Tryd.ntmps36
      go_wp2
      go_ret
      exact ⟨rfl, rfl⟩
    · clear h
      go_enter Tryd.func36, Tryd.ntmps36
      go_wp2
      go_ret
      exact ⟨rfl, rfl⟩
  | false =>
    obtain ⟨h1, h2⟩ := mode_no h
    clear h
    go_enter Tryd.func36, Tryd.ntmps36
    go_wp2
    go_ret
    exact ⟨rfl, rfl⟩
theorem isStageC (x : Int) (w : World) : Calls Tryd.prog 42 #[.int .i64 x] w fun e w' => e = .returned (.bool (inB x 0 3)) ∧ w' = w := by
  by_cases h0 : 0 ≤ x
  · by_cases h1 : x ≤ 3
    · have HR : Hid (inB x 0 3 = true) := decide_eq_true ⟨h0, h1⟩
      go_enter Tryd.func42, Tryd.ntmps42
      go_wp2
      go_ret
      exact ⟨ret_bool HR.out.symm, rfl⟩
    · have HR : Hid (inB x 0 3 = false) := decide_eq_false (fun q => h1 q.2)
      go_enter Tryd.func42, Tryd.ntmps42
      go_wp2
      go_ret
      exact ⟨ret_bool HR.out.symm, rfl⟩
  · have HR : Hid (inB x 0 3 = false) := decide_eq_false (fun q => h0 q.1)
    go_enter Tryd.func42, Tryd.ntmps42
    go_wp2
    go_ret
    exact ⟨ret_bool HR.out.symm, rfl⟩
end Go.Proofs.YtipdebodanhooaaDoor
