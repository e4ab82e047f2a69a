/- The contract of the specification's ChangesFault. No statement is proved here. -/
import Derived.Test.YtbmokagmpdgidaaRows
import Derived.Test.YtbmokagmpdgidaaLem
import Derived.Test.YtbmokagmpdgidaaStrs
import Derived.Test.YtbmokagmpdgidaaLFLem
import Derived.Test.YtbmokagmpdgidaaLF
import Derived.Test.YtbmokagmpdgidaaCom
import Derived.Test.YtbmokagmpdgidaaAsked
import Derived.Test.YtbmokagmpdgidaaDTab
import Derived.Test.YtbmokagmpdgidaaFr
import Derived.Test.YtbmokagmpdgidaaChg
import Derived.Test.YtbmokagmpdgidaaEdC
import Derived.Test.YtbmokagmpdgidaaCFC
import Derived.Test.YtbmokagmpdgidaaCFI
import Derived.WalkKit
import Derived.ProofKit
import Derived.Below
import Derived.WalkSpells
import Derived.Deep.QuietTactic
import Derived.BigQuiet
namespace Go.Proofs.Ytbmokagmpdgidaa
open Go.ChangeShapes Go.WideShapes Go.ChangeAt Go.RowKit

/-- Where the specification's walk stands behind k changes. -/
def stA (l : List Chg) (k : Nat) : Int := if k = 0 then 0 else endA l k
def stB (l : List Chg) (k : Nat) : Int := if k = 0 then 0 else endB l k
theorem stA_succ (l : List Chg) (k : Nat) : stA l (k + 1) = endA l (k + 1) := by unfold stA; rw [if_neg (by omega)]
theorem stB_succ (l : List Chg) (k : Nat) : stB l (k + 1) = endB l (k + 1) := by unfold stB; rw [if_neg (by omega)]
/-- The program's test and the specification's. -/
theorem fol_iff (l : List Chg) (k : Nat) (x0 x1 x2 x3 : Int) (h0 : 0 ≤ x0) : folB (x0, x1, x2, x3) (endA l k) (endB l k) = true ↔
    (¬ (x1 = 0 ∧ x3 = 0) ∧ x0 - stA l k = x2 - stB l k ∧ ¬ x0 < stA l k ∧ (0 < k → ¬ x0 = stA l k)) := by
  unfold folB stA stB
  rw [decide_eq_true_eq]
  by_cases hk : k = 0
  · subst hk
    simp only [endA_zero, endB_zero, if_true]
    constructor
    · rintro ⟨a, b, c⟩; exact ⟨a, by omega, by omega, by omega⟩
    · rintro ⟨a, b, c, d⟩; exact ⟨a, by omega, by omega⟩
  · simp only [hk, if_false]
    constructor
    · rintro ⟨a, b, c⟩; exact ⟨a, by omega, by omega, fun _ => by omega⟩
    · rintro ⟨a, b, c, d⟩
      have := d (by omega)
      exact ⟨a, by omega, by omega⟩

end Go.Proofs.Ytbmokagmpdgidaa
