/- The contracts of the laws' helpers that mark lists of files (markFileS, heldFileS). No statement is proved here. -/
import Derived.Test.YtmeppbfamjeljaaDoorRows
import Derived.Test.YtmeppbfamjeljaaDoorLemQ
import Derived.Test.YtmeppbfamjeljaaDoorMarksQ
import Derived.Test.YtmeppbfamjeljaaDoorDTabQ
import Derived.Test.YtmeppbfamjeljaaDoorFlLQ
import Derived.WalkKit
import Derived.ProofKit
import Derived.Below
import Derived.WalkSpells
import Derived.Test.YtmeppbfamjeljaaDoorHkTQ
import Derived.Test.YtmeppbfamjeljaaDoorFlTQ
import Derived.Deep.RegionWith
namespace Go.Proofs.YtmeppbfamjeljaaDoor.Fl
open Go.ChangeShapes Go.WideShapes Go.ChangeAt Go.RowKit

/-- Files that are marks, from m on. -/
def mkO (m n : Nat) : List Ob := (List.range n).map fun j => (mtxt (m + 3 * j), ((m + 3 * j + 1 : Nat) : Int), mtxt (m + 3 * j + 2))
theorem mkO_length (m n : Nat) : (mkO m n).length = n := by simp [mkO]
theorem mkO_at (m n k : Nat) (h : k < n) : (mkO m n).getD k onil = (mtxt (m + 3 * k), ((m + 3 * k + 1 : Nat) : Int), mtxt (m + 3 * k + 2)) := by simp [mkO, List.getD, h]
def mixP (l : List Ob) (xs : List Value) (k j : Nat) : Value := if j < k * 3 then ocell l j else xs.getD j (.int .i64 0)
theorem mixP_zero (l : List Ob) (xs : List Value) : rowG (mixP l xs 0) xs.length = xs := by
  apply List.ext_getElem?
  intro j
  by_cases hj : j < xs.length
  · rw [rowG_at _ _ _ hj]
    unfold mixP
    rw [if_neg (by omega)]
    simp [List.getD, hj]
  · rw [List.getElem?_eq_none (by rw [rowG_length]; omega), List.getElem?_eq_none (by omega)]
theorem mixP_set (l : List Ob) (xs : List Value) (k m : Nat) :
    (((rowG (mixP l xs k) m).set (k * 3) (.string (l.getD k onil).1)).set (k * 3 + 1) (.int .i64 (l.getD k onil).2.1)).set (k * 3 + 2) (.string (l.getD k onil).2.2) = rowG (mixP l xs (k + 1)) m := by
  rw [rowG_set, rowG_set, rowG_set]
  apply rowG_congr
  intro j _
  by_cases e2 : j = k * 3 + 2
  · rw [if_pos e2]; unfold mixP; rw [if_pos (by omega), e2, ocell2]
  · rw [if_neg e2]
    by_cases e1 : j = k * 3 + 1
    · rw [if_pos e1]; unfold mixP; rw [if_pos (by omega), e1, ocell1]
    · rw [if_neg e1]
      by_cases e0 : j = k * 3
      · rw [if_pos e0]; unfold mixP; rw [if_pos (by omega), e0, ocell0]
      · rw [if_neg e0]
        unfold mixP
        by_cases h : j < k * 3
        · rw [if_pos h, if_pos (by omega)]
        · have h1 : ¬ j < (k + 1) * 3 := by omega
          rw [if_neg h, if_neg h1]
theorem mixP_full (l : List Ob) (xs : List Value) : rowG (mixP l xs l.length) (l.length * 3) = ocells l := by
  apply rowG_congr
  intro j hj
  unfold mixP
  rw [if_pos hj]

end Go.Proofs.YtmeppbfamjeljaaDoor.Fl
/- The contracts of the laws' helpers over FilesResult. No statement is proved here. -/
namespace Go.Proofs.YtmeppbfamjeljaaDoor.Fl
open Go.ChangeShapes Go.WideShapes Go.ChangeAt Go.RowKit

theorem obMk {w : World} {base n c m : Nat} {a : Option Addr} (h : w.ownsRow base 43 3 (.slice a n c) n (ocells (mkO m n))) : OB w.heap.size w a (mkO m n) :=
  OB.of (c := c) (base := base) (by rw [mkO_length]; exact h)
end Go.Proofs.YtmeppbfamjeljaaDoor.Fl
