/- Rows of files, one behind the other. No statement is proved here. -/
import Derived.Test.YtaggjnaogmhfpaaDoorRows
import Derived.Test.YtaggjnaogmhfpaaDoorFlLQ
namespace Go.Proofs.YtaggjnaogmhfpaaDoor.Fl
open Go.ChangeShapes Go.WideShapes Go.ChangeAt Go.RowKit

theorem ocell_app (l m : List Ob) (j : Nat) : ocell (l ++ m) (l.length * 3 + j) = ocell m j := by
  unfold ocell
  have e1 : (l.length * 3 + j) % 3 = j % 3 := by omega
  have e2 : (l.length * 3 + j) / 3 = l.length + j / 3 := by omega
  rw [e1, e2]
  have e3 : (l ++ m).getD (l.length + j / 3) onil = m.getD (j / 3) onil := by rw [List.getD, List.getD, List.getElem?_append_right (by omega), show l.length + j / 3 - l.length = j / 3 by omega]
  rw [e3]
theorem ocell_left (l m : List Ob) (j : Nat) (h : j < l.length * 3) : ocell (l ++ m) j = ocell l j := by
  unfold ocell
  have h3 : j / 3 < l.length := by omega
  have e3 : (l ++ m).getD (j / 3) onil = l.getD (j / 3) onil := by simp [List.getD, List.getElem?_append_left h3]
  rw [e3]
theorem ocells_app (l m : List Ob) : ocells (l ++ m) = ocells l ++ ocells m := by
  unfold ocells
  rw [List.length_append, Nat.add_mul, rowG_append]
  congr 1
  · exact rowG_congr fun j hj => ocell_left l m j hj
  · exact rowG_congr fun j _ => ocell_app l m j
theorem ocells_one (o : Ob) : ocells [o] = [.string o.1, .int .i64 o.2.1, .string o.2.2] := by
  unfold ocells rowG
  show (List.range 3).map (ocell [o]) = _
  rw [show List.range 3 = [0, 1, 2] from rfl]
  simp [ocell]
end Go.Proofs.YtaggjnaogmhfpaaDoor.Fl
