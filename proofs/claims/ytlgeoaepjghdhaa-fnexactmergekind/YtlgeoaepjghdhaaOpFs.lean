/- An argument that is a file, opened. No statement is proved here. -/
import Derived.Test.YtlgeoaepjghdhaaRows
import Derived.Test.YtlgeoaepjghdhaaLem
import Derived.Test.YtlgeoaepjghdhaaStrs
import Derived.Test.YtlgeoaepjghdhaaDTab
import Derived.Test.YtlgeoaepjghdhaaFr
import Derived.Test.YtlgeoaepjghdhaaFlL
import Derived.WalkKit
import Derived.ProofKit
import Derived.Deep.Strs
import Derived.SliceStrings
import Derived.Lib.SmallJoins
namespace Go.Proofs.Ytlgeoaepjghdhaa.Fl
open Go.ChangeShapes Go.WideShapes Go.ChangeAt Go.RowKit

theorem oneAtF {cs : List Value} {k : Nat} {v : Value} (h : (cs.drop k).take 1 = [v]) : cs[k]? = some v := by
  have := congrArg (fun l => l[0]?) h
  simpa [List.getElem?_take, List.getElem?_drop] using this
theorem openF {H : Type} {enc : TypeId × Value → H} {W : World} {n : Nat} {cs : List Value} {y : DataW H × List MemPlace}
    (h : DataW.trod enc Try.prog W 0 (fun _ => true) true n 39 cs = some y) :
    ∃ C : Ob, cs = [.string C.1, .int .i64 C.2.1, .string C.2.2] ∧ C.1.size ≤ 9223372036854775807 ∧ C.2.2.size ≤ 9223372036854775807 := by
  have hc3 : Try.prog.cellsOf 39 = 3 := by kernel_rfl
  have hc1 : Try.prog.cellsOf 2 = 1 := by kernel_rfl
  have hc2 : Try.prog.cellsOf 9 = 1 := by kernel_rfl
  obtain ⟨y0, y1, y2, m, _, hl, t0, t1, t2⟩ := Go.Deep.trod_struct3 Try.underlying39 h
  rw [hc3] at hl
  simp only [hc2] at t0 t2
  simp only [hc1] at t1
  obtain ⟨x0, e0, _, w0⟩ := DataW.trod_string Try.underlying9 t0
  obtain ⟨x1, e1, _, _⟩ := DataW.trod_int Try.underlying2 t1
  obtain ⟨x2, e2, _, w2⟩ := DataW.trod_string Try.underlying9 t2
  have g0 := oneAtF e0
  have g1 := oneAtF e1
  have g2 := oneAtF e2
  unfold maxLen at w0 w2
  refine ⟨(x0, x1, x2), ?_, by simp only []; omega, by simp only []; omega⟩
  match cs, hl with
  | [c0, c1, c2], _ =>
    simp at g0 g1 g2
    rw [g0, g1, g2]
end Go.Proofs.Ytlgeoaepjghdhaa.Fl
