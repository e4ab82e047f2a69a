/- An argument that is a hunk, or a list of hunks, opened. No statement is proved here. -/
import Derived.Test.YtdfoponekgifkaaDoorRows
import Derived.Test.YtdfoponekgifkaaDoorLem
import Derived.Test.YtdfoponekgifkaaDoorStrs
import Derived.Test.YtdfoponekgifkaaDoorDTab
import Derived.Test.YtdfoponekgifkaaDoorFr
import Derived.WalkKit
import Derived.ProofKit
import Derived.Deep.Strs
import Derived.SliceStrings
namespace Go.Proofs.YtdfoponekgifkaaDoor
open Go.ChangeShapes Go.WideShapes Go.ChangeAt Go.RowKit

theorem oneOfTake {cs : List Value} {k : Nat} {v : Value} (h : (cs.drop k).take 1 = [v]) : cs[k]? = some v := by
  have := congrArg (fun l => l[0]?) h
  simpa [List.getElem?_take, List.getElem?_drop] using this
theorem openHk {H : Type} {enc : TypeId × Value → H} {W : World} {n : Nat} {cs : List Value} {y : DataW H × List MemPlace}
    (h : DataW.trod enc Tryd.prog W 0 (fun _ => true) true n 41 cs = some y) (hlt : ∀ x ∈ y.2, x.block < W.heap.size) :
    ∃ x0 x1 a cap ss, cs = [.int .i64 x0, .int .i64 x1, .slice a ss.length cap] ∧ SS W a ss ∧ ss.length ≤ 9223372036854775807 := by
  have hc1 : Tryd.prog.cellsOf 2 = 1 := by kernel_rfl
  have hc2 : Tryd.prog.cellsOf 39 = 1 := by kernel_rfl
  have hc3 : Tryd.prog.cellsOf 41 = 3 := by kernel_rfl
  obtain ⟨y0, y1, y2, m, rfl, hl, t0, t1, t2⟩ := Go.Deep.trod_struct3 Tryd.underlying41 h
  rw [hc3] at hl
  simp only [hc1] at t0 t1
  simp only [hc2] at t2
  obtain ⟨x0, e0, _, w0⟩ := DataW.trod_int Tryd.underlying2 t0
  obtain ⟨x1, e1, _, w1⟩ := DataW.trod_int Tryd.underlying2 t1
  have g0 := oneOfTake e0
  have g1 := oneOfTake e1
  obtain ⟨a, len, cap, e2⟩ : ∃ a len cap, (cs.drop 2).take 1 = [.slice a len cap] := by
    rcases open_strings Tryd.underlying39 Tryd.underlying9 (by kernel_rfl) t2 with ⟨hcs, _⟩ | ⟨x, l, c, ss, hcs, _⟩
    · exact ⟨_, _, _, hcs⟩
    · exact ⟨_, _, _, hcs⟩
  have g2 := oneOfTake e2
  obtain ⟨ss, rfl, hS, hn⟩ := openSS (enc := enc) (W := W) (a := a) (len := len) (cap := cap) (d := y2.1) (p := y2.2) ⟨m, by
    show DataW.trod enc Tryd.prog W 0 (fun _ => true) true m 39 [.slice a len cap] = some y2
    rw [← e2]; exact t2⟩ (fun x hx => hlt x (by simp [hx]))
  refine ⟨x0, x1, a, cap, ss, ?_, hS, hn⟩
  match cs, hl with
  | [c0, c1, c2], _ =>
    simp at g0 g1 g2
    rw [g0, g1, g2]

end Go.Proofs.YtdfoponekgifkaaDoor
