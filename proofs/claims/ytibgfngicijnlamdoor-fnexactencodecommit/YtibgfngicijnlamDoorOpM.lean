/- An argument that is a commit, opened. No statement is proved here. -/
import Derived.Test.YtibgfngicijnlamDoorRows
import Derived.Test.YtibgfngicijnlamDoorLem
import Derived.Test.YtibgfngicijnlamDoorStrs
import Derived.Test.YtibgfngicijnlamDoorDTab
import Derived.Test.YtibgfngicijnlamDoorFr
import Derived.WalkKit
import Derived.ProofKit
import Derived.Deep.Strs
import Derived.SliceStrings
import Derived.Lib.SmallJoins
namespace Go.Proofs.YtibgfngicijnlamDoor.Cm
open Go.ChangeShapes Go.WideShapes Go.ChangeAt Go.RowKit

theorem oneOfTake {cs : List Value} {k : Nat} {v : Value} (h : (cs.drop k).take 1 = [v]) : cs[k]? = some v := by
  have := congrArg (fun l => l[0]?) h
  simpa [List.getElem?_take, List.getElem?_drop] using this
theorem openCm {H : Type} {enc : TypeId × Value → H} {W : World} {n : Nat} {cs : List Value} {y : DataW H × List MemPlace}
    (h : DataW.trod enc Tryd.prog W 0 (fun _ => true) true n 24 cs = some y) (hlt : ∀ x ∈ y.2, x.block < W.heap.size) :
    ∃ (t no : ByteArray) (tm : Int) (a : Option Addr) (cap : Nat) (ss : List ByteArray), cs = [.string t, .slice a ss.length cap, .int .i64 tm, .string no] ∧ SS W a ss ∧ ss.length ≤ 9223372036854775807 ∧ t.size ≤ 9223372036854775807 ∧ no.size ≤ 9223372036854775807 := by
  have hc1 : Tryd.prog.cellsOf 2 = 1 := by kernel_rfl
  have hc2 : Tryd.prog.cellsOf 22 = 1 := by kernel_rfl
  have hc0 : Tryd.prog.cellsOf 9 = 1 := by kernel_rfl
  have hc3 : Tryd.prog.cellsOf 24 = 4 := by kernel_rfl
  obtain ⟨y0, y1, y2, y3, m, rfl, hl, t0, t1, t2, t3⟩ := Go.Joins.trod_struct4 Tryd.underlying24 h
  rw [hc3] at hl
  simp only [hc0, hc1, hc2] at t0 t1 t2 t3
  obtain ⟨x0, e0, _, w0⟩ := DataW.trod_string Tryd.underlying9 t0
  obtain ⟨x2, e2, _, _⟩ := DataW.trod_int Tryd.underlying2 t2
  obtain ⟨x3, e3, _, w3⟩ := DataW.trod_string Tryd.underlying9 t3
  have g0 := oneOfTake e0
  have g2 := oneOfTake e2
  have g3 := oneOfTake e3
  obtain ⟨a, len, cap, e1⟩ : ∃ a len cap, (cs.drop 1).take 1 = [.slice a len cap] := by
    rcases open_strings Tryd.underlying22 Tryd.underlying9 (by kernel_rfl) t1 with ⟨hcs, _⟩ | ⟨x, l, c, ss, hcs, _⟩
    · exact ⟨_, _, _, hcs⟩
    · exact ⟨_, _, _, hcs⟩
  have g1 := oneOfTake e1
  obtain ⟨ss, rfl, hS, hn⟩ := openSS (enc := enc) (W := W) (a := a) (len := len) (cap := cap) (d := y1.1) (p := y1.2) ⟨m, by
    show DataW.trod enc Tryd.prog W 0 (fun _ => true) true m 22 [.slice a len cap] = some y1
    rw [← e1]; exact t1⟩ (fun x hx => hlt x (by simp [hx]))
  unfold maxLen at w0 w3
  refine ⟨x0, x3, x2, a, cap, ss, ?_, hS, hn, by omega, by omega⟩
  match cs, hl with
  | [c0, c1, c2, c3], _ =>
    simp at g0 g1 g2 g3
    rw [g0, g1, g2, g3]

end Go.Proofs.YtibgfngicijnlamDoor.Cm
