/- Small words for what stays as it was: structs of two cells, slices of strings below a block. No statement is proved here. -/
import Derived.Test.YthgoimdlhgdnoaaRows
import Derived.Test.YthgoimdlhgdnoaaLem
import Derived.Test.YthgoimdlhgdnoaaStrs
import Derived.Test.YthgoimdlhgdnoaaMarks
import Derived.Test.YthgoimdlhgdnoaaSpl
namespace Go.Proofs.Ythgoimdlhgdnoaa
open Go.RowKit

theorem alloc_below (w : World) (o : Obj) : Below w.heap.size w (w.alloc o) := (Below.refl _ _).alloc (Nat.le_refl _) _
/-- The cells of a struct of two cells that a variable holds. -/
def Two (w : World) (p : Nat) (u v : Value) : Prop := w.cell? ⟨p, 0, none⟩ = some u ∧ w.cell? ⟨p, 1, none⟩ = some v
theorem Two.new (w : World) (u v : Value) (t : TypeId) : Two (w.alloc (.cells #[u, v] t)) w.heap.size u v := ⟨by simp, by simp⟩
theorem Two.grown {w w' : World} {row : Option Nat} {p : Nat} {u v : Value} (h : Two w p u v) (hg : w.grownBy w' row) (hr : some p ≠ row) : Two w' p u v := ⟨hg.cell h.1 hr, hg.cell h.2 hr⟩
theorem Two.below {w w' : World} {p : Nat} {u v : Value} (h : Two w p u v) (hb : Below w.heap.size w w') : Two w' p u v := h.grown (grown_of_below hb none) (by simp)
theorem Two.alloc {w : World} {p : Nat} {u v : Value} (h : Two w p u v) (o : Obj) : Two (w.alloc o) p u v := h.below (alloc_below _ _)
theorem SS_row {w : World} {base cap : Nat} {a : Option Addr} {ss : List ByteArray} (h : w.ownsRow base 9 1 (.slice a ss.length cap) ss.length (ss.map Value.string)) (hz : ∀ k, k < ss.length → (ss.getD k ByteArray.empty).size ≤ 9223372036854775807) : SS w a ss := by
  obtain ⟨a', cap', e, hS, _⟩ := SS_of_row h rfl hz
  simp only [Value.slice.injEq] at e
  obtain ⟨rfl, _⟩ := e
  exact hS
end Go.Proofs.Ythgoimdlhgdnoaa
