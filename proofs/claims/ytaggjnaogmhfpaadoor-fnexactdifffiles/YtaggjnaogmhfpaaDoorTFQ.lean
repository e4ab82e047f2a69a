/- The contract of impl.TextFault. No statement is proved here. -/
import Derived.Test.YtaggjnaogmhfpaaDoorIterQ
namespace Go.Proofs.YtaggjnaogmhfpaaDoor
open Go.RowKit Go.Shelf
attribute [local go_sem] Oper.semAt_some

/-- The fault of a text. -/
def tf (s : ByteArray) : Int := if 2000 < (s.size : Int) ∨ 100 < ((linesOf s).length : Int) then 2 else 0
theorem tf_many {s : ByteArray} (h : 2000 < (s.size : Int) ∨ 100 < ((linesOf s).length : Int)) : tf s = 2 := if_pos h
theorem tf_ok {s : ByteArray} (h : ¬ (2000 < (s.size : Int) ∨ 100 < ((linesOf s).length : Int))) : tf s = 0 := if_neg h
theorem lines_le (s : ByteArray) : (linesOf s).length ≤ s.size := by
  have := spl_length (s.data.toList.drop 0)
  unfold linesOf linesFrom
  rw [List.length_map]
  rw [List.drop_zero, size_eq] at this
  simpa using this
theorem cell_of_box {W : World} {B : Nat} {v : Value} {t : TypeId} (h : W.heap[B]? = some (.cells #[v] t (0, 0))) : W.cell? ⟨B, 0, none⟩ = some v ∧ W.frozen? ⟨B, 0, none⟩ = false := by
  constructor <;> simp [World.cell?, World.frozen?, h]
theorem cell_new (W : World) (v : Value) (t : TypeId) : (W.alloc (.cells #[v] t)).cell? ⟨W.heap.size, 0, none⟩ = some v ∧ (W.alloc (.cells #[v] t)).frozen? ⟨W.heap.size, 0, none⟩ = false :=
  cell_of_box (World.alloc_heap_new W _)
theorem cell_alloc' {W : World} {a : Addr} {v : Value} (o : Obj) (h : W.cell? a = some v) : (W.alloc o).cell? a = some v := cell_kept h (World.grownBy_alloc W o none) (fun r e => by cases e)
theorem frozen_alloc' {W : World} {a : Addr} {v : Value} (o : Obj) (h : W.cell? a = some v) (hf : W.frozen? a = false) : (W.alloc o).frozen? a = false := (frozen_kept h (World.grownBy_alloc W o none) (fun r e => by cases e)).trans hf

end Go.Proofs.YtaggjnaogmhfpaaDoor
