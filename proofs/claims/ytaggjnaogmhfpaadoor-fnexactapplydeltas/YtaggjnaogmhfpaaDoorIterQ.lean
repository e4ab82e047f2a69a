/- The iterator over the lines of a text (impl.linesIn): its contract. No statement is proved here. -/
import Derived.RangeFuncNested
import Derived.RangeFuncBound
import Derived.RangeFuncCalls
import Derived.RangeFuncLeaves
import Derived.RangeFuncBox
import Derived.Shelf.Abstract
import Derived.Shelf.RegionOpen
import Derived.WalkKit
import Derived.OwnWalkIn
import Derived.TacticsInMore
import Derived.LoopNIn
import Derived.LoopIn
import Derived.WalkSpells
import Derived.Test.YtaggjnaogmhfpaaDoorRows
import Derived.Test.YtaggjnaogmhfpaaDoorLemQ
import Derived.Test.YtaggjnaogmhfpaaDoorIdxBQ
namespace Go.Proofs.YtaggjnaogmhfpaaDoor
open Go.RowKit Go.Shelf
attribute [local go_sem] Oper.semAt_some

/-- A round keeps the block in which the text is boxed. -/
def KeepB (Bn : Nat) (W W' : World) : Prop := W'.heap[Bn]? = W.heap[Bn]?
theorem keepB_t {Bn : Nat} {A B C : World} (h : KeepB Bn A B) (k : KeepB Bn B C) : KeepB Bn A C := Eq.trans k h
theorem keepB_b {Bn : Nat} {w : World} (hB : Bn < w.heap.size) (W : World) (l : Nat) (o o' : Obj) (hl : w.heap.size ≤ l) (_ : W.heap[l]? = some o) (_ : o.isCells = false) (_ : o.isWalk = false) : KeepB Bn W (W.putObj l o') := by
  unfold KeepB
  exact World.putObj_heap_other (by omega)

/-- Texts that are not too long: what the iterator hands on. -/
abbrev Sm : Type := { x : ByteArray // x.size ≤ 1048576 }
def unS (l : List Sm) : List ByteArray := l.map (·.1)
end Go.Proofs.YtaggjnaogmhfpaaDoor
/- The contract of impl.TextFault. No statement is proved here. -/
namespace Go.Proofs.YtaggjnaogmhfpaaDoor
open Go.RowKit Go.Shelf
attribute [local go_sem] Oper.semAt_some

/-- The fault of a text. -/
def tf (s : ByteArray) : Int := if 2000 < (s.size : Int) ∨ 100 < ((linesOf s).length : Int) then 2 else 0
theorem tf_many {s : ByteArray} (h : 2000 < (s.size : Int) ∨ 100 < ((linesOf s).length : Int)) : tf s = 2 := if_pos h
theorem tf_ok {s : ByteArray} (h : ¬ (2000 < (s.size : Int) ∨ 100 < ((linesOf s).length : Int))) : tf s = 0 := if_neg h
theorem lines_le (s : ByteArray) : (linesOf s).length ≤ s.size := by
  have := spl_length (s.data.toList.drop 0)
  unfold linesOf linesFrom
  rw [List.length_map]
  rw [List.drop_zero, size_eq] at this
  simpa using this
theorem cell_of_box {W : World} {B : Nat} {v : Value} {t : TypeId} (h : W.heap[B]? = some (.cells #[v] t (0, 0))) : W.cell? ⟨B, 0, none⟩ = some v ∧ W.frozen? ⟨B, 0, none⟩ = false := by
  constructor <;> simp [World.cell?, World.frozen?, h]
theorem cell_new (W : World) (v : Value) (t : TypeId) : (W.alloc (.cells #[v] t)).cell? ⟨W.heap.size, 0, none⟩ = some v ∧ (W.alloc (.cells #[v] t)).frozen? ⟨W.heap.size, 0, none⟩ = false :=
  cell_of_box (World.alloc_heap_new W _)
theorem cell_alloc' {W : World} {a : Addr} {v : Value} (o : Obj) (h : W.cell? a = some v) : (W.alloc o).cell? a = some v := cell_kept h (World.grownBy_alloc W o none) (fun r e => by cases e)
theorem frozen_alloc' {W : World} {a : Addr} {v : Value} (o : Obj) (h : W.cell? a = some v) (hf : W.frozen? a = false) : (W.alloc o).frozen? a = false := (frozen_kept h (World.grownBy_alloc W o none) (fun r e => by cases e)).trans hf

end Go.Proofs.YtaggjnaogmhfpaaDoor
