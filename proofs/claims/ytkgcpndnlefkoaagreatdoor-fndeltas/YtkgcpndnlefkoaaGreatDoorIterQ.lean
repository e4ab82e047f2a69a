/- The iterator over the lines of a text (impl.linesIn): its contract. No statement is proved here. -/
import Derived.RangeFuncNested
import Derived.RangeFuncBound
import Derived.RangeFuncCalls
import Derived.RangeFuncLeaves
import Derived.RangeFuncBox
import Derived.Shelf.Abstract
import Derived.Shelf.RegionOpen
import Derived.WalkKit
import Derived.OwnWalkIn
import Derived.TacticsInMore
import Derived.LoopNIn
import Derived.LoopIn
import Derived.WalkSpells
import Derived.Test.YtkgcpndnlefkoaaGreatDoorRows
import Derived.Test.YtkgcpndnlefkoaaGreatDoorLemQ
import Derived.Test.YtkgcpndnlefkoaaGreatDoorLFLemQ
import Derived.ProofKit
import Derived.Below
import Derived.Maps.AppendAt
namespace Go.Proofs.YtkgcpndnlefkoaaGreatDoor
open Go.RowKit Go.Shelf
attribute [local go_sem] Oper.semAt_some

/-- A round keeps the block in which the text is boxed. -/
def KeepB (Bn : Nat) (W W' : World) : Prop := W'.heap[Bn]? = W.heap[Bn]?
theorem keepB_t {Bn : Nat} {A B C : World} (h : KeepB Bn A B) (k : KeepB Bn B C) : KeepB Bn A C := Eq.trans k h
theorem keepB_b {Bn : Nat} {w : World} (hB : Bn < w.heap.size) (W : World) (l : Nat) (o o' : Obj) (hl : w.heap.size ≤ l) (_ : W.heap[l]? = some o) (_ : o.isCells = false) (_ : o.isWalk = false) : KeepB Bn W (W.putObj l o') := by
  unfold KeepB
  exact World.putObj_heap_other (by omega)

/-- Texts that are not too long: what the iterator hands on. -/
abbrev Sm : Type := { x : ByteArray // x.size ≤ 1048576 }
def unS (l : List Sm) : List ByteArray := l.map (·.1)
end Go.Proofs.YtkgcpndnlefkoaaGreatDoor
/- The contract of impl.TextFault. No statement is proved here. -/
namespace Go.Proofs.YtkgcpndnlefkoaaGreatDoor
open Go.RowKit Go.Shelf
attribute [local go_sem] Oper.semAt_some

/-- The fault of a text. -/
def tf (s : ByteArray) : Int := if 2000 < (s.size : Int) ∨ 100 < ((linesOf s).length : Int) then 2 else 0
theorem tf_many {s : ByteArray} (h : 2000 < (s.size : Int) ∨ 100 < ((linesOf s).length : Int)) : tf s = 2 := if_pos h
theorem tf_ok {s : ByteArray} (h : ¬ (2000 < (s.size : Int) ∨ 100 < ((linesOf s).length : Int))) : tf s = 0 := if_neg h
theorem lines_le (s : ByteArray) : (linesOf s).length ≤ s.size := by
  have := spl_length (s.data.toList.drop 0)
  unfold linesOf linesFrom
  rw [List.length_map]
  rw [List.drop_zero, size_eq] at this
  simpa using this
theorem cell_of_box {W : World} {B : Nat} {v : Value} {t : TypeId} (h : W.heap[B]? = some (.cells #[v] t (0, 0))) : W.cell? ⟨B, 0, none⟩ = some v ∧ W.frozen? ⟨B, 0, none⟩ = false := by
  constructor <;> simp [World.cell?, World.frozen?, h]
theorem cell_new (W : World) (v : Value) (t : TypeId) : (W.alloc (.cells #[v] t)).cell? ⟨W.heap.size, 0, none⟩ = some v ∧ (W.alloc (.cells #[v] t)).frozen? ⟨W.heap.size, 0, none⟩ = false :=
  cell_of_box (World.alloc_heap_new W _)
theorem cell_alloc' {W : World} {a : Addr} {v : Value} (o : Obj) (h : W.cell? a = some v) : (W.alloc o).cell? a = some v := cell_kept h (World.grownBy_alloc W o none) (fun r e => by cases e)
theorem frozen_alloc' {W : World} {a : Addr} {v : Value} (o : Obj) (h : W.cell? a = some v) (hf : W.frozen? a = false) : (W.alloc o).frozen? a = false := (frozen_kept h (World.grownBy_alloc W o none) (fun r e => by cases e)).trans hf

end Go.Proofs.YtkgcpndnlefkoaaGreatDoor
/- The contracts of spec.l1Split and spec.TextFault. No statement is proved here. -/
namespace Go.Proofs.YtkgcpndnlefkoaaGreatDoor
open Go.ChangeShapes Go.WideShapes Go.ChangeAt Go.RowKit

theorem byte_at (s : ByteArray) (k : Nat) (h : k < s.size) : s.data.toList[k]'(by rw [size_eq]; exact h) = s[k] := rfl
theorem byte_ten {c : UInt8} (h : ((c.toNat : Int) == 10) = true) : c = 10 := by
  apply UInt8.toNat_inj.1
  have := of_decide_eq_true h
  have h2 : (10 : UInt8).toNat = 10 := rfl
  omega
theorem byte_not_ten {c : UInt8} (h : ((c.toNat : Int) == 10) = false) : ¬ c = 10 := by
  intro e
  rw [e] at h
  exact absurd h (by decide)
/-- The bytes from fr up to k. -/
def seg (s : ByteArray) (fr k : Nat) : List UInt8 := (s.data.toList.drop fr).take (k - fr)
theorem seg_snoc (s : ByteArray) (fr k : Nat) (h1 : fr ≤ k) (h : k < s.size) : seg s fr (k + 1) = seg s fr k ++ [s[k]] := by
  unfold seg
  have hl : k - fr < (s.data.toList.drop fr).length := by rw [List.length_drop, size_eq]; omega
  have e : k + 1 - fr = (k - fr) + 1 := by omega
  rw [e, List.take_succ_eq_append_getElem hl, List.getElem_drop]
  congr 2
  rw [← byte_at s k h]
  congr 1
  omega
theorem endOf_at (s : ByteArray) (fr k : Nat) (h1 : fr ≤ k) (h : k < s.size) (hn : ¬ (10 : UInt8) ∈ seg s fr k) (hc : s[k] = 10) : endOf s fr = k + 1 := by
  have hl : k - fr < (s.data.toList.drop fr).length := by rw [List.length_drop, size_eq]; omega
  have hsp : s.data.toList.drop fr = seg s fr k ++ (10 : UInt8) :: (s.data.toList.drop fr).drop (k - fr + 1) := by
    conv => lhs; rw [← List.take_append_drop (k - fr) (s.data.toList.drop fr), List.drop_eq_getElem_cons hl]
    unfold seg
    congr 2
    rw [List.getElem_drop, ← hc, ← byte_at s k h]
    congr 1
    omega
  have hi : Lib.indexByte (s.data.toList.drop fr) 10 = (k - fr : Nat) := by
    rw [hsp, indexByte_app _ _ _ hn]
    unfold seg
    rw [List.length_take]
    omega
  unfold endOf
  rw [hi, if_neg (by omega)]
  omega
theorem endOf_last (s : ByteArray) (fr : Nat) (hn : ¬ (10 : UInt8) ∈ seg s fr s.size) : endOf s fr = s.size := by
  have e : seg s fr s.size = s.data.toList.drop fr := by
    unfold seg
    rw [List.take_of_length_le (by rw [List.length_drop, size_eq]; exact Nat.le_refl _)]
  rw [e] at hn
  unfold endOf
  rw [indexByte_none _ _ hn, if_pos (by omega)]
theorem lines_small (s : ByteArray) (hs : s.size ≤ 1048576) : ∀ k, k < (linesOf s).length → ((linesOf s).getD k ByteArray.empty).size ≤ 9223372036854775807 := by
  have key : ∀ m fr, s.size - fr ≤ m → ∀ x ∈ linesFrom s fr, x.size ≤ 1048576 := by
    intro m
    induction m with
    | zero => intro fr h x hx; rw [linesFrom_end s fr (by omega)] at hx; cases hx
    | succ m ih =>
      intro fr h x hx
      by_cases hlt : fr < s.size
      · rw [linesFrom_step s fr hlt] at hx
        have := endOf_bd s fr hlt
        rcases List.mem_cons.1 hx with rfl | hx
        · exact Nat.le_trans (extract_size_le _ _ _) hs
        · exact ih (endOf s fr) (by omega) x hx
      · rw [linesFrom_end s fr (by omega)] at hx; cases hx
  intro k hk
  rw [getD_at _ k hk]
  have := key s.size 0 (by omega) _ (List.getElem_mem hk)
  exact Nat.le_trans this (by omega)

/-- A row of strings that is owned, as a slice that reads as them. -/
theorem SS_of_row {w' : World} {base n : Nat} {v : Value} {ss : List ByteArray} (h : w'.ownsRow base 9 1 v n (ss.map Value.string)) (hn : n = ss.length)
    (hz : ∀ k, k < ss.length → (ss.getD k ByteArray.empty).size ≤ 9223372036854775807) : ∃ a cap, v = .slice a ss.length cap ∧ SS w' a ss ∧ (a = none → ss = []) := by
  rcases h.2 with ⟨h', h0⟩ | ⟨g, cap, cur, h', hb, hg, _⟩
  · have e : ss = [] := List.length_eq_zero_iff.1 (by omega)
    exact ⟨none, 0, by rw [h', e]; rfl, ⟨hz, fun k hk => by rw [e] at hk; exact absurd hk (Nat.not_lt_zero _)⟩, fun _ => e⟩
  · refine ⟨some ⟨g, 0, none⟩, cap, by rw [h', hn], ⟨hz, fun k hk => ⟨g, 0, rfl, (Array.getElem?_eq_some_iff.1 hg).1, ?_⟩⟩, fun e => by cases e⟩
    rw [h'] at h
    rw [Nat.zero_add, h.cellAt k (by omega), getD_at ss k hk]; simp [hk]

end Go.Proofs.YtkgcpndnlefkoaaGreatDoor
