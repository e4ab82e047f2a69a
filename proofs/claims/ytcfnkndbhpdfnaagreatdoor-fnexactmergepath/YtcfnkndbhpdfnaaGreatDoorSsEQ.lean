/- The program's sorted list of texts: a text that is put behind all others, or that is the last one. No statement is proved here. -/
import Derived.Test.YtcfnkndbhpdfnaaGreatDoorSgCQ
import Derived.Test.YtcfnkndbhpdfnaaGreatDoorDiCQ
import Derived.Lib.BufferWrite
import Derived.Lib.SlBytesRow
import Derived.Laws.OwnMore
import Derived.Laws.CopyOwn
namespace Go.Proofs.YtcfnkndbhpdfnaaGreatDoor.En
open Go.ChangeShapes Go.WideShapes Go.ChangeAt Go.RowKit
structure ST (w : World) (b : Nat) (l : List ByteArray) (v : Value) : Prop where
 rf : Rf w b [.func (.func 109) #[] #[], v]
 own : w.ownsRow (b + 1) 9 1 v l.length (l.map Value.string)
 lt : b < w.heap.size
end Go.Proofs.YtcfnkndbhpdfnaaGreatDoor.En
namespace Go.Proofs.YtcfnkndbhpdfnaaGreatDoor.Ru
open Go.ChangeShapes Go.WideShapes Go.ChangeAt Go.RowKit
abbrev Ob := ByteArray × ByteArray
def onil : Ob := (ByteArray.empty, ByteArray.empty)
theorem ob_drop (l : List Ob) (k : Nat) (h : k < l.length) : l.drop k = l.getD k onil :: l.drop (k + 1) := by
 rw [List.drop_eq_getElem_cons h]; simp [List.getD, h]
theorem ob_take (l : List Ob) (k : Nat) (h : k < l.length) : l.take (k + 1) = l.take k ++ [l.getD k onil] := by
 rw [List.take_succ_eq_append_getElem h]; simp [List.getD, h]
def rowG (f : Nat -> Value) (m : Nat) : List Value := (List.range m).map f
theorem rowG_length (f : Nat -> Value) (m : Nat) : (rowG f m).length = m := by simp [rowG]
theorem rowG_at (f : Nat -> Value) (m j : Nat) (h : j < m) : (rowG f m)[j]? = some (f j) := by simp [rowG, h]
theorem rowG_congr {f g : Nat -> Value} {m : Nat} (h : ∀ j, j < m -> f j = g j) : rowG f m = rowG g m := by
 unfold rowG
 apply List.map_congr_left
 intro j hj
 exact h j (List.mem_range.1 hj)
theorem rowG_set (f : Nat -> Value) (m i : Nat) (v : Value) : (rowG f m).set i v = rowG (fun j => if j = i then v else f j) m := by
 apply List.ext_getElem?
 intro j
 by_cases hj : j < m
 ·rw [rowG_at _ _ _ hj]
  by_cases e : j = i
  ·subst e
   rw [List.getElem?_set_self (by rw [rowG_length]; exact hj), if_pos rfl]
  ·rw [List.getElem?_set_ne (by omega), rowG_at _ _ _ hj, if_neg e]
 ·rw [List.getElem?_eq_none (by rw [List.length_set, rowG_length]; omega), List.getElem?_eq_none (by rw [rowG_length]; omega)]
theorem rowG_append (f : Nat -> Value) (m n : Nat) : rowG f (m + n) = rowG f m ++ rowG (fun j => f (m + j)) n := by
 unfold rowG
 rw [List.range_add, List.map_append, List.map_map]
 rfl
def ocell (l : List Ob) (j : Nat) : Value :=
 if j % 2 = 0 then .string (l.getD (j / 2) onil).1 else .string (l.getD (j / 2) onil).2
theorem ocell0 (l : List Ob) (k : Nat) : ocell l (k * 2) = .string (l.getD k onil).1 := by
 unfold ocell; rw [if_pos (by omega), show k * 2 / 2 = k by omega]
theorem ocell1 (l : List Ob) (k : Nat) : ocell l (k * 2 + 1) = .string (l.getD k onil).2 := by
 unfold ocell; rw [if_neg (by omega), show (k * 2 + 1) / 2 = k by omega]
def ocells (l : List Ob) : List Value := rowG (ocell l) (l.length * 2)
theorem ocells_length (l : List Ob) : (ocells l).length = l.length * 2 := rowG_length _ _
def left1 (n : Int) (o : Ob) : Int := if n - o.1.size < 0 then -1 else if n - o.1.size - o.2.size < 0 then -1 else n - o.1.size - o.2.size
def leftOF : Int -> List Ob -> Int
 | n, [] => n
 | n, o :: t => if left1 n o < 0 then -1 else leftOF (left1 n o) t
def leftO (n : Int) (l : List Ob) : Int := if n - l.length < 0 then -1 else leftOF (n - l.length) l
theorem leftOF_stop {n : Int} {o : Ob} {t : List Ob} (h : left1 n o < 0) : leftOF n (o :: t) = -1 := by rw [leftOF, if_pos h]
theorem leftOF_go {n : Int} {o : Ob} {t : List Ob} (h : ¬ left1 n o < 0) : leftOF n (o :: t) = leftOF (left1 n o) t := by rw [leftOF, if_neg h]
def mixO (l : List Ob) (k j : Nat) : Value := if j < k * 2 then ocell l j else .string ⟨#[]⟩
theorem mixO_zero (l : List Ob) (m : Nat) : (madeCells (Value.agg #[.string ⟨#[]⟩, .string ⟨#[]⟩]).cells m).toList = rowG (mixO l 0) m := by
 apply List.ext_getElem?
 intro j
 by_cases hj : j < m
 ·rw [rowG_at _ _ _ hj]
  have h3 : j % 2 = 0 \/ j % 2 = 1 := by omega
  unfold mixO
  rw [if_neg (by omega)]
  rcases h3 with h | h <;> simp [madeCells, hj, Value.cells, h]
 ·have h0 : (rowG (mixO l 0) m)[j]? = none := List.getElem?_eq_none (by rw [rowG_length]; omega)
  rw [h0]
  simp [madeCells, hj]
theorem mixO_full (l : List Ob) : rowG (mixO l l.length) (l.length * 2) = ocells l := by
 apply rowG_congr
 intro j hj
 unfold mixO
 rw [if_pos hj]
end Go.Proofs.YtcfnkndbhpdfnaaGreatDoor.Ru
set_option linter.unusedVariables false
namespace Go.Proofs.YtcfnkndbhpdfnaaGreatDoor.Ru
open Go.RowKit
def leS (a b : ByteArray) : Bool := Op.bytesLess a.toList b.toList || a.toList == b.toList
end Go.Proofs.YtcfnkndbhpdfnaaGreatDoor.Ru
namespace Go.Proofs.YtcfnkndbhpdfnaaGreatDoor
open Go.ChangeShapes Go.WideShapes Go.ChangeAt Go.RowKit
def catL (ss : List ByteArray) : List UInt8 := ss.flatMap fun s => s.data.toList
def catB (ss : List ByteArray) : ByteArray := ⟨(catL ss).toArray⟩
theorem catL_length (ss : List ByteArray) : ((catL ss).length : Int) = tot ss := by
 unfold catL tot
 induction ss with
 | nil => simp
 | cons s ss ih => simp only [List.flatMap_cons, List.length_append, List.map_cons, List.sum_cons, <- ih]; simp
theorem catB_size (ss : List ByteArray) : ((catB ss).size : Int) = tot ss := by
 rw [<- catL_length]; rfl
theorem bytes_ext {a b : ByteArray} (h : a.data.toList = b.data.toList) : a = b := WideShapes.bytes_inj h
end Go.Proofs.YtcfnkndbhpdfnaaGreatDoor
set_option linter.unusedVariables false
namespace Go.Proofs.YtcfnkndbhpdfnaaGreatDoor.Jd
open Go.RowKit
theorem undBytes : Tryz.prog.underlying 102 = some (.slice 5) := Tryz.underlying102
end Go.Proofs.YtcfnkndbhpdfnaaGreatDoor.Jd
set_option linter.unusedVariables false
namespace Go.Proofs.YtcfnkndbhpdfnaaGreatDoor.Ru
open Go.RowKit
end Go.Proofs.YtcfnkndbhpdfnaaGreatDoor.Ru
namespace Go.Proofs.YtcfnkndbhpdfnaaGreatDoor.En
open Go.ChangeShapes Go.WideShapes Go.ChangeAt Go.RowKit
theorem obBelowAt {B b : Nat} {w w' : World} {a : Option Addr} {l : List Ob} (h : OB B w a l) (hb : Below b w w') (hB : B <= b) : OB B w' a l := fun k hk => by
 obtain ⟨g, off, e, hg, d0, d1, d2, d3⟩ := h k hk
 have q : g < b := by omega
 exact ⟨g, off, e, hg, (hb.cell (p := ⟨g, _, none⟩) q).trans d0, (hb.cell (p := ⟨g, _, none⟩) q).trans d1, (hb.cell (p := ⟨g, _, none⟩) q).trans d2, (hb.cell (p := ⟨g, _, none⟩) q).trans d3⟩
end Go.Proofs.YtcfnkndbhpdfnaaGreatDoor.En
