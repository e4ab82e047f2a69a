/- The contracts of ClashText (the program's and the specification's). No statement is proved here. -/
import Derived.Test.YtgincoiehbdphaaGreatDoorRtMQ
import Derived.Lib.OthersKept
namespace Go.Proofs.YtgincoiehbdphaaGreatDoor
open Go.ChangeShapes Go.WideShapes Go.ChangeAt Go.RowKit
def clashB (b o t : List ByteArray) : ByteArray := ⟨(clashL b o t).toArray⟩
def ctOK (x0 : Int) (x1 x2 x3 : List ByteArray) : Bool := decide (x0 = 4) && (decide (kd x1 x2 x3 = 4) && (wh x1 && (wh x2 && wh x3)))
end Go.Proofs.YtgincoiehbdphaaGreatDoor
namespace Go.Proofs.YtgincoiehbdphaaGreatDoor
open Go.ChangeShapes Go.WideShapes Go.ChangeAt Go.RowKit
def pts (c : Ck) : List ByteArray := if c.1 = 4 then [clashB c.2.1 c.2.2.1 c.2.2.2] else if c.1 = 2 then c.2.2.2 else c.2.2.1
def ptsA (l : List Ck) : List ByteArray := l.flatMap pts
def jnF : List ByteArray -> List UInt8
 | [] => []
 | [s] => s.data.toList
 | s :: t :: r => endL s ++ jnF (t :: r)
def jnK (ss : List ByteArray) (k : Nat) : List UInt8 := if k = ss.length then jnF ss else endAll (ss.take k)
theorem jnF_snoc : ∀ (ss : List ByteArray) (s : ByteArray), jnF (ss ++ [s]) = endAll ss ++ s.data.toList := by
 intro ss
 induction ss with
 | nil => intro s; rfl
 | cons a r ih =>
  intro s
  cases r with
  | nil => simp [jnF, endAll]
  | cons b r =>
   have e : (a :: b :: r) ++ [s] = a :: b :: (r ++ [s]) := rfl
   rw [e, jnF]
   have := ih s
   rw [List.cons_append] at this
   rw [this]
   simp [endAll]
theorem jnK_full (ss : List ByteArray) : jnK ss ss.length = jnF ss := if_pos rfl
theorem tot_snoc' (t : List ByteArray) (s : ByteArray) : tot (t ++ [s]) = tot t + (s.size : Int) := by
 have h := tot_take (t ++ [s]) t.length (by simp)
 have e1 : (t ++ [s]).take (t.length + 1) = t ++ [s] := List.take_of_length_le (by simp)
 have e2 : (t ++ [s]).take t.length = t := by simp
 have e3 : (t ++ [s]).getD t.length ByteArray.empty = s := by simp [List.getD]
 rw [e1, e2, e3] at h
 exact h
theorem jnK_len (ss : List ByteArray) (k : Nat) : ((jnK ss k).length : Int) <= tot ss + ss.length := by
 have h1 : ∀ n, ((endAll (ss.take n)).length : Int) <= tot (ss.take n) + (ss.take n).length := fun n => endAll_le _
 unfold jnK
 split
 ·cases e : ss with
  | nil => exact Int.le_of_eq rfl
  | cons a r =>
   obtain ⟨t, s, hs⟩ : ∃ t s, a :: r = t ++ [s] := ⟨(a :: r).dropLast, (a :: r).getLast (by simp), (List.dropLast_concat_getLast (by simp)).symm⟩
   rw [hs, jnF_snoc, List.length_append, tot_snoc', List.length_append]
   have := endAll_le t
   have h2 : (s.data.toList.length : Int) = s.size := by rw [Array.length_toList]; rfl
   simp only [List.length_singleton]
   omega
 ·have := h1 k
  have h2 := tot_split ss k
  have h3 := tot_nonneg (ss.drop k)
  have h4 : (ss.take k).length <= ss.length := by rw [List.length_take]; omega
  omega
end Go.Proofs.YtgincoiehbdphaaGreatDoor
namespace Go.Proofs.YtgincoiehbdphaaGreatDoor
open Go.ChangeShapes Go.WideShapes Go.ChangeAt Go.RowKit
theorem Res2.belowAt {w w' : World} {p B : Nat} {u v : Value} (h : Res2 w p u v) (hp : p < B) (hb : Below B w w') : Res2 w' p u v :=
 ⟨(hb.cell (p := ⟨p, 0, none⟩) hp).trans h.c0, (hb.cell (p := ⟨p, 1, none⟩) hp).trans h.c1, (hb.frozen (p := ⟨p, 0, none⟩) hp).trans h.f0, (hb.frozen (p := ⟨p, 1, none⟩) hp).trans h.f1⟩
end Go.Proofs.YtgincoiehbdphaaGreatDoor
