/- Plain mathematics of the text of a clash. No statement is proved here. -/
import Derived.Test.YtgincoiehbdphaaGreatDoorBldQ
import Derived.Test.YtgincoiehbdphaaGreatDoorCkBQ
import Derived.Test.YtgincoiehbdphaaGreatDoorIterQ
import Derived.Laws.Concat
namespace Go.Proofs.YtgincoiehbdphaaGreatDoor
open Go.RowKit
def endsL (l : List UInt8) : Bool := decide (l.getLast? = some 10)
def endL (s : ByteArray) : List UInt8 := if endsL s.data.toList = true then s.data.toList else s.data.toList ++ [10]
def endAll (ss : List ByteArray) : List UInt8 := ss.flatMap endL
theorem endL_le (s : ByteArray) : (endL s).length <= s.size + 1 := by
 unfold endL
 split <;> simp
theorem endAll_le (ss : List ByteArray) : ((endAll ss).length : Int) <= tot ss + ss.length := by
 induction ss with
 | nil => simp [endAll, tot]
 | cons s t ih =>
  have h1 := endL_le s
  have e1 : endAll (s :: t) = endL s ++ endAll t := by simp [endAll]
  have e2 : tot (s :: t) = (s.size : Int) + tot t := by simp [tot]
  rw [e1, e2, List.length_append, List.length_cons]
  omega
def wh (ss : List ByteArray) : Bool := ss.all fun s => okLine s.data.toList true
theorem wh_pos {ss : List ByteArray} (h : wh ss = true) : ∀ s ∈ ss, s.data.toList ≠ [] := fun s hs e => by
 have := List.all_eq_true.1 h s hs
 unfold okLine at this
 rw [if_pos e] at this
 cases this
def h1L : List UInt8 := [60, 60, 60, 60, 60, 60, 60, 10]
def h2L : List UInt8 := [124, 124, 124, 124, 124, 124, 124, 10]
def h3L : List UInt8 := [61, 61, 61, 61, 61, 61, 61, 10]
def h4L : List UInt8 := [62, 62, 62, 62, 62, 62, 62, 10]
def clashL (b o t : List ByteArray) : List UInt8 := h1L ++ endAll o ++ h2L ++ endAll b ++ h3L ++ endAll t ++ h4L
end Go.Proofs.YtgincoiehbdphaaGreatDoor
namespace Go.Proofs.YtgincoiehbdphaaGreatDoor
open Go.ChangeShapes Go.WideShapes Go.ChangeAt Go.RowKit
end Go.Proofs.YtgincoiehbdphaaGreatDoor
namespace Go.Proofs.YtgincoiehbdphaaGreatDoor.Rm
open Go.RowKit
def catL (ss : List ByteArray) : List UInt8 := ss.flatMap fun s => s.data.toList
def catB (ss : List ByteArray) : ByteArray := ⟨(catL ss).toArray⟩
theorem catL_take (ss : List ByteArray) (k : Nat) (h : k < ss.length) : catL (ss.take (k + 1)) = catL (ss.take k) ++ (ss.getD k ByteArray.empty).data.toList := by
 unfold catL
 rw [List.take_succ_eq_append_getElem h, List.flatMap_append, getD_at ss k h]
 simp
theorem catL_length (ss : List ByteArray) : ((catL ss).length : Int) = tot ss := by
 unfold catL tot
 induction ss with
 | nil => simp
 | cons s ss ih => simp only [List.flatMap_cons, List.length_append, List.map_cons, List.sum_cons, <- ih]; simp
theorem catB_size (ss : List ByteArray) : ((catB ss).size : Int) = tot ss := by
 rw [<- catL_length]; rfl
theorem spl_flatten (l : List UInt8) : (spl l).flatten = l := by
 induction l with
 | nil => rfl
 | cons c l ih =>
  rw [spl]
  by_cases hc : c = 10
  ·rw [if_pos hc]; simp [ih]
  ·rw [if_neg hc]
   cases h : spl l with
   | nil => rw [h] at ih; simp at ih; simp [<- ih]
   | cons x xs => rw [h] at ih; simp at ih ⊢; exact ih
theorem ok_feed (a : List UInt8) (b : Bool) (h : ¬ (10 : UInt8) ∈ a) : okLine (a ++ [10]) b = true := by
 have hi := indexByte_app a [] 10 h
 unfold okLine
 rw [if_neg (by simp), hi, if_neg (by omega)]
 simp
theorem ok_none (a : List UInt8) (h : ¬ (10 : UInt8) ∈ a) (h0 : a ≠ []) : okLine a true = true := by
 unfold okLine
 rw [if_neg h0, indexByte_none a 10 h, if_pos (by omega)]
def Right : List (List UInt8) -> Prop
 | [] => True
 | [x] => okLine x true = true
 | x :: y :: r => okLine x false = true /\ Right (y :: r)
theorem right_spl : ∀ (m : Nat) (l : List UInt8), l.length <= m -> Right (spl l) := by
 intro m
 induction m with
 | zero => intro l h; have : l = [] := List.length_eq_zero_iff.1 (by omega)
           rw [this]; trivial
 | succ m ih =>
  intro l h
  by_cases h0 : l = []
  ·rw [h0]; trivial
  ·by_cases hneg : Lib.indexByte l 10 < 0
   ·have hn : ¬ (10 : UInt8) ∈ l := fun hm => by have := (indexByte_mem l 10).2 hm; omega
    rw [spl_one l hn h0]
    exact ok_none l hn h0
   ·obtain ⟨i1, i2, i3⟩ := indexByte_split l 10 hneg
    have e : spl l = (l.take (Lib.indexByte l 10).toNat ++ [10]) :: spl (l.drop ((Lib.indexByte l 10).toNat + 1)) := by
     conv => lhs; rw [i2]
     exact spl_feed _ _ i1
    have hr := ih (l.drop ((Lib.indexByte l 10).toNat + 1)) (by rw [List.length_drop]; omega)
    rw [e]
    cases hs : spl (l.drop ((Lib.indexByte l 10).toNat + 1)) with
    | nil => exact ok_feed _ _ i1
    | cons y r => rw [hs] at hr; exact ⟨ok_feed _ _ i1, hr⟩
def dat (ss : List ByteArray) : List (List UInt8) := ss.map fun s => s.data.toList
theorem okAt_succ (s : ByteArray) (ss : List ByteArray) (i : Nat) : okAt (s :: ss) (i + 1) = okAt ss i := by
 unfold okAt
 have e : decide (((i + 1 : Nat) : Int) = ((s :: ss).length : Int) - 1) = decide ((i : Int) = (ss.length : Int) - 1) := by
  rw [decide_eq_decide]; simp only [List.length_cons]; omega
 rw [e]
 rfl
theorem right_iff : ∀ (ss : List ByteArray), (∀ i, i < ss.length -> okAt ss i = true) ↔ Right (dat ss)
 | [] => by simp [dat, Right]
 | [s] => by
  constructor
  ·intro h; exact h 0 (by simp)
  ·intro h i hi
   have : i = 0 := by simp at hi; omega
   subst this; exact h
 | s :: t :: r => by
  have ih := right_iff (t :: r)
  have e0 : okAt (s :: t :: r) 0 = okLine s.data.toList false := by
   unfold okAt
   rw [decide_eq_false (by simp only [List.length_cons]; omega)]
   rfl
  constructor
  ·intro h
   refine ⟨by have := h 0 (by simp); rw [e0] at this; exact this, ih.1 fun i hi => ?_⟩
   have := h (i + 1) (by simp at hi ⊢; omega)
   rwa [okAt_succ] at this
  ·rintro ⟨h1, h2⟩ i hi
   cases i with
   | zero => rw [e0]; exact h1
   | succ i => rw [okAt_succ]; exact ih.2 h2 i (by simp at hi ⊢; omega)
theorem allOk_iff (ss : List ByteArray) : allOk ss ss.length = true ↔ Right (dat ss) := by
 rw [<- right_iff]
 unfold allOk
 rw [List.all_eq_true]
 simp only [List.mem_range]
theorem catL_dat (ss : List ByteArray) : catL ss = (dat ss).flatten := by unfold catL dat; rw [List.flatMap_def]
theorem dat_lines (s : ByteArray) : dat (linesOf s) = spl s.data.toList := by
 unfold dat linesOf linesFrom
 rw [List.map_map]
 conv => rhs; rw [<- List.map_id (spl s.data.toList)]
 rw [List.drop_zero]
 exact List.map_congr_left fun l _ => mkB_data l
theorem join_lines (s : ByteArray) : catB (linesOf s) = s := by
 apply WideShapes.bytes_inj
 show catL (linesOf s) = _
 rw [catL_dat, dat_lines, spl_flatten]
theorem lf_lines {s : ByteArray} (h : tf s = 0) : lf (linesOf s) = 0 := by
 have hm : ¬ (2000 < (s.size : Int) \/ 100 < ((linesOf s).length : Int)) := by
  intro hm
  rw [tf_many hm] at h
  cases h
 have ht : tot (linesOf s) = s.size := by rw [<- catB_size, join_lines]
 refine lf_ok (by omega) ?_
 rw [allOk_iff, dat_lines]
 exact right_spl _ _ (Nat.le_refl _)
end Go.Proofs.YtgincoiehbdphaaGreatDoor.Rm
