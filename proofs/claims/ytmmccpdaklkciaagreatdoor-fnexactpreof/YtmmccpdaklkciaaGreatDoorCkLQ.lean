/- Plain mathematics of chunks, and chunks in memory: their cells, who owns them, and what is left of a size. No statement is proved here. -/
import Derived.Test.YtmmccpdaklkciaaGreatDoorRows
import Derived.Test.YtmmccpdaklkciaaGreatDoorLemQ
import Derived.Test.YtmmccpdaklkciaaGreatDoorLFLemQ
import Derived.Test.YtmmccpdaklkciaaGreatDoorDTabQ
import Derived.WalkKit
import Derived.ProofKit
import Derived.Below
namespace Go.Proofs.YtmmccpdaklkciaaGreatDoor
open Go.ChangeShapes Go.WideShapes Go.ChangeAt Go.RowKit

/-- A chunk: Kind, Base, Ours, Theirs. -/
abbrev Ck := Int × List ByteArray × List ByteArray × List ByteArray
def cnil : Ck := (0, [], [], [])
/-- The kind that lines have. -/
def kd (b o t : List ByteArray) : Int := if eqB b o = true then (if eqB b t = true then 0 else 2) else if eqB b t = true then 1 else if eqB o t = true then 3 else 4
theorem kd_same {b o t : List ByteArray} (h1 : eqB b o = true) (h2 : eqB b t = true) : kd b o t = 0 := by unfold kd; rw [if_pos h1, if_pos h2]
theorem kd_theirs {b o t : List ByteArray} (h1 : eqB b o = true) (h2 : eqB b t = false) : kd b o t = 2 := by unfold kd; rw [if_pos h1, if_neg (by rw [h2]; exact Bool.false_ne_true)]
theorem kd_ours {b o t : List ByteArray} (h1 : eqB b o = false) (h2 : eqB b t = true) : kd b o t = 1 := by unfold kd; rw [if_neg (by rw [h1]; exact Bool.false_ne_true), if_pos h2]
theorem kd_both {b o t : List ByteArray} (h1 : eqB b o = false) (h2 : eqB b t = false) (h3 : eqB o t = true) : kd b o t = 3 := by unfold kd; rw [if_neg (by rw [h1]; exact Bool.false_ne_true), if_neg (by rw [h2]; exact Bool.false_ne_true), if_pos h3]
theorem kd_clash {b o t : List ByteArray} (h1 : eqB b o = false) (h2 : eqB b t = false) (h3 : eqB o t = false) : kd b o t = 4 := by unfold kd; rw [if_neg (by rw [h1]; exact Bool.false_ne_true), if_neg (by rw [h2]; exact Bool.false_ne_true), if_neg (by rw [h3]; exact Bool.false_ne_true)]
theorem kd_bd (b o t : List ByteArray) : 0 ≤ kd b o t ∧ kd b o t ≤ 4 := by unfold kd; split <;> split <;> (try split) <;> omega
/-- The lines of one side. -/
def sd (i : Nat) (c : Ck) : List ByteArray := if i = 0 then c.2.1 else if i = 1 then c.2.2.1 else c.2.2.2
theorem sd0 (c : Ck) : sd 0 c = c.2.1 := rfl
theorem sd1 (c : Ck) : sd 1 c = c.2.2.1 := rfl
theorem sd2 (c : Ck) : sd 2 c = c.2.2.2 := rfl
/-- Nothing is in a chunk. -/
def bare (c : Ck) : Bool := decide (c.2.1.length = 0 ∧ c.2.2.1.length = 0 ∧ c.2.2.2.length = 0)
/-- The code of one chunk. -/
def ck1 (c : Ck) : Int := if inB c.1 0 4 = false then 3 else if ¬ kd c.2.1 c.2.2.1 c.2.2.2 = c.1 then 1 else if bare c = true then 1 else 0
theorem ck1_range {c : Ck} (h : inB c.1 0 4 = false) : ck1 c = 3 := if_pos h
theorem ck1_kind {c : Ck} (h : inB c.1 0 4 = true) (k : ¬ kd c.2.1 c.2.2.1 c.2.2.2 = c.1) : ck1 c = 1 := by unfold ck1; rw [if_neg (by rw [h]; decide), if_pos k]
theorem ck1_bare {c : Ck} (h : inB c.1 0 4 = true) (k : bare c = true) : ck1 c = 1 := by unfold ck1; rw [if_neg (by rw [h]; decide), if_pos k]; split <;> rfl
theorem ck1_ok {c : Ck} (h : inB c.1 0 4 = true) (k : kd c.2.1 c.2.2.1 c.2.2.2 = c.1) (b : bare c = false) : ck1 c = 0 := by unfold ck1; rw [if_neg (by rw [h]; decide), if_neg (by simp [k]), if_neg (by rw [b]; decide)]
/-- The first code among chunks. -/
def ckF : List Ck → Int
  | [] => 0
  | c :: t => if ck1 c = 0 then ckF t else ck1 c
theorem ckF_stop {c : Ck} {t : List Ck} {v : Int} (e : ck1 c = v) (hv : ¬ v = 0) : ckF (c :: t) = v := by rw [ckF, e, if_neg hv]
theorem ckF_go {c : Ck} {t : List Ck} (e : ck1 c = 0) : ckF (c :: t) = ckF t := by rw [ckF, if_pos e]
/-- The lines of one side of all chunks. -/
def sideL (i : Nat) (l : List Ck) : List ByteArray := (l.map (sd i)).flatten
theorem sideL_take (i : Nat) (l : List Ck) (k : Nat) (h : k < l.length) : sideL i (l.take (k + 1)) = sideL i (l.take k) ++ sd i (l.getD k cnil) := by
  unfold sideL
  rw [List.take_succ_eq_append_getElem h, List.map_append, List.flatten_append]
  simp [List.getD, h]
def cf (l : List Ck) : Int := if 201 < (l.length : Int) then 2 else if ¬ ckF l = 0 then ckF l else if ¬ lf (sideL 0 l) = 0 then lf (sideL 0 l) else if ¬ lf (sideL 1 l) = 0 then lf (sideL 1 l) else lf (sideL 2 l)
theorem cf_many {l : List Ck} (h : 201 < (l.length : Int)) : cf l = 2 := if_pos h
theorem cf_one {l : List Ck} (h : ¬ 201 < (l.length : Int)) (k : ¬ ckF l = 0) : cf l = ckF l := by unfold cf; rw [if_neg h, if_pos k]
theorem cf_0 {l : List Ck} (h : ¬ 201 < (l.length : Int)) (k : ckF l = 0) (e : ¬ lf (sideL 0 l) = 0) : cf l = lf (sideL 0 l) := by unfold cf; rw [if_neg h, if_neg (by simp [k]), if_pos e]
theorem cf_1 {l : List Ck} (h : ¬ 201 < (l.length : Int)) (k : ckF l = 0) (e : lf (sideL 0 l) = 0) (f : ¬ lf (sideL 1 l) = 0) : cf l = lf (sideL 1 l) := by unfold cf; rw [if_neg h, if_neg (by simp [k]), if_neg (by simp [e]), if_pos f]
theorem cf_2 {l : List Ck} (h : ¬ 201 < (l.length : Int)) (k : ckF l = 0) (e : lf (sideL 0 l) = 0) (f : lf (sideL 1 l) = 0) : cf l = lf (sideL 2 l) := by unfold cf; rw [if_neg h, if_neg (by simp [k]), if_neg (by simp [e]), if_neg (by simp [f])]
theorem ck_drop (l : List Ck) (k : Nat) (h : k < l.length) : l.drop k = l.getD k cnil :: l.drop (k + 1) := by
  rw [List.drop_eq_getElem_cons h]; simp [List.getD, h]
theorem ck_mem (l : List Ck) (k : Nat) (hk : k < l.length) : l.getD k cnil ∈ l := by
  rw [List.getD, List.getElem?_eq_getElem hk]; exact List.getElem_mem hk

/-- A slice of strings that lies below block B, nil or not. -/
def SSN (B : Nat) (w : World) (a : Option Addr) (c : Nat) (ss : List ByteArray) : Prop := SSB B w a ss ∧ (a = none → c = 0)
/-- A list of chunks that can be read: its cells, and the lines of each, lie below block B. -/
def KB (B : Nat) (w : World) (a : Option Addr) (l : List Ck) : Prop :=
  ∀ k, k < l.length → ∃ g off a1 c1 a2 c2 a3 c3, a = some ⟨g, off, none⟩ ∧ g < B ∧ w.cell? ⟨g, off + k * 4, none⟩ = some (.int .i64 (l.getD k cnil).1) ∧
    w.cell? ⟨g, off + k * 4 + 1, none⟩ = some (.slice a1 (l.getD k cnil).2.1.length c1) ∧ w.cell? ⟨g, off + k * 4 + 2, none⟩ = some (.slice a2 (l.getD k cnil).2.2.1.length c2) ∧
    w.cell? ⟨g, off + k * 4 + 3, none⟩ = some (.slice a3 (l.getD k cnil).2.2.2.length c3) ∧ SSN B w a1 c1 (l.getD k cnil).2.1 ∧ SSN B w a2 c2 (l.getD k cnil).2.2.1 ∧ SSN B w a3 c3 (l.getD k cnil).2.2.2
theorem SSB.fr {lo hi B : Nat} {w w' : World} {a : Option Addr} {ss : List ByteArray} (h : SSB B w a ss) (hF : Fr lo hi w w') (hb : B ≤ lo ∨ hi ≤ lo) : SSB B w' a ss := ⟨h.1, fun j hj => by
  obtain ⟨b, o, e', hb', hc⟩ := h.2 j hj
  exact ⟨b, o, e', hb', hF.cell hc (by omega)⟩⟩
theorem SSN.fr {lo hi B c : Nat} {w w' : World} {a : Option Addr} {ss : List ByteArray} (h : SSN B w a c ss) (hF : Fr lo hi w w') (hb : B ≤ lo ∨ hi ≤ lo) : SSN B w' a c ss := ⟨h.1.fr hF hb, h.2⟩
theorem SSN.below {B c : Nat} {w w' : World} {a : Option Addr} {ss : List ByteArray} (h : SSN B w a c ss) (hb : Below w.heap.size w w') : SSN B w' a c ss := ⟨h.1.below hb, h.2⟩
theorem SSN.mono {B B' c : Nat} {w : World} {a : Option Addr} {ss : List ByteArray} (h : SSN B w a c ss) (hB : B ≤ B') : SSN B' w a c ss := ⟨h.1.mono hB, h.2⟩
theorem KB.fr {lo hi B : Nat} {w w' : World} {a : Option Addr} {l : List Ck} (h : KB B w a l) (hF : Fr lo hi w w') (hb : B ≤ lo ∨ hi ≤ lo) : KB B w' a l := fun k hk => by
  obtain ⟨g, off, a1, c1, a2, c2, a3, c3, e, hg, h0, h1, h2, h3, s1, s2, s3⟩ := h k hk
  exact ⟨g, off, a1, c1, a2, c2, a3, c3, e, hg, hF.cell h0 (by omega), hF.cell h1 (by omega), hF.cell h2 (by omega), hF.cell h3 (by omega), s1.fr hF hb, s2.fr hF hb, s3.fr hF hb⟩
theorem KB.below {B : Nat} {w w' : World} {a : Option Addr} {l : List Ck} (h : KB B w a l) (hb : Below w.heap.size w w') : KB B w' a l := h.fr (Fr.ofBelow (lo := 0) (hi := 0) hb) (.inr (Nat.le_refl _))
theorem KB.mono {B B' : Nat} {w : World} {a : Option Addr} {l : List Ck} (h : KB B w a l) (hB : B ≤ B') : KB B' w a l := fun k hk => by
  obtain ⟨g, off, a1, c1, a2, c2, a3, c3, e, hg, h0, h1, h2, h3, s1, s2, s3⟩ := h k hk
  exact ⟨g, off, a1, c1, a2, c2, a3, c3, e, by omega, h0, h1, h2, h3, s1.mono hB, s2.mono hB, s3.mono hB⟩

/-- All lists of lines of all chunks, chunk by chunk. -/
def lnsAll (l : List Ck) : List (List ByteArray) := l.flatMap fun c => [c.2.1, c.2.2.1, c.2.2.2]
theorem lnsAll_cons (c : Ck) (l : List Ck) : lnsAll (c :: l) = c.2.1 :: c.2.2.1 :: c.2.2.2 :: lnsAll l := rfl
/-- Every list of lines is of a length that a machine has; every list is short; every line is of a size that a machine has. -/
def LongK (l : List Ck) : Prop := ∀ ss ∈ lnsAll l, ss.length ≤ 9223372036854775807
def ShortK (l : List Ck) : Prop := ∀ ss ∈ lnsAll l, ss.length ≤ 1048576
def FitsK (l : List Ck) : Prop := ∀ ss ∈ lnsAll l, ∀ k, k < ss.length → (ss.getD k ByteArray.empty).size ≤ 9223372036854775807
theorem mem_lns {l : List Ck} {c : Ck} (h : c ∈ l) : c.2.1 ∈ lnsAll l ∧ c.2.2.1 ∈ lnsAll l ∧ c.2.2.2 ∈ lnsAll l := by
  unfold lnsAll
  exact ⟨List.mem_flatMap.2 ⟨c, h, by simp⟩, List.mem_flatMap.2 ⟨c, h, by simp⟩, List.mem_flatMap.2 ⟨c, h, by simp⟩⟩
theorem mem_sd {l : List Ck} {c : Ck} (h : c ∈ l) (i : Nat) : sd i c ∈ lnsAll l := by
  obtain ⟨h1, h2, h3⟩ := mem_lns h
  unfold sd; split
  · exact h1
  · split
    · exact h2
    · exact h3
/-- What is left of a size behind lists of lines. -/
def leftF : Int → List (List ByteArray) → Int
  | n, [] => n
  | n, h :: t => if left n h < 0 then -1 else leftF (left n h) t
theorem leftF_stop {n : Int} {h : List ByteArray} {t : List (List ByteArray)} (hl : left n h < 0) : leftF n (h :: t) = -1 := by rw [leftF, if_pos hl]
theorem leftF_go {n : Int} {h : List ByteArray} {t : List (List ByteArray)} (hl : ¬ left n h < 0) : leftF n (h :: t) = leftF (left n h) t := by rw [leftF, if_neg hl]
def leftK1 (n : Int) (c : Ck) : Int := leftF n [c.2.1, c.2.2.1, c.2.2.2]
theorem leftF_app : ∀ (xs ys : List (List ByteArray)) (n : Int), ¬ n < 0 → leftF n (xs ++ ys) = if leftF n xs < 0 then -1 else leftF (leftF n xs) ys := by
  intro xs
  induction xs with
  | nil => intro ys n hn; rw [List.nil_append, show leftF n [] = n from rfl, if_neg hn]
  | cons h t ih =>
    intro ys n hn
    by_cases hl : left n h < 0
    · rw [List.cons_append, leftF_stop hl, leftF_stop hl, if_pos (by omega)]
    · rw [List.cons_append, leftF_go hl, leftF_go hl, ih ys _ hl]
def leftK (n : Int) (l : List Ck) : Int := if n - l.length < 0 then -1 else leftF (n - l.length) (lnsAll l)
theorem leftK_stop {n : Int} {c : Ck} {t : List Ck} (hn : ¬ n < 0) (hl : leftK1 n c < 0) : leftF n (lnsAll (c :: t)) = -1 := by
  rw [lnsAll_cons, show c.2.1 :: c.2.2.1 :: c.2.2.2 :: lnsAll t = [c.2.1, c.2.2.1, c.2.2.2] ++ lnsAll t from rfl, leftF_app _ _ _ hn]; exact if_pos hl
theorem leftK_go {n : Int} {c : Ck} {t : List Ck} (hn : ¬ n < 0) (hl : ¬ leftK1 n c < 0) : leftF n (lnsAll (c :: t)) = leftF (leftK1 n c) (lnsAll t) := by
  rw [lnsAll_cons, show c.2.1 :: c.2.2.1 :: c.2.2.2 :: lnsAll t = [c.2.1, c.2.2.1, c.2.2.2] ++ lnsAll t from rfl, leftF_app _ _ _ hn]; exact if_neg hl
theorem left_numsK {n : Int} {ss : List ByteArray} (h : ¬ left n ss < 0) : left n ss = n - ss.length - tot ss ∧ (ss.length : Int) ≤ n ∧ tot ss ≤ n := by
  have ht := tot_nonneg ss
  unfold left at h ⊢
  split at h
  · omega
  · rename_i h'
    rw [if_neg h']; omega
/-- All lines, and all bytes. -/
def allL (x : List (List ByteArray)) : Nat := (x.map List.length).sum
def allT (x : List (List ByteArray)) : Int := (x.map tot).sum
theorem allT_nonneg (x : List (List ByteArray)) : 0 ≤ allT x := by
  induction x with
  | nil => simp [allT]
  | cons h t ih => have := tot_nonneg h; simp only [allT, List.map_cons, List.sum_cons] at ih ⊢; omega
theorem leftF_nums : ∀ (x : List (List ByteArray)) (n : Int), ¬ leftF n x < 0 → leftF n x = n - (allL x : Int) - allT x ∧ (allL x : Int) + allT x ≤ n := by
  intro x
  induction x with
  | nil => intro n h; simp only [leftF] at h; simp [leftF, allL, allT]; omega
  | cons h t ih =>
    intro n hn
    by_cases hl : left n h < 0
    · rw [leftF_stop hl] at hn; omega
    · rw [leftF_go hl] at hn ⊢
      obtain ⟨e, h1, h2⟩ := left_numsK hl
      obtain ⟨i1, i2⟩ := ih _ hn
      have a1 : allL (h :: t) = h.length + allL t := by simp [allL]
      have a2 : allT (h :: t) = tot h + allT t := by simp [allT]
      omega
theorem leftK1_le {n : Int} {c : Ck} (h0 : 0 ≤ n) (h : n ≤ 1048576) : leftK1 n c ≤ 1048576 := by
  by_cases hl : leftK1 n c < 0
  · omega
  · have h2 : leftK1 n c = _ := (leftF_nums _ _ hl).1
    have := allT_nonneg [c.2.1, c.2.2.1, c.2.2.2]
    omega
theorem leftK_le {n : Int} {l : List Ck} (h0 : 0 ≤ n) (h : n ≤ 1048576) : leftK n l ≤ 1048576 := by
  unfold leftK
  split
  · omega
  · by_cases hl : leftF (n - l.length) (lnsAll l) < 0
    · omega
    · have h2 := (leftF_nums _ _ hl).1
      have := allT_nonneg (lnsAll l)
      omega
theorem leftK_nums {l : List Ck} {n : Int} (h : ¬ leftK n l < 0) : (l.length : Int) ≤ n ∧ (allL (lnsAll l) : Int) + allT (lnsAll l) ≤ n - l.length := by
  unfold leftK at h
  split at h
  · omega
  · have := leftF_nums _ _ h
    omega
theorem mem_allL {x : List (List ByteArray)} {ss : List ByteArray} (h : ss ∈ x) : ss.length ≤ allL x ∧ tot ss ≤ allT x := by
  induction x with
  | nil => cases h
  | cons a t ih =>
    have a1 : allL (a :: t) = a.length + allL t := by simp [allL]
    have a2 : allT (a :: t) = tot a + allT t := by simp [allT]
    have := allT_nonneg t
    have := tot_nonneg a
    rcases List.mem_cons.1 h with rfl | h
    · omega
    · have := ih h; omega
theorem tot_app (a b : List ByteArray) : tot (a ++ b) = tot a + tot b := by unfold tot; rw [List.map_append, List.sum_append]
theorem side_le (i : Nat) (l : List Ck) : (sideL i l).length ≤ allL (lnsAll l) ∧ tot (sideL i l) ≤ allT (lnsAll l) := by
  induction l with
  | nil => simp [sideL, allL, allT, lnsAll, tot]
  | cons c t ih =>
    have e : sideL i (c :: t) = sd i c ++ sideL i t := by simp [sideL]
    have a1 : allL (lnsAll (c :: t)) = c.2.1.length + (c.2.2.1.length + (c.2.2.2.length + allL (lnsAll t))) := by rw [lnsAll_cons]; simp [allL]
    have a2 : allT (lnsAll (c :: t)) = tot c.2.1 + (tot c.2.2.1 + (tot c.2.2.2 + allT (lnsAll t))) := by rw [lnsAll_cons]; simp [allT]
    have s : ((sd i c).length ≤ c.2.1.length + c.2.2.1.length + c.2.2.2.length) ∧ tot (sd i c) ≤ tot c.2.1 + tot c.2.2.1 + tot c.2.2.2 := by
      have t1 := tot_nonneg c.2.1
      have t2 := tot_nonneg c.2.2.1
      have t3 := tot_nonneg c.2.2.2
      unfold sd; split
      · omega
      · split <;> omega
    rw [e, List.length_append, tot_app]
    omega
theorem side_take_le (i k : Nat) (l : List Ck) : (sideL i (l.take k)).length ≤ (sideL i l).length := by
  conv => rhs; rw [← List.take_append_drop k l]
  unfold sideL
  rw [List.map_append, List.flatten_append, List.length_append]
  omega
theorem short_of {l : List Ck} (h : (allL (lnsAll l) : Int) ≤ 1048576) : ShortK l := fun ss hs => by have := (mem_allL hs).1; omega
theorem side_fits {l : List Ck} (h : FitsK l) (i : Nat) : ∀ k, k < (sideL i l).length → ((sideL i l).getD k ByteArray.empty).size ≤ 9223372036854775807 := by
  intro k hk
  rw [getD_at _ k hk]
  have hm := List.getElem_mem hk
  unfold sideL at hm
  obtain ⟨ss, hs, hx⟩ := List.mem_flatten.1 hm
  obtain ⟨c, hc, rfl⟩ := List.mem_map.1 hs
  obtain ⟨j, hj, e⟩ := List.getElem_of_mem hx
  have := h _ (mem_sd hc i) j hj
  rw [getD_at _ j hj, e] at this
  exact this
end Go.Proofs.YtmmccpdaklkciaaGreatDoor
/- Rows of chunks in memory of their own. No statement is proved here. -/
namespace Go.Proofs.YtmmccpdaklkciaaGreatDoor
open Go.ChangeShapes Go.WideShapes Go.ChangeAt Go.RowKit

/-- A row of cells, told by a function. -/
def rowK (f : Nat → Value) (m : Nat) : List Value := (List.range m).map f
theorem rowK_length (f : Nat → Value) (m : Nat) : (rowK f m).length = m := by simp [rowK]
theorem rowK_at (f : Nat → Value) (m j : Nat) (h : j < m) : (rowK f m)[j]? = some (f j) := by simp [rowK, h]
theorem rowK_congr {f g : Nat → Value} {m : Nat} (h : ∀ j, j < m → f j = g j) : rowK f m = rowK g m := by
  unfold rowK
  apply List.map_congr_left
  intro j hj
  exact h j (List.mem_range.1 hj)
theorem rowK_set (f : Nat → Value) (m i : Nat) (v : Value) : (rowK f m).set i v = rowK (fun j => if j = i then v else f j) m := by
  apply List.ext_getElem?
  intro j
  by_cases hj : j < m
  · rw [rowK_at _ _ _ hj]
    by_cases e : j = i
    · subst e
      rw [List.getElem?_set_self (by rw [rowK_length]; exact hj), if_pos rfl]
    · rw [List.getElem?_set_ne (by omega), rowK_at _ _ _ hj, if_neg e]
  · rw [List.getElem?_eq_none (by rw [List.length_set, rowK_length]; omega), List.getElem?_eq_none (by rw [rowK_length]; omega)]
theorem rowK_app (f : Nat → Value) (m : Nat) (vs : List Value) (g : Nat → Value) (h1 : ∀ j, j < m → f j = g j) (h2 : ∀ j, j < vs.length → vs[j]? = some (g (m + j))) : rowK f m ++ vs = rowK g (m + vs.length) := by
  apply List.ext_getElem?
  intro j
  by_cases hj : j < m
  · rw [List.getElem?_append_left (by rw [rowK_length]; exact hj), rowK_at _ _ _ hj, rowK_at _ _ _ (by omega), h1 j hj]
  · rw [List.getElem?_append_right (by rw [rowK_length]; omega), rowK_length]
    by_cases hj2 : j - m < vs.length
    · rw [h2 _ hj2, rowK_at _ _ _ (by omega), show m + (j - m) = j by omega]
    · rw [List.getElem?_eq_none (by omega), List.getElem?_eq_none (by rw [rowK_length]; omega)]
theorem infoChunk : (Tryz.prog.info? 209).map (fun i => (i.zero, i.size, i.bytes)) = some (some (.agg #[.int .i64 0, .slice none 0 0, .slice none 0 0, .slice none 0 0]), 4, 80) := by kernel_rfl
/-- The lines number j: three lists a chunk. -/
def lns (l : List Ck) (j : Nat) : List ByteArray := sd (j % 3) (l.getD (j / 3) cnil)
theorem lns0 (l : List Ck) (k : Nat) : lns l (k * 3) = (l.getD k cnil).2.1 := by unfold lns; rw [show k * 3 % 3 = 0 by omega, show k * 3 / 3 = k by omega]; rfl
theorem lns1 (l : List Ck) (k : Nat) : lns l (k * 3 + 1) = (l.getD k cnil).2.2.1 := by unfold lns; rw [show (k * 3 + 1) % 3 = 1 by omega, show (k * 3 + 1) / 3 = k by omega]; rfl
theorem lns2 (l : List Ck) (k : Nat) : lns l (k * 3 + 2) = (l.getD k cnil).2.2.2 := by unfold lns; rw [show (k * 3 + 2) % 3 = 2 by omega, show (k * 3 + 2) / 3 = k by omega]; rfl
/-- The cells of chunks l whose lines lie at sl. -/
def kcell (l : List Ck) (sl : Nat → Value) (j : Nat) : Value := if j % 4 = 0 then .int .i64 (l.getD (j / 4) cnil).1 else sl (j / 4 * 3 + (j % 4 - 1))
theorem kcell0 (l : List Ck) (sl : Nat → Value) (k : Nat) : kcell l sl (k * 4) = .int .i64 (l.getD k cnil).1 := by
  unfold kcell; rw [if_pos (by omega), show k * 4 / 4 = k by omega]
theorem kcellS (l : List Ck) (sl : Nat → Value) (k i : Nat) (hi : i < 3) : kcell l sl (k * 4 + (i + 1)) = sl (k * 3 + i) := by
  unfold kcell; rw [if_neg (by omega), show (k * 4 + (i + 1)) / 4 = k by omega, show (k * 4 + (i + 1)) % 4 - 1 = i by omega]
theorem kcell1 (l : List Ck) (sl : Nat → Value) (k : Nat) : kcell l sl (k * 4 + 1) = sl (k * 3) := kcellS l sl k 0 (by omega)
theorem kcell2 (l : List Ck) (sl : Nat → Value) (k : Nat) : kcell l sl (k * 4 + 2) = sl (k * 3 + 1) := kcellS l sl k 1 (by omega)
theorem kcell3 (l : List Ck) (sl : Nat → Value) (k : Nat) : kcell l sl (k * 4 + 3) = sl (k * 3 + 2) := kcellS l sl k 2 (by omega)
/-- Chunks in memory of their own: the row, and each list of lines. -/
structure KO (base : Nat) (w : World) (v : Value) (l : List Ck) (sl : Nat → Value) : Prop where
  row : w.ownsRow base 209 4 v l.length (rowK (kcell l sl) (l.length * 4))
  each : ∀ j, j < l.length * 3 → w.ownsRow base 9 1 (sl j) (lns l j).length ((lns l j).map Value.string)
  apart : ∀ i j, i < j → j < l.length * 3 → ∀ b, (sl i).ownBlock = some b → (sl j).ownBlock = some b → False
  off : ∀ j, j < l.length * 3 → ∀ b, v.ownBlock = some b → (sl j).ownBlock = some b → False
theorem shapeK {w : World} {base : Nat} {e : TypeId} {s : Nat} {v : Value} {n : Nat} {xs : List Value} (h : w.ownsRow base e s v n xs) : ∃ a c, v = .slice a n c := by
  rcases h.2 with ⟨rfl, rfl⟩ | ⟨g, cap, cur, rfl, _⟩
  · exact ⟨_, _, rfl⟩
  · exact ⟨_, _, rfl⟩
theorem KO.fr {lo hi base : Nat} {w w' : World} {v : Value} {l : List Ck} {sl : Nat → Value} (h : KO base w v l sl) (hF : Fr lo hi w w') (hv : ∀ j, v.ownBlock = some j → j < lo ∨ hi ≤ j) (hb : ∀ k, k < l.length * 3 → ∀ j, (sl k).ownBlock = some j → j < lo ∨ hi ≤ j) : KO base w' v l sl :=
  ⟨hF.own h.row hv, fun k hk => hF.own (h.each k hk) (hb k hk), h.apart, h.off⟩
theorem KO.below {base : Nat} {w w' : World} {v : Value} {l : List Ck} {sl : Nat → Value} (h : KO base w v l sl) (hb : Below w.heap.size w w') : KO base w' v l sl :=
  h.fr (Fr.ofBelow (lo := 0) (hi := 0) hb) (fun _ _ => .inr (Nat.zero_le _)) (fun _ _ _ _ => .inr (Nat.zero_le _))
theorem ownMonoK {w : World} {base b : Nat} {e : TypeId} {s : Nat} {v : Value} {n : Nat} {xs : List Value} (h : w.ownsRow base e s v n xs) (hb : b ≤ base) : w.ownsRow b e s v n xs := by
  refine ⟨h.1, ?_⟩
  rcases h.2 with h' | ⟨g, cap, cur, h1, h2, h3⟩
  · exact .inl h'
  · exact .inr ⟨g, cap, cur, h1, by omega, h3⟩
theorem KO.mono {base b : Nat} {w : World} {v : Value} {l : List Ck} {sl : Nat → Value} (h : KO base w v l sl) (hb : b ≤ base) : KO b w v l sl :=
  ⟨ownMonoK h.row hb, fun k hk => ownMonoK (h.each k hk) hb, h.apart, h.off⟩
theorem KO.nil (base : Nat) (w : World) (sl : Nat → Value) : KO base w (.slice none 0 0) [] sl :=
  ⟨⟨rfl, .inl ⟨rfl, rfl⟩⟩, fun _ h => absurd h (Nat.not_lt_zero _), fun _ _ _ h => absurd h (Nat.not_lt_zero _), fun _ h => absurd h (Nat.not_lt_zero _)⟩
/-- A row of strings that is owned, as a slice that can be read. -/
theorem ownSSN {w : World} {base : Nat} {v : Value} {ss : List ByteArray} (h : w.ownsRow base 9 1 v ss.length (ss.map Value.string)) (hz : ∀ k, k < ss.length → (ss.getD k ByteArray.empty).size ≤ 9223372036854775807) : ∃ a c, v = .slice a ss.length c ∧ SSN w.heap.size w a c ss := by
  obtain ⟨a, c, e⟩ := shapeS h
  refine ⟨a, c, e, ownSS (by rw [← e]; exact h) hz, fun ha => ?_⟩
  rcases h.2 with ⟨h', _⟩ | ⟨g, cap, cur, h', _⟩
  · rw [e] at h'; simp only [Value.slice.injEq] at h'; exact h'.2.2
  · rw [e, ha] at h'; simp only [Value.slice.injEq] at h'; exact absurd h'.1 (by simp)
/-- Chunks that are owned can be read. -/
theorem KO.read {base : Nat} {w : World} {a : Option Addr} {c : Nat} {l : List Ck} {sl : Nat → Value} (h : KO base w (.slice a l.length c) l sl) (hf : FitsK l) : KB w.heap.size w a l := by
  intro k hk
  obtain ⟨m1, m2, m3⟩ := mem_lns (ck_mem l k hk)
  have e1 := h.each (k * 3) (by omega)
  have e2 := h.each (k * 3 + 1) (by omega)
  have e3 := h.each (k * 3 + 2) (by omega)
  rw [lns0] at e1
  rw [lns1] at e2
  rw [lns2] at e3
  obtain ⟨a1, c1, q1, s1⟩ := ownSSN e1 (hf _ m1)
  obtain ⟨a2, c2, q2, s2⟩ := ownSSN e2 (hf _ m2)
  obtain ⟨a3, c3, q3, s3⟩ := ownSSN e3 (hf _ m3)
  rcases h.row.2 with ⟨h', h0⟩ | ⟨g, cap, cur, h', _, hh, _⟩
  · omega
  · simp only [Value.slice.injEq] at h'
    obtain ⟨rfl, _, rfl⟩ := h'
    have hc := h.row.cellAt
    refine ⟨g, 0, a1, c1, a2, c2, a3, c3, rfl, (Array.getElem?_eq_some_iff.1 hh).1, ?_, ?_, ?_, ?_, s1, s2, s3⟩
    · rw [Nat.zero_add, hc (k * 4) (by omega), rowK_at _ _ _ (by omega), kcell0]
    · rw [Nat.zero_add, hc (k * 4 + 1) (by omega), rowK_at _ _ _ (by omega), kcell1, q1]
    · rw [Nat.zero_add, hc (k * 4 + 2) (by omega), rowK_at _ _ _ (by omega), kcell2, q2]
    · rw [Nat.zero_add, hc (k * 4 + 3) (by omega), rowK_at _ _ _ (by omega), kcell3, q3]
/-- What toChunkS has copied behind k rounds. -/
def mixK (l : List Ck) (sl : Nat → Value) (k : Nat) (j : Nat) : Value := if j < k * 4 then kcell l sl j else if j % 4 = 0 then .int .i64 0 else .slice none 0 0
theorem mixK_zero (l : List Ck) (sl : Nat → Value) (n : Nat) : (madeCells (Value.agg #[.int .i64 0, .slice none 0 0, .slice none 0 0, .slice none 0 0]).cells (n * 4)).toList = rowK (mixK l sl 0) (n * 4) := by
  apply List.ext_getElem?
  intro j
  by_cases hj : j < n * 4
  · rw [rowK_at _ _ _ hj]
    have h3 : j % 4 = 0 ∨ j % 4 = 1 ∨ j % 4 = 2 ∨ j % 4 = 3 := by omega
    rcases h3 with h | h | h | h <;> simp [madeCells, hj, Value.cells, h, mixK]
  · have e : (rowK (mixK l sl 0) (n * 4))[j]? = none := List.getElem?_eq_none (by rw [rowK_length]; omega)
    rw [e]
    simp [madeCells, hj]
theorem mixK_full (l : List Ck) (sl : Nat → Value) : rowK (mixK l sl l.length) (l.length * 4) = rowK (kcell l sl) (l.length * 4) := rowK_congr fun j hj => by unfold mixK; rw [if_pos hj]
/-- Three lists more. -/
def sl3 (sl : Nat → Value) (k : Nat) (v1 v2 v3 : Value) (i : Nat) : Value := if i = k * 3 then v1 else if i = k * 3 + 1 then v2 else if i = k * 3 + 2 then v3 else sl i
theorem sl3_0 (sl : Nat → Value) (k : Nat) (v1 v2 v3 : Value) : sl3 sl k v1 v2 v3 (k * 3) = v1 := if_pos rfl
theorem sl3_1 (sl : Nat → Value) (k : Nat) (v1 v2 v3 : Value) : sl3 sl k v1 v2 v3 (k * 3 + 1) = v2 := by unfold sl3; rw [if_neg (by omega), if_pos rfl]
theorem sl3_2 (sl : Nat → Value) (k : Nat) (v1 v2 v3 : Value) : sl3 sl k v1 v2 v3 (k * 3 + 2) = v3 := by unfold sl3; rw [if_neg (by omega), if_neg (by omega), if_pos rfl]
theorem sl3_old (sl : Nat → Value) (k : Nat) (v1 v2 v3 : Value) (i : Nat) (h : i < k * 3) : sl3 sl k v1 v2 v3 i = sl i := by unfold sl3; rw [if_neg (by omega), if_neg (by omega), if_neg (by omega)]
theorem mixK_set (l : List Ck) (sl : Nat → Value) (k n : Nat) (v1 v2 v3 : Value) :
    ((((rowK (mixK l sl k) n).set (k * 4) (.int .i64 (l.getD k cnil).1)).set (k * 4 + 1) v1).set (k * 4 + 2) v2).set (k * 4 + 3) v3 = rowK (mixK l (sl3 sl k v1 v2 v3) (k + 1)) n := by
  rw [rowK_set, rowK_set, rowK_set, rowK_set]
  apply rowK_congr
  intro j _
  show (if j = k * 4 + 3 then v3 else if j = k * 4 + 2 then v2 else if j = k * 4 + 1 then v1 else if j = k * 4 then _ else _) = _
  by_cases h3 : j = k * 4 + 3
  · subst h3
    rw [if_pos rfl]; unfold mixK; rw [if_pos (by omega), kcell3, sl3_2]
  rw [if_neg h3]
  by_cases h2 : j = k * 4 + 2
  · subst h2
    rw [if_pos rfl]; unfold mixK; rw [if_pos (by omega), kcell2, sl3_1]
  rw [if_neg h2]
  by_cases h1 : j = k * 4 + 1
  · subst h1
    rw [if_pos rfl]; unfold mixK; rw [if_pos (by omega), kcell1, sl3_0]
  rw [if_neg h1]
  by_cases h0 : j = k * 4
  · subst h0
    rw [if_pos rfl]; unfold mixK; rw [if_pos (by omega), kcell0]
  rw [if_neg h0]
  unfold mixK
  by_cases hlt : j < k * 4
  · rw [if_pos hlt, if_pos (by omega)]
    unfold kcell
    by_cases hm : j % 4 = 0
    · rw [if_pos hm, if_pos hm]
    · rw [if_neg hm, if_neg hm, sl3_old _ _ _ _ _ _ (by omega)]
  · have hlt' : ¬ j < (k + 1) * 4 := by omega
    rw [if_neg hlt, if_neg hlt']
end Go.Proofs.YtmmccpdaklkciaaGreatDoor
