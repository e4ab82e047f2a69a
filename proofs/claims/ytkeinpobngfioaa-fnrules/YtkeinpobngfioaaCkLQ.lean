/- Plain mathematics of chunks, and chunks in memory: their cells, who owns them, and what is left of a size. No statement is proved here. -/
import Derived.Test.YtkeinpobngfioaaRows
import Derived.Test.YtkeinpobngfioaaLemQ
import Derived.Test.YtkeinpobngfioaaLFLemQ
import Derived.Test.YtkeinpobngfioaaDTabQ
import Derived.WalkKit
import Derived.ProofKit
import Derived.Below
namespace Go.Proofs.Ytkeinpobngfioaa
open Go.ChangeShapes Go.WideShapes Go.ChangeAt Go.RowKit

/-- A chunk: Kind, Base, Ours, Theirs. -/
abbrev Ck := Int × List ByteArray × List ByteArray × List ByteArray
def cnil : Ck := (0, [], [], [])
/-- The kind that lines have. -/
def kd (b o t : List ByteArray) : Int := if eqB b o = true then (if eqB b t = true then 0 else 2) else if eqB b t = true then 1 else if eqB o t = true then 3 else 4
theorem kd_same {b o t : List ByteArray} (h1 : eqB b o = true) (h2 : eqB b t = true) : kd b o t = 0 := by unfold kd; rw [if_pos h1, if_pos h2]
theorem kd_theirs {b o t : List ByteArray} (h1 : eqB b o = true) (h2 : eqB b t = false) : kd b o t = 2 := by unfold kd; rw [if_pos h1, if_neg (by rw [h2]; exact Bool.false_ne_true)]
theorem kd_ours {b o t : List ByteArray} (h1 : eqB b o = false) (h2 : eqB b t = true) : kd b o t = 1 := by unfold kd; rw [if_neg (by rw [h1]; exact Bool.false_ne_true), if_pos h2]
theorem kd_both {b o t : List ByteArray} (h1 : eqB b o = false) (h2 : eqB b t = false) (h3 : eqB o t = true) : kd b o t = 3 := by unfold kd; rw [if_neg (by rw [h1]; exact Bool.false_ne_true), if_neg (by rw [h2]; exact Bool.false_ne_true), if_pos h3]
theorem kd_clash {b o t : List ByteArray} (h1 : eqB b o = false) (h2 : eqB b t = false) (h3 : eqB o t = false) : kd b o t = 4 := by unfold kd; rw [if_neg (by rw [h1]; exact Bool.false_ne_true), if_neg (by rw [h2]; exact Bool.false_ne_true), if_neg (by rw [h3]; exact Bool.false_ne_true)]
theorem kd_bd (b o t : List ByteArray) : 0 ≤ kd b o t ∧ kd b o t ≤ 4 := by unfold kd; split <;> split <;> (try split) <;> omega
/-- The lines of one side. -/
def sd (i : Nat) (c : Ck) : List ByteArray := if i = 0 then c.2.1 else if i = 1 then c.2.2.1 else c.2.2.2
theorem sd0 (c : Ck) : sd 0 c = c.2.1 := rfl
theorem sd1 (c : Ck) : sd 1 c = c.2.2.1 := rfl
theorem sd2 (c : Ck) : sd 2 c = c.2.2.2 := rfl
/-- Nothing is in a chunk. -/
def bare (c : Ck) : Bool := decide (c.2.1.length = 0 ∧ c.2.2.1.length = 0 ∧ c.2.2.2.length = 0)
/-- The code of one chunk. -/
def ck1 (c : Ck) : Int := if inB c.1 0 4 = false then 3 else if ¬ kd c.2.1 c.2.2.1 c.2.2.2 = c.1 then 1 else if bare c = true then 1 else 0
theorem ck1_range {c : Ck} (h : inB c.1 0 4 = false) : ck1 c = 3 := if_pos h
theorem ck1_kind {c : Ck} (h : inB c.1 0 4 = true) (k : ¬ kd c.2.1 c.2.2.1 c.2.2.2 = c.1) : ck1 c = 1 := by unfold ck1; rw [if_neg (by rw [h]; decide), if_pos k]
theorem ck1_bare {c : Ck} (h : inB c.1 0 4 = true) (k : bare c = true) : ck1 c = 1 := by unfold ck1; rw [if_neg (by rw [h]; decide), if_pos k]; split <;> rfl
theorem ck1_ok {c : Ck} (h : inB c.1 0 4 = true) (k : kd c.2.1 c.2.2.1 c.2.2.2 = c.1) (b : bare c = false) : ck1 c = 0 := by unfold ck1; rw [if_neg (by rw [h]; decide), if_neg (by simp [k]), if_neg (by rw [b]; decide)]
/-- The first code among chunks. -/
def ckF : List Ck → Int
  | [] => 0
  | c :: t => if ck1 c = 0 then ckF t else ck1 c
theorem ckF_stop {c : Ck} {t : List Ck} {v : Int} (e : ck1 c = v) (hv : ¬ v = 0) : ckF (c :: t) = v := by rw [ckF, e, if_neg hv]
theorem ckF_go {c : Ck} {t : List Ck} (e : ck1 c = 0) : ckF (c :: t) = ckF t := by rw [ckF, if_pos e]
/-- The lines of one side of all chunks. -/
def sideL (i : Nat) (l : List Ck) : List ByteArray := (l.map (sd i)).flatten
theorem sideL_take (i : Nat) (l : List Ck) (k : Nat) (h : k < l.length) : sideL i (l.take (k + 1)) = sideL i (l.take k) ++ sd i (l.getD k cnil) := by
  unfold sideL
  rw [List.take_succ_eq_append_getElem h, List.map_append, List.flatten_append]
  simp [List.getD, h]
def cf (l : List Ck) : Int := if 201 < (l.length : Int) then 2 else if ¬ ckF l = 0 then ckF l else if ¬ lf (sideL 0 l) = 0 then lf (sideL 0 l) else if ¬ lf (sideL 1 l) = 0 then lf (sideL 1 l) else lf (sideL 2 l)
theorem cf_many {l : List Ck} (h : 201 < (l.length : Int)) : cf l = 2 := if_pos h
theorem cf_one {l : List Ck} (h : ¬ 201 < (l.length : Int)) (k : ¬ ckF l = 0) : cf l = ckF l := by unfold cf; rw [if_neg h, if_pos k]
theorem cf_0 {l : List Ck} (h : ¬ 201 < (l.length : Int)) (k : ckF l = 0) (e : ¬ lf (sideL 0 l) = 0) : cf l = lf (sideL 0 l) := by unfold cf; rw [if_neg h, if_neg (by simp [k]), if_pos e]
theorem cf_1 {l : List Ck} (h : ¬ 201 < (l.length : Int)) (k : ckF l = 0) (e : lf (sideL 0 l) = 0) (f : ¬ lf (sideL 1 l) = 0) : cf l = lf (sideL 1 l) := by unfold cf; rw [if_neg h, if_neg (by simp [k]), if_neg (by simp [e]), if_pos f]
theorem cf_2 {l : List Ck} (h : ¬ 201 < (l.length : Int)) (k : ckF l = 0) (e : lf (sideL 0 l) = 0) (f : lf (sideL 1 l) = 0) : cf l = lf (sideL 2 l) := by unfold cf; rw [if_neg h, if_neg (by simp [k]), if_neg (by simp [e]), if_neg (by simp [f])]
theorem ck_drop (l : List Ck) (k : Nat) (h : k < l.length) : l.drop k = l.getD k cnil :: l.drop (k + 1) := by
  rw [List.drop_eq_getElem_cons h]; simp [List.getD, h]
theorem ck_mem (l : List Ck) (k : Nat) (hk : k < l.length) : l.getD k cnil ∈ l := by
  rw [List.getD, List.getElem?_eq_getElem hk]; exact List.getElem_mem hk

/-- A slice of strings that lies below block B, nil or not. -/
def SSN (B : Nat) (w : World) (a : Option Addr) (c : Nat) (ss : List ByteArray) : Prop := SSB B w a ss ∧ (a = none → c = 0)
/-- A list of chunks that can be read: its cells, and the lines of each, lie below block B. -/
def KB (B : Nat) (w : World) (a : Option Addr) (l : List Ck) : Prop :=
  ∀ k, k < l.length → ∃ g off a1 c1 a2 c2 a3 c3, a = some ⟨g, off, none⟩ ∧ g < B ∧ w.cell? ⟨g, off + k * 4, none⟩ = some (.int .i64 (l.getD k cnil).1) ∧
    w.cell? ⟨g, off + k * 4 + 1, none⟩ = some (.slice a1 (l.getD k cnil).2.1.length c1) ∧ w.cell? ⟨g, off + k * 4 + 2, none⟩ = some (.slice a2 (l.getD k cnil).2.2.1.length c2) ∧
    w.cell? ⟨g, off + k * 4 + 3, none⟩ = some (.slice a3 (l.getD k cnil).2.2.2.length c3) ∧ SSN B w a1 c1 (l.getD k cnil).2.1 ∧ SSN B w a2 c2 (l.getD k cnil).2.2.1 ∧ SSN B w a3 c3 (l.getD k cnil).2.2.2
theorem SSB.fr {lo hi B : Nat} {w w' : World} {a : Option Addr} {ss : List ByteArray} (h : SSB B w a ss) (hF : Fr lo hi w w') (hb : B ≤ lo ∨ hi ≤ lo) : SSB B w' a ss := ⟨h.1, fun j hj => by
  obtain ⟨b, o, e', hb', hc⟩ := h.2 j hj
  exact ⟨b, o, e', hb', hF.cell hc (by omega)⟩⟩
theorem SSN.fr {lo hi B c : Nat} {w w' : World} {a : Option Addr} {ss : List ByteArray} (h : SSN B w a c ss) (hF : Fr lo hi w w') (hb : B ≤ lo ∨ hi ≤ lo) : SSN B w' a c ss := ⟨h.1.fr hF hb, h.2⟩
theorem SSN.below {B c : Nat} {w w' : World} {a : Option Addr} {ss : List ByteArray} (h : SSN B w a c ss) (hb : Below w.heap.size w w') : SSN B w' a c ss := ⟨h.1.below hb, h.2⟩
theorem SSN.mono {B B' c : Nat} {w : World} {a : Option Addr} {ss : List ByteArray} (h : SSN B w a c ss) (hB : B ≤ B') : SSN B' w a c ss := ⟨h.1.mono hB, h.2⟩
theorem KB.fr {lo hi B : Nat} {w w' : World} {a : Option Addr} {l : List Ck} (h : KB B w a l) (hF : Fr lo hi w w') (hb : B ≤ lo ∨ hi ≤ lo) : KB B w' a l := fun k hk => by
  obtain ⟨g, off, a1, c1, a2, c2, a3, c3, e, hg, h0, h1, h2, h3, s1, s2, s3⟩ := h k hk
  exact ⟨g, off, a1, c1, a2, c2, a3, c3, e, hg, hF.cell h0 (by omega), hF.cell h1 (by omega), hF.cell h2 (by omega), hF.cell h3 (by omega), s1.fr hF hb, s2.fr hF hb, s3.fr hF hb⟩
theorem KB.below {B : Nat} {w w' : World} {a : Option Addr} {l : List Ck} (h : KB B w a l) (hb : Below w.heap.size w w') : KB B w' a l := h.fr (Fr.ofBelow (lo := 0) (hi := 0) hb) (.inr (Nat.le_refl _))
theorem KB.mono {B B' : Nat} {w : World} {a : Option Addr} {l : List Ck} (h : KB B w a l) (hB : B ≤ B') : KB B' w a l := fun k hk => by
  obtain ⟨g, off, a1, c1, a2, c2, a3, c3, e, hg, h0, h1, h2, h3, s1, s2, s3⟩ := h k hk
  exact ⟨g, off, a1, c1, a2, c2, a3, c3, e, by omega, h0, h1, h2, h3, s1.mono hB, s2.mono hB, s3.mono hB⟩

/-- All lists of lines of all chunks, chunk by chunk. -/
def lnsAll (l : List Ck) : List (List ByteArray) := l.flatMap fun c => [c.2.1, c.2.2.1, c.2.2.2]
theorem lnsAll_cons (c : Ck) (l : List Ck) : lnsAll (c :: l) = c.2.1 :: c.2.2.1 :: c.2.2.2 :: lnsAll l := rfl
/-- Every list of lines is of a length that a machine has; every list is short; every line is of a size that a machine has. -/
def LongK (l : List Ck) : Prop := ∀ ss ∈ lnsAll l, ss.length ≤ 9223372036854775807
def ShortK (l : List Ck) : Prop := ∀ ss ∈ lnsAll l, ss.length ≤ 1048576
def FitsK (l : List Ck) : Prop := ∀ ss ∈ lnsAll l, ∀ k, k < ss.length → (ss.getD k ByteArray.empty).size ≤ 9223372036854775807
theorem mem_lns {l : List Ck} {c : Ck} (h : c ∈ l) : c.2.1 ∈ lnsAll l ∧ c.2.2.1 ∈ lnsAll l ∧ c.2.2.2 ∈ lnsAll l := by
  unfold lnsAll
  exact ⟨List.mem_flatMap.2 ⟨c, h, by simp⟩, List.mem_flatMap.2 ⟨c, h, by simp⟩, List.mem_flatMap.2 ⟨c, h, by simp⟩⟩
theorem mem_sd {l : List Ck} {c : Ck} (h : c ∈ l) (i : Nat) : sd i c ∈ lnsAll l := by
  obtain ⟨h1, h2, h3⟩ := mem_lns h
  unfold sd; split
  · exact h1
  · split
    · exact h2
    · exact h3
/-- What is left of a size behind lists of lines. -/
def leftF : Int → List (List ByteArray) → Int
  | n, [] => n
  | n, h :: t => if left n h < 0 then -1 else leftF (left n h) t
theorem leftF_stop {n : Int} {h : List ByteArray} {t : List (List ByteArray)} (hl : left n h < 0) : leftF n (h :: t) = -1 := by rw [leftF, if_pos hl]
theorem leftF_go {n : Int} {h : List ByteArray} {t : List (List ByteArray)} (hl : ¬ left n h < 0) : leftF n (h :: t) = leftF (left n h) t := by rw [leftF, if_neg hl]
def leftK1 (n : Int) (c : Ck) : Int := leftF n [c.2.1, c.2.2.1, c.2.2.2]
theorem leftF_app : ∀ (xs ys : List (List ByteArray)) (n : Int), ¬ n < 0 → leftF n (xs ++ ys) = if leftF n xs < 0 then -1 else leftF (leftF n xs) ys := by
  intro xs
  induction xs with
  | nil => intro ys n hn; rw [List.nil_append, show leftF n [] = n from rfl, if_neg hn]
  | cons h t ih =>
    intro ys n hn
    by_cases hl : left n h < 0
    · rw [List.cons_append, leftF_stop hl, leftF_stop hl, if_pos (by omega)]
    · rw [List.cons_append, leftF_go hl, leftF_go hl, ih ys _ hl]
def leftK (n : Int) (l : List Ck) : Int := if n - l.length < 0 then -1 else leftF (n - l.length) (lnsAll l)
theorem leftK_stop {n : Int} {c : Ck} {t : List Ck} (hn : ¬ n < 0) (hl : leftK1 n c < 0) : leftF n (lnsAll (c :: t)) = -1 := by
  rw [lnsAll_cons, show c.2.1 :: c.2.2.1 :: c.2.2.2 :: lnsAll t = [c.2.1, c.2.2.1, c.2.2.2] ++ lnsAll t from rfl, leftF_app _ _ _ hn]; exact if_pos hl
theorem leftK_go {n : Int} {c : Ck} {t : List Ck} (hn : ¬ n < 0) (hl : ¬ leftK1 n c < 0) : leftF n (lnsAll (c :: t)) = leftF (leftK1 n c) (lnsAll t) := by
  rw [lnsAll_cons, show c.2.1 :: c.2.2.1 :: c.2.2.2 :: lnsAll t = [c.2.1, c.2.2.1, c.2.2.2] ++ lnsAll t from rfl, leftF_app _ _ _ hn]; exact if_neg hl
theorem left_numsK {n : Int} {ss : List ByteArray} (h : ¬ left n ss < 0) : left n ss = n - ss.length - tot ss ∧ (ss.length : Int) ≤ n ∧ tot ss ≤ n := by
  have ht := tot_nonneg ss
  unfold left at h ⊢
  split at h
  · omega
  · rename_i h'
    rw [if_neg h']; omega
/-- All lines, and all bytes. -/
def allL (x : List (List ByteArray)) : Nat := (x.map List.length).sum
def allT (x : List (List ByteArray)) : Int := (x.map tot).sum
theorem allT_nonneg (x : List (List ByteArray)) : 0 ≤ allT x := by
  induction x with
  | nil => simp [allT]
  | cons h t ih => have := tot_nonneg h; simp only [allT, List.map_cons, List.sum_cons] at ih ⊢; omega
theorem leftF_nums : ∀ (x : List (List ByteArray)) (n : Int), ¬ leftF n x < 0 → leftF n x = n - (allL x : Int) - allT x ∧ (allL x : Int) + allT x ≤ n := by
  intro x
  induction x with
  | nil => intro n h; simp only [leftF] at h; simp [leftF, allL, allT]; omega
  | cons h t ih =>
    intro n hn
    by_cases hl : left n h < 0
    · rw [leftF_stop hl] at hn; omega
    · rw [leftF_go hl] at hn ⊢
      obtain ⟨e, h1, h2⟩ := left_numsK hl
      obtain ⟨i1, i2⟩ := ih _ hn
      have a1 : allL (h :: t) = h.length + allL t := by simp [allL]
      have a2 : allT (h :: t) = tot h + allT t := by simp [allT]
      omega
theorem leftK1_le {n : Int} {c : Ck} (h0 : 0 ≤ n) (h : n ≤ 1048576) : leftK1 n c ≤ 1048576 := by
  by_cases hl : leftK1 n c < 0
  · omega
  · have h2 : leftK1 n c = _ := (leftF_nums _ _ hl).1
    have := allT_nonneg [c.2.1, c.2.2.1, c.2.2.2]
    omega
theorem leftK_le {n : Int} {l : List Ck} (h0 : 0 ≤ n) (h : n ≤ 1048576) : leftK n l ≤ 1048576 := by
  unfold leftK
  split
  · omega
  · by_cases hl : leftF (n - l.length) (lnsAll l) < 0
    · omega
    · have h2 := (leftF_nums _ _ hl).1
      have := allT_nonneg (lnsAll l)
      omega
theorem leftK_nums {l : List Ck} {n : Int} (h : ¬ leftK n l < 0) : (l.length : Int) ≤ n ∧ (allL (lnsAll l) : Int) + allT (lnsAll l) ≤ n - l.length := by
  unfold leftK at h
  split at h
  · omega
  · have := leftF_nums _ _ h
    omega
theorem mem_allL {x : List (List ByteArray)} {ss : List ByteArray} (h : ss ∈ x) : ss.length ≤ allL x ∧ tot ss ≤ allT x := by
  induction x with
  | nil => cases h
  | cons a t ih =>
    have a1 : allL (a :: t) = a.length + allL t := by simp [allL]
    have a2 : allT (a :: t) = tot a + allT t := by simp [allT]
    have := allT_nonneg t
    have := tot_nonneg a
    rcases List.mem_cons.1 h with rfl | h
    · omega
    · have := ih h; omega
theorem tot_app (a b : List ByteArray) : tot (a ++ b) = tot a + tot b := by unfold tot; rw [List.map_append, List.sum_append]
theorem side_le (i : Nat) (l : List Ck) : (sideL i l).length ≤ allL (lnsAll l) ∧ tot (sideL i l) ≤ allT (lnsAll l) := by
  induction l with
  | nil => simp [sideL, allL, allT, lnsAll, tot]
  | cons c t ih =>
    have e : sideL i (c :: t) = sd i c ++ sideL i t := by simp [sideL]
    have a1 : allL (lnsAll (c :: t)) = c.2.1.length + (c.2.2.1.length + (c.2.2.2.length + allL (lnsAll t))) := by rw [lnsAll_cons]; simp [allL]
    have a2 : allT (lnsAll (c :: t)) = tot c.2.1 + (tot c.2.2.1 + (tot c.2.2.2 + allT (lnsAll t))) := by rw [lnsAll_cons]; simp [allT]
    have s : ((sd i c).length ≤ c.2.1.length + c.2.2.1.length + c.2.2.2.length) ∧ tot (sd i c) ≤ tot c.2.1 + tot c.2.2.1 + tot c.2.2.2 := by
      have t1 := tot_nonneg c.2.1
      have t2 := tot_nonneg c.2.2.1
      have t3 := tot_nonneg c.2.2.2
      unfold sd; split
      · omega
      · split <;> omega
    rw [e, List.length_append, tot_app]
    omega
theorem side_take_le (i k : Nat) (l : List Ck) : (sideL i (l.take k)).length ≤ (sideL i l).length := by
  conv => rhs; rw [← List.take_append_drop k l]
  unfold sideL
  rw [List.map_append, List.flatten_append, List.length_append]
  omega
theorem short_of {l : List Ck} (h : (allL (lnsAll l) : Int) ≤ 1048576) : ShortK l := fun ss hs => by have := (mem_allL hs).1; omega
theorem side_fits {l : List Ck} (h : FitsK l) (i : Nat) : ∀ k, k < (sideL i l).length → ((sideL i l).getD k ByteArray.empty).size ≤ 9223372036854775807 := by
  intro k hk
  rw [getD_at _ k hk]
  have hm := List.getElem_mem hk
  unfold sideL at hm
  obtain ⟨ss, hs, hx⟩ := List.mem_flatten.1 hm
  obtain ⟨c, hc, rfl⟩ := List.mem_map.1 hs
  obtain ⟨j, hj, e⟩ := List.getElem_of_mem hx
  have := h _ (mem_sd hc i) j hj
  rw [getD_at _ j hj, e] at this
  exact this
end Go.Proofs.Ytkeinpobngfioaa
