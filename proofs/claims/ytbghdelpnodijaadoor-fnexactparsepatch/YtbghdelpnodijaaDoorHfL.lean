/- Plain mathematics of the faults of hunks. No statement is proved here. -/
import Derived.Test.YtbghdelpnodijaaDoorLem
import Derived.Test.YtbghdelpnodijaaDoorStrs
import Derived.Test.YtbghdelpnodijaaDoorLFLem
import Derived.Test.YtbghdelpnodijaaDoorIn
import Derived.Test.YtbghdelpnodijaaDoorHkL
namespace Go.Proofs.YtbghdelpnodijaaDoor
open Go.RowKit

/-- A hunk: AtA, AtB, Lines. -/
abbrev Hk := Int × Int × List ByteArray
/-- A line goes or comes. -/
def chg1 (s : ByteArray) : Bool := mark0 s != 32
def anyCh (ss : List ByteArray) : Bool := ss.any chg1
/-- How many lines stay. -/
def stay1 (s : ByteArray) : Int := if mark0 s = 32 then 1 else 0
def stays (ss : List ByteArray) : Int := (ss.map stay1).sum
theorem stays_take (ss : List ByteArray) (k : Nat) (h : k < ss.length) : stays (ss.take (k + 1)) = stays (ss.take k) + stay1 (ss.getD k ByteArray.empty) := sum_take _ ss k h
theorem stay1_bd (s : ByteArray) : 0 ≤ stay1 s ∧ stay1 s ≤ 1 := by unfold stay1; split <;> omega
theorem stays_bd (ss : List ByteArray) : 0 ≤ stays ss ∧ stays ss ≤ ss.length := sum_bd _ stay1_bd ss
theorem stays_all (ss : List ByteArray) : anyCh ss = !decide (stays ss = (ss.length : Int)) := by
  induction ss with
  | nil => rfl
  | cons s ss ih =>
    have e1 : stays (s :: ss) = stay1 s + stays ss := by simp [stays]
    have e2 : anyCh (s :: ss) = (chg1 s || anyCh ss) := rfl
    have hb := stays_bd ss
    rw [e1, e2, ih, List.length_cons]
    unfold chg1 stay1
    by_cases h : mark0 s = 32
    · rw [if_pos h]
      have : (mark0 s != 32) = false := by simp [h]
      rw [this, Bool.false_or]
      congr 1
      rw [decide_eq_decide]
      omega
    · rw [if_neg h]
      have : (mark0 s != 32) = true := by simp [h]
      rw [this, Bool.true_or, decide_eq_false (by omega)]
      rfl
/-- The first line that goes or comes: where it is, up to k there is none. -/
theorem anyCh_take {ss : List ByteArray} {k : Nat} (hk : k < ss.length) : anyCh (ss.take (k + 1)) = (anyCh (ss.take k) || chg1 (ss.getD k ByteArray.empty)) := by
  unfold anyCh
  rw [List.take_succ_eq_append_getElem hk, List.any_append, getD_at ss k hk]; simp
theorem anyCh_hit {ss : List ByteArray} {k : Nat} (hk : k < ss.length) (h : chg1 (ss.getD k ByteArray.empty) = true) : anyCh ss = true := by
  rw [getD_at ss k hk] at h
  exact List.any_eq_true.2 ⟨_, List.getElem_mem hk, h⟩
/-- The code of one hunk; i, j: where the old and the new lines of the one ahead end. -/
def hkC (i j : Int) (h : Hk) : Int :=
  if 200 < (h.2.2.length : Int) then 2 else if h.2.2.all okH = false then 1 else if anyCh h.2.2 = false then 1
  else if (inB h.1 0 100 && inB h.2.1 0 100) = false then 3 else if h.1 < i ∨ ¬ h.1 - i = h.2.1 - j then 1 else 0
def hfF : List Hk → Int → Int → Int
  | [], _, _ => 0
  | h :: t, i, j => if hkC i j h = 0 then hfF t (h.1 + oldN h.2.2) (h.2.1 + newN h.2.2) else hkC i j h
/-- The fault of a list of hunks. -/
def hf (l : List Hk) : Int := if 100 < (l.length : Int) then 2 else hfF l 0 0
theorem hfF_stop {h : Hk} {t : List Hk} {i j c : Int} (e : hkC i j h = c) (hc : ¬ c = 0) : hfF (h :: t) i j = c := by
  rw [hfF, e, if_neg hc]
theorem hfF_go {h : Hk} {t : List Hk} {i j : Int} (e : hkC i j h = 0) : hfF (h :: t) i j = hfF t (h.1 + oldN h.2.2) (h.2.1 + newN h.2.2) := by
  rw [hfF, if_pos e]
theorem hk_drop (l : List Hk) (k : Nat) (h : k < l.length) : l.drop k = l.getD k (0, 0, []) :: l.drop (k + 1) := by
  rw [List.drop_eq_getElem_cons h]; simp [List.getD, h]
theorem hkC_many {i j : Int} {h : Hk} (h1 : 200 < (h.2.2.length : Int)) : hkC i j h = 2 := if_pos h1
theorem hkC_line {i j : Int} {h : Hk} (h1 : ¬ 200 < (h.2.2.length : Int)) (h2 : h.2.2.all okH = false) : hkC i j h = 1 := by
  unfold hkC; rw [if_neg h1, if_pos h2]
theorem hkC_none {i j : Int} {h : Hk} (h1 : ¬ 200 < (h.2.2.length : Int)) (h2 : h.2.2.all okH = true) (h3 : anyCh h.2.2 = false) : hkC i j h = 1 := by
  unfold hkC; rw [if_neg h1, h2, if_neg (by simp), if_pos h3]
theorem hkC_range {i j : Int} {h : Hk} (h1 : ¬ 200 < (h.2.2.length : Int)) (h2 : h.2.2.all okH = true) (h3 : anyCh h.2.2 = true) (h4 : (inB h.1 0 100 && inB h.2.1 0 100) = false) : hkC i j h = 3 := by
  unfold hkC; rw [if_neg h1, h2, if_neg (by simp), h3, if_neg (by simp), if_pos h4]
theorem hkC_form {i j : Int} {h : Hk} (h1 : ¬ 200 < (h.2.2.length : Int)) (h2 : h.2.2.all okH = true) (h3 : anyCh h.2.2 = true) (h4 : (inB h.1 0 100 && inB h.2.1 0 100) = true) (h5 : h.1 < i ∨ ¬ h.1 - i = h.2.1 - j) : hkC i j h = 1 := by
  unfold hkC; rw [if_neg h1, h2, if_neg (by simp), h3, if_neg (by simp), h4, if_neg (by simp), if_pos h5]
theorem hkC_ok {i j : Int} {h : Hk} (h1 : ¬ 200 < (h.2.2.length : Int)) (h2 : h.2.2.all okH = true) (h3 : anyCh h.2.2 = true) (h4 : (inB h.1 0 100 && inB h.2.1 0 100) = true) (h5 : ¬ (h.1 < i ∨ ¬ h.1 - i = h.2.1 - j)) : hkC i j h = 0 := by
  unfold hkC; rw [if_neg h1, h2, if_neg (by simp), h3, if_neg (by simp), h4, if_neg (by simp), if_neg h5]
theorem inB_bd {v lo hi : Int} (h : inB v lo hi = true) : lo ≤ v ∧ v ≤ hi := of_decide_eq_true h
/-- A hunk without a fault. -/
theorem hkC_zero {i j : Int} {h : Hk} (e : hkC i j h = 0) : h.2.2.length ≤ 200 ∧ h.2.2.all okH = true ∧ anyCh h.2.2 = true ∧ (0 ≤ h.1 ∧ h.1 ≤ 100) ∧ (0 ≤ h.2.1 ∧ h.2.1 ≤ 100) ∧ i ≤ h.1 ∧ h.1 - i = h.2.1 - j := by
  unfold hkC at e
  by_cases h1 : 200 < (h.2.2.length : Int)
  · rw [if_pos h1] at e; exact absurd e (by decide)
  rw [if_neg h1] at e
  by_cases h2 : h.2.2.all okH = false
  · rw [if_pos h2] at e; exact absurd e (by decide)
  rw [if_neg h2] at e
  by_cases h3 : anyCh h.2.2 = false
  · rw [if_pos h3] at e; exact absurd e (by decide)
  rw [if_neg h3] at e
  by_cases h4 : (inB h.1 0 100 && inB h.2.1 0 100) = false
  · rw [if_pos h4] at e; exact absurd e (by decide)
  rw [if_neg h4] at e
  by_cases h5 : h.1 < i ∨ ¬ h.1 - i = h.2.1 - j
  · rw [if_pos h5] at e; exact absurd e (by decide)
  have h4' : inB h.1 0 100 = true ∧ inB h.2.1 0 100 = true := by
    rw [← Bool.and_eq_true]; simpa using h4
  exact ⟨by omega, by simpa using h2, by simpa using h3, inB_bd h4'.1, inB_bd h4'.2, by omega, by omega⟩
end Go.Proofs.YtbghdelpnodijaaDoor
