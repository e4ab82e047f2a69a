/- Plain mathematics of a hunk's lines: which are right, and how many are old and new. No statement is proved here. -/
import Derived.Test.YtnkbjbbaoddfkaaGreatDoorLemQ
import Derived.Test.YtnkbjbbaoddfkaaGreatDoorLFLemQ
import Derived.Test.YtnkbjbbaoddfkaaGreatDoorDTabQ
namespace Go.Proofs.YtnkbjbbaoddfkaaGreatDoor
open Go.RowKit

theorem extractData (s : ByteArray) (a b : Nat) : (s.extract a b).data.toList = (s.data.toList.drop a).take (b - a) := by
  simp [ByteArray.data_extract, List.extract_eq_take_drop]
theorem tail_data (s : ByteArray) : (s.extract 1 s.size).data.toList = s.data.toList.drop 1 := by
  rw [extractData, List.take_of_length_le (by rw [List.length_drop]; simp)]
theorem tail_size (s : ByteArray) : (s.extract 1 s.size).size = s.size - 1 := by simp
/-- The first byte of a line: its mark. -/
def mark0 (s : ByteArray) : Int := ((s.data.toList.getD 0 0).toNat : Int)
theorem mark0_eq (s : ByteArray) (h : 0 < s.size) : mark0 s = (s[0].toNat : Int) := by
  have hl : 0 < s.data.toList.length := by simpa using h
  unfold mark0
  have : s.data.toList.getD 0 0 = s[0] := by simp only [List.getD, List.getElem?_eq_getElem hl]; rfl
  rw [this]
theorem mark0_bd (s : ByteArray) : 0 ≤ mark0 s ∧ mark0 s ≤ 255 := byte_bd _
def isMk (b : Int) : Bool := decide (b = 32 ∨ b = 45 ∨ b = 43)
/-- How many old and new lines a line with this mark is. -/
def old1 (b : Int) : Int := if b = 32 ∨ b = 45 then 1 else 0
def new1 (b : Int) : Int := if b = 32 ∨ b = 43 then 1 else 0
theorem old1_bd (b : Int) : 0 ≤ old1 b ∧ old1 b ≤ 1 := by unfold old1; split <;> omega
theorem new1_bd (b : Int) : 0 ≤ new1 b ∧ new1 b ≤ 1 := by unfold new1; split <;> omega
theorem isMk_sum (b : Int) : isMk b = decide (0 < old1 b + new1 b) := by
  unfold isMk old1 new1
  by_cases h1 : b = 32
  · subst h1; rfl
  · by_cases h2 : b = 45
    · subst h2; rfl
    · by_cases h3 : b = 43
      · subst h3; rfl
      · simp [h1, h2, h3]
theorem old1_mk {b : Int} (h : isMk b = true) : old1 b = if b = 43 then 0 else 1 := by
  have h' : b = 32 ∨ b = 45 ∨ b = 43 := of_decide_eq_true h
  rcases h' with rfl | rfl | rfl <;> rfl
theorem new1_mk {b : Int} (h : isMk b = true) : new1 b = if b = 45 then 0 else 1 := by
  have h' : b = 32 ∨ b = 45 ∨ b = 43 := of_decide_eq_true h
  rcases h' with rfl | rfl | rfl <;> rfl
/-- A line of a hunk is right: a mark, and a line behind it. -/
def okH (s : ByteArray) : Bool := decide (0 < s.size) && (isMk (mark0 s) && okLine (s.extract 1 s.size).data.toList true)
theorem okH_size {s : ByteArray} (h : okH s = true) : 0 < s.size := by
  unfold okH at h
  rw [Bool.and_eq_true] at h
  exact of_decide_eq_true h.1
theorem okH_mk {s : ByteArray} (h : okH s = true) : isMk (mark0 s) = true := by
  unfold okH at h
  rw [Bool.and_eq_true, Bool.and_eq_true] at h
  exact h.2.1
theorem okLine_true (l : List UInt8) : okLine l true = !(decide (l = []) || decide (ended l < l.length - 1)) := by
  have := okLine_spec l 0 1 (by omega)
  simpa using this
/-- The specification's words for the same. -/
theorem okH_spec (s : ByteArray) : okH s = !(decide (s.size < 2) || !isMk (mark0 s) || decide (ended (s.extract 1 s.size).data.toList < (s.size : Int) - 2)) := by
  unfold okH
  rw [okLine_true, tail_data]
  have hl : (s.data.toList.drop 1).length = s.size - 1 := by rw [List.length_drop]; simp
  by_cases h0 : s.size < 2
  · have e : s.data.toList.drop 1 = [] := List.drop_of_length_le (by simp; omega)
    simp [h0, e]
  · have hne : ¬ s.data.toList.drop 1 = [] := fun e => by rw [e] at hl; simp at hl; omega
    have h1 : 0 < s.size := by omega
    have e2 : (((s.data.toList.drop 1).length : Nat) : Int) - 1 = (s.size : Int) - 2 := by rw [hl]; omega
    rw [e2]
    have e3 : decide (0 < s.size) = true := decide_eq_true h1
    have e4 : decide (s.size < 2) = false := decide_eq_false h0
    have e5 : decide (s.data.toList.drop 1 = []) = false := decide_eq_false hne
    rw [e3, e4, e5]
    cases isMk (mark0 s) <;> simp
/-- All lines are right, up to k. -/
def okTo (ss : List ByteArray) (k : Nat) : Bool := (ss.take k).all okH
theorem okTo_zero (ss : List ByteArray) : okTo ss 0 = true := by simp [okTo]
theorem okTo_succ {ss : List ByteArray} {k : Nat} (hk : k < ss.length) : okTo ss (k + 1) = (okTo ss k && okH (ss.getD k ByteArray.empty)) := by
  unfold okTo
  rw [List.take_succ_eq_append_getElem hk, List.all_append, getD_at ss k hk]; simp
theorem okTo_full (ss : List ByteArray) : okTo ss ss.length = ss.all okH := by unfold okTo; rw [List.take_length]
theorem okTo_bad {ss : List ByteArray} {k : Nat} (hk : k < ss.length) (h : okH (ss.getD k ByteArray.empty) = false) : ss.all okH = false := by
  cases e : ss.all okH with
  | false => rfl
  | true =>
    rw [getD_at ss k hk] at h
    rw [List.all_eq_true.1 e _ (List.getElem_mem hk)] at h; cases h
theorem okTo_at {ss : List ByteArray} (h : ss.all okH = true) {k : Nat} (hk : k < ss.length) : okH (ss.getD k ByteArray.empty) = true := by
  rw [getD_at ss k hk]; exact List.all_eq_true.1 h _ (List.getElem_mem hk)
/-- How many old and how many new lines. -/
def oldN (ss : List ByteArray) : Int := (ss.map fun s => old1 (mark0 s)).sum
def newN (ss : List ByteArray) : Int := (ss.map fun s => new1 (mark0 s)).sum
theorem sum_take (f : ByteArray → Int) (ss : List ByteArray) (k : Nat) (h : k < ss.length) : ((ss.take (k + 1)).map f).sum = ((ss.take k).map f).sum + f (ss.getD k ByteArray.empty) := by
  rw [List.take_succ_eq_append_getElem h, List.map_append, List.sum_append, getD_at ss k h]; simp
theorem oldN_take (ss : List ByteArray) (k : Nat) (h : k < ss.length) : oldN (ss.take (k + 1)) = oldN (ss.take k) + old1 (mark0 (ss.getD k ByteArray.empty)) := sum_take _ ss k h
theorem newN_take (ss : List ByteArray) (k : Nat) (h : k < ss.length) : newN (ss.take (k + 1)) = newN (ss.take k) + new1 (mark0 (ss.getD k ByteArray.empty)) := sum_take _ ss k h
theorem sum_bd (f : ByteArray → Int) (h : ∀ s, 0 ≤ f s ∧ f s ≤ 1) (ss : List ByteArray) : 0 ≤ (ss.map f).sum ∧ (ss.map f).sum ≤ ss.length := by
  induction ss with
  | nil => simp
  | cons s ss ih =>
    have := h s
    simp only [List.map_cons, List.sum_cons, List.length_cons]
    omega
theorem oldN_bd (ss : List ByteArray) : 0 ≤ oldN ss ∧ oldN ss ≤ ss.length := sum_bd _ (fun _ => old1_bd _) ss
theorem newN_bd (ss : List ByteArray) : 0 ≤ newN ss ∧ newN ss ≤ ss.length := sum_bd _ (fun _ => new1_bd _) ss
/-- What SizesOf tells. -/
def szC (ss : List ByteArray) : Int := if ss.all okH = true then 0 else 1
def szV (ss : List ByteArray) : List Int := if ss.all okH = true then [oldN ss, newN ss] else []
theorem szC_ok {ss : List ByteArray} (h : ss.all okH = true) : szC ss = 0 := if_pos h
theorem szC_no {ss : List ByteArray} (h : ss.all okH = false) : szC ss = 1 := if_neg (by rw [h]; exact Bool.false_ne_true)
theorem szV_ok {ss : List ByteArray} (h : ss.all okH = true) : szV ss = [oldN ss, newN ss] := if_pos h
theorem szV_no {ss : List ByteArray} (h : ss.all okH = false) : szV ss = [] := if_neg (by rw [h]; exact Bool.false_ne_true)
theorem szV_length (ss : List ByteArray) : (szV ss).length ≤ 2 := by
  unfold szV; split <;> simp
end Go.Proofs.YtnkbjbbaoddfkaaGreatDoor
/- Plain mathematics of the faults of hunks. No statement is proved here. -/
namespace Go.Proofs.YtnkbjbbaoddfkaaGreatDoor
open Go.RowKit

/-- A hunk: AtA, AtB, Lines. -/
abbrev Hk := Int × Int × List ByteArray
/-- A line goes or comes. -/
def chg1 (s : ByteArray) : Bool := mark0 s != 32
def anyCh (ss : List ByteArray) : Bool := ss.any chg1
/-- How many lines stay. -/
def stay1 (s : ByteArray) : Int := if mark0 s = 32 then 1 else 0
def stays (ss : List ByteArray) : Int := (ss.map stay1).sum
theorem stays_take (ss : List ByteArray) (k : Nat) (h : k < ss.length) : stays (ss.take (k + 1)) = stays (ss.take k) + stay1 (ss.getD k ByteArray.empty) := sum_take _ ss k h
theorem stay1_bd (s : ByteArray) : 0 ≤ stay1 s ∧ stay1 s ≤ 1 := by unfold stay1; split <;> omega
theorem stays_bd (ss : List ByteArray) : 0 ≤ stays ss ∧ stays ss ≤ ss.length := sum_bd _ stay1_bd ss
theorem stays_all (ss : List ByteArray) : anyCh ss = !decide (stays ss = (ss.length : Int)) := by
  induction ss with
  | nil => rfl
  | cons s ss ih =>
    have e1 : stays (s :: ss) = stay1 s + stays ss := by simp [stays]
    have e2 : anyCh (s :: ss) = (chg1 s || anyCh ss) := rfl
    have hb := stays_bd ss
    rw [e1, e2, ih, List.length_cons]
    unfold chg1 stay1
    by_cases h : mark0 s = 32
    · rw [if_pos h]
      have : (mark0 s != 32) = false := by simp [h]
      rw [this, Bool.false_or]
      congr 1
      rw [decide_eq_decide]
      omega
    · rw [if_neg h]
      have : (mark0 s != 32) = true := by simp [h]
      rw [this, Bool.true_or, decide_eq_false (by omega)]
      rfl
/-- The first line that goes or comes: where it is, up to k there is none. -/
theorem anyCh_take {ss : List ByteArray} {k : Nat} (hk : k < ss.length) : anyCh (ss.take (k + 1)) = (anyCh (ss.take k) || chg1 (ss.getD k ByteArray.empty)) := by
  unfold anyCh
  rw [List.take_succ_eq_append_getElem hk, List.any_append, getD_at ss k hk]; simp
theorem anyCh_hit {ss : List ByteArray} {k : Nat} (hk : k < ss.length) (h : chg1 (ss.getD k ByteArray.empty) = true) : anyCh ss = true := by
  rw [getD_at ss k hk] at h
  exact List.any_eq_true.2 ⟨_, List.getElem_mem hk, h⟩
/-- The code of one hunk; i, j: where the old and the new lines of the one ahead end. -/
def hkC (i j : Int) (h : Hk) : Int :=
  if 200 < (h.2.2.length : Int) then 2 else if h.2.2.all okH = false then 1 else if anyCh h.2.2 = false then 1
  else if (inB h.1 0 100 && inB h.2.1 0 100) = false then 3 else if h.1 < i ∨ ¬ h.1 - i = h.2.1 - j then 1 else 0
def hfF : List Hk → Int → Int → Int
  | [], _, _ => 0
  | h :: t, i, j => if hkC i j h = 0 then hfF t (h.1 + oldN h.2.2) (h.2.1 + newN h.2.2) else hkC i j h
/-- The fault of a list of hunks. -/
def hf (l : List Hk) : Int := if 100 < (l.length : Int) then 2 else hfF l 0 0
theorem hfF_stop {h : Hk} {t : List Hk} {i j c : Int} (e : hkC i j h = c) (hc : ¬ c = 0) : hfF (h :: t) i j = c := by
  rw [hfF, e, if_neg hc]
theorem hfF_go {h : Hk} {t : List Hk} {i j : Int} (e : hkC i j h = 0) : hfF (h :: t) i j = hfF t (h.1 + oldN h.2.2) (h.2.1 + newN h.2.2) := by
  rw [hfF, if_pos e]
theorem hk_drop (l : List Hk) (k : Nat) (h : k < l.length) : l.drop k = l.getD k (0, 0, []) :: l.drop (k + 1) := by
  rw [List.drop_eq_getElem_cons h]; simp [List.getD, h]
theorem hkC_many {i j : Int} {h : Hk} (h1 : 200 < (h.2.2.length : Int)) : hkC i j h = 2 := if_pos h1
theorem hkC_line {i j : Int} {h : Hk} (h1 : ¬ 200 < (h.2.2.length : Int)) (h2 : h.2.2.all okH = false) : hkC i j h = 1 := by
  unfold hkC; rw [if_neg h1, if_pos h2]
theorem hkC_none {i j : Int} {h : Hk} (h1 : ¬ 200 < (h.2.2.length : Int)) (h2 : h.2.2.all okH = true) (h3 : anyCh h.2.2 = false) : hkC i j h = 1 := by
  unfold hkC; rw [if_neg h1, h2, if_neg (by simp), if_pos h3]
theorem hkC_range {i j : Int} {h : Hk} (h1 : ¬ 200 < (h.2.2.length : Int)) (h2 : h.2.2.all okH = true) (h3 : anyCh h.2.2 = true) (h4 : (inB h.1 0 100 && inB h.2.1 0 100) = false) : hkC i j h = 3 := by
  unfold hkC; rw [if_neg h1, h2, if_neg (by simp), h3, if_neg (by simp), if_pos h4]
theorem hkC_form {i j : Int} {h : Hk} (h1 : ¬ 200 < (h.2.2.length : Int)) (h2 : h.2.2.all okH = true) (h3 : anyCh h.2.2 = true) (h4 : (inB h.1 0 100 && inB h.2.1 0 100) = true) (h5 : h.1 < i ∨ ¬ h.1 - i = h.2.1 - j) : hkC i j h = 1 := by
  unfold hkC; rw [if_neg h1, h2, if_neg (by simp), h3, if_neg (by simp), h4, if_neg (by simp), if_pos h5]
theorem hkC_ok {i j : Int} {h : Hk} (h1 : ¬ 200 < (h.2.2.length : Int)) (h2 : h.2.2.all okH = true) (h3 : anyCh h.2.2 = true) (h4 : (inB h.1 0 100 && inB h.2.1 0 100) = true) (h5 : ¬ (h.1 < i ∨ ¬ h.1 - i = h.2.1 - j)) : hkC i j h = 0 := by
  unfold hkC; rw [if_neg h1, h2, if_neg (by simp), h3, if_neg (by simp), h4, if_neg (by simp), if_neg h5]
theorem inB_bd {v lo hi : Int} (h : inB v lo hi = true) : lo ≤ v ∧ v ≤ hi := of_decide_eq_true h
/-- A hunk without a fault. -/
theorem hkC_zero {i j : Int} {h : Hk} (e : hkC i j h = 0) : h.2.2.length ≤ 200 ∧ h.2.2.all okH = true ∧ anyCh h.2.2 = true ∧ (0 ≤ h.1 ∧ h.1 ≤ 100) ∧ (0 ≤ h.2.1 ∧ h.2.1 ≤ 100) ∧ i ≤ h.1 ∧ h.1 - i = h.2.1 - j := by
  unfold hkC at e
  by_cases h1 : 200 < (h.2.2.length : Int)
  · rw [if_pos h1] at e; exact absurd e (by decide)
  rw [if_neg h1] at e
  by_cases h2 : h.2.2.all okH = false
  · rw [if_pos h2] at e; exact absurd e (by decide)
  rw [if_neg h2] at e
  by_cases h3 : anyCh h.2.2 = false
  · rw [if_pos h3] at e; exact absurd e (by decide)
  rw [if_neg h3] at e
  by_cases h4 : (inB h.1 0 100 && inB h.2.1 0 100) = false
  · rw [if_pos h4] at e; exact absurd e (by decide)
  rw [if_neg h4] at e
  by_cases h5 : h.1 < i ∨ ¬ h.1 - i = h.2.1 - j
  · rw [if_pos h5] at e; exact absurd e (by decide)
  have h4' : inB h.1 0 100 = true ∧ inB h.2.1 0 100 = true := by
    rw [← Bool.and_eq_true]; simpa using h4
  exact ⟨by omega, by simpa using h2, by simpa using h3, inB_bd h4'.1, inB_bd h4'.2, by omega, by omega⟩
end Go.Proofs.YtnkbjbbaoddfkaaGreatDoor
