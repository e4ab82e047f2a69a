/- Plain mathematics of a hunk's lines: which are right, and how many are old and new. No statement is proved here. -/
import Derived.Test.YtbghdelpnodijaaDoorLem
import Derived.Test.YtbghdelpnodijaaDoorStrs
import Derived.Test.YtbghdelpnodijaaDoorLFLem
namespace Go.Proofs.YtbghdelpnodijaaDoor
open Go.RowKit

theorem extractData (s : ByteArray) (a b : Nat) : (s.extract a b).data.toList = (s.data.toList.drop a).take (b - a) := by
  simp [ByteArray.data_extract, List.extract_eq_take_drop]
theorem tail_data (s : ByteArray) : (s.extract 1 s.size).data.toList = s.data.toList.drop 1 := by
  rw [extractData, List.take_of_length_le (by rw [List.length_drop]; simp)]
theorem tail_size (s : ByteArray) : (s.extract 1 s.size).size = s.size - 1 := by simp
/-- The first byte of a line: its mark. -/
def mark0 (s : ByteArray) : Int := ((s.data.toList.getD 0 0).toNat : Int)
theorem mark0_eq (s : ByteArray) (h : 0 < s.size) : mark0 s = (s[0].toNat : Int) := by
  have hl : 0 < s.data.toList.length := by simpa using h
  unfold mark0
  have : s.data.toList.getD 0 0 = s[0] := by simp only [List.getD, List.getElem?_eq_getElem hl]; rfl
  rw [this]
theorem mark0_bd (s : ByteArray) : 0 ≤ mark0 s ∧ mark0 s ≤ 255 := byte_bd _
def isMk (b : Int) : Bool := decide (b = 32 ∨ b = 45 ∨ b = 43)
/-- How many old and new lines a line with this mark is. -/
def old1 (b : Int) : Int := if b = 32 ∨ b = 45 then 1 else 0
def new1 (b : Int) : Int := if b = 32 ∨ b = 43 then 1 else 0
theorem old1_bd (b : Int) : 0 ≤ old1 b ∧ old1 b ≤ 1 := by unfold old1; split <;> omega
theorem new1_bd (b : Int) : 0 ≤ new1 b ∧ new1 b ≤ 1 := by unfold new1; split <;> omega
theorem isMk_sum (b : Int) : isMk b = decide (0 < old1 b + new1 b) := by
  unfold isMk old1 new1
  by_cases h1 : b = 32
  · subst h1; rfl
  · by_cases h2 : b = 45
    · subst h2; rfl
    · by_cases h3 : b = 43
      · subst h3; rfl
      · simp [h1, h2, h3]
theorem old1_mk {b : Int} (h : isMk b = true) : old1 b = if b = 43 then 0 else 1 := by
  have h' : b = 32 ∨ b = 45 ∨ b = 43 := of_decide_eq_true h
  rcases h' with rfl | rfl | rfl <;> rfl
theorem new1_mk {b : Int} (h : isMk b = true) : new1 b = if b = 45 then 0 else 1 := by
  have h' : b = 32 ∨ b = 45 ∨ b = 43 := of_decide_eq_true h
  rcases h' with rfl | rfl | rfl <;> rfl
/-- A line of a hunk is right: a mark, and a line behind it. -/
def okH (s : ByteArray) : Bool := decide (0 < s.size) && (isMk (mark0 s) && okLine (s.extract 1 s.size).data.toList true)
theorem okH_size {s : ByteArray} (h : okH s = true) : 0 < s.size := by
  unfold okH at h
  rw [Bool.and_eq_true] at h
  exact of_decide_eq_true h.1
theorem okH_mk {s : ByteArray} (h : okH s = true) : isMk (mark0 s) = true := by
  unfold okH at h
  rw [Bool.and_eq_true, Bool.and_eq_true] at h
  exact h.2.1
theorem okLine_true (l : List UInt8) : okLine l true = !(decide (l = []) || decide (ended l < l.length - 1)) := by
  have := okLine_spec l 0 1 (by omega)
  simpa using this
/-- The specification's words for the same. -/
theorem okH_spec (s : ByteArray) : okH s = !(decide (s.size < 2) || !isMk (mark0 s) || decide (ended (s.extract 1 s.size).data.toList < (s.size : Int) - 2)) := by
  unfold okH
  rw [okLine_true, tail_data]
  have hl : (s.data.toList.drop 1).length = s.size - 1 := by rw [List.length_drop]; simp
  by_cases h0 : s.size < 2
  · have e : s.data.toList.drop 1 = [] := List.drop_of_length_le (by simp; omega)
    simp [h0, e]
  · have hne : ¬ s.data.toList.drop 1 = [] := fun e => by rw [e] at hl; simp at hl; omega
    have h1 : 0 < s.size := by omega
    have e2 : (((s.data.toList.drop 1).length : Nat) : Int) - 1 = (s.size : Int) - 2 := by rw [hl]; omega
    rw [e2]
    have e3 : decide (0 < s.size) = true := decide_eq_true h1
    have e4 : decide (s.size < 2) = false := decide_eq_false h0
    have e5 : decide (s.data.toList.drop 1 = []) = false := decide_eq_false hne
    rw [e3, e4, e5]
    cases isMk (mark0 s) <;> simp
/-- All lines are right, up to k. -/
def okTo (ss : List ByteArray) (k : Nat) : Bool := (ss.take k).all okH
theorem okTo_zero (ss : List ByteArray) : okTo ss 0 = true := by simp [okTo]
theorem okTo_succ {ss : List ByteArray} {k : Nat} (hk : k < ss.length) : okTo ss (k + 1) = (okTo ss k && okH (ss.getD k ByteArray.empty)) := by
  unfold okTo
  rw [List.take_succ_eq_append_getElem hk, List.all_append, getD_at ss k hk]; simp
theorem okTo_full (ss : List ByteArray) : okTo ss ss.length = ss.all okH := by unfold okTo; rw [List.take_length]
theorem okTo_bad {ss : List ByteArray} {k : Nat} (hk : k < ss.length) (h : okH (ss.getD k ByteArray.empty) = false) : ss.all okH = false := by
  cases e : ss.all okH with
  | false => rfl
  | true =>
    rw [getD_at ss k hk] at h
    rw [List.all_eq_true.1 e _ (List.getElem_mem hk)] at h; cases h
theorem okTo_at {ss : List ByteArray} (h : ss.all okH = true) {k : Nat} (hk : k < ss.length) : okH (ss.getD k ByteArray.empty) = true := by
  rw [getD_at ss k hk]; exact List.all_eq_true.1 h _ (List.getElem_mem hk)
/-- How many old and how many new lines. -/
def oldN (ss : List ByteArray) : Int := (ss.map fun s => old1 (mark0 s)).sum
def newN (ss : List ByteArray) : Int := (ss.map fun s => new1 (mark0 s)).sum
theorem sum_take (f : ByteArray → Int) (ss : List ByteArray) (k : Nat) (h : k < ss.length) : ((ss.take (k + 1)).map f).sum = ((ss.take k).map f).sum + f (ss.getD k ByteArray.empty) := by
  rw [List.take_succ_eq_append_getElem h, List.map_append, List.sum_append, getD_at ss k h]; simp
theorem oldN_take (ss : List ByteArray) (k : Nat) (h : k < ss.length) : oldN (ss.take (k + 1)) = oldN (ss.take k) + old1 (mark0 (ss.getD k ByteArray.empty)) := sum_take _ ss k h
theorem newN_take (ss : List ByteArray) (k : Nat) (h : k < ss.length) : newN (ss.take (k + 1)) = newN (ss.take k) + new1 (mark0 (ss.getD k ByteArray.empty)) := sum_take _ ss k h
theorem sum_bd (f : ByteArray → Int) (h : ∀ s, 0 ≤ f s ∧ f s ≤ 1) (ss : List ByteArray) : 0 ≤ (ss.map f).sum ∧ (ss.map f).sum ≤ ss.length := by
  induction ss with
  | nil => simp
  | cons s ss ih =>
    have := h s
    simp only [List.map_cons, List.sum_cons, List.length_cons]
    omega
theorem oldN_bd (ss : List ByteArray) : 0 ≤ oldN ss ∧ oldN ss ≤ ss.length := sum_bd _ (fun _ => old1_bd _) ss
theorem newN_bd (ss : List ByteArray) : 0 ≤ newN ss ∧ newN ss ≤ ss.length := sum_bd _ (fun _ => new1_bd _) ss
/-- What SizesOf tells. -/
def szC (ss : List ByteArray) : Int := if ss.all okH = true then 0 else 1
def szV (ss : List ByteArray) : List Int := if ss.all okH = true then [oldN ss, newN ss] else []
theorem szC_ok {ss : List ByteArray} (h : ss.all okH = true) : szC ss = 0 := if_pos h
theorem szC_no {ss : List ByteArray} (h : ss.all okH = false) : szC ss = 1 := if_neg (by rw [h]; exact Bool.false_ne_true)
theorem szV_ok {ss : List ByteArray} (h : ss.all okH = true) : szV ss = [oldN ss, newN ss] := if_pos h
theorem szV_no {ss : List ByteArray} (h : ss.all okH = false) : szV ss = [] := if_neg (by rw [h]; exact Bool.false_ne_true)
theorem szV_length (ss : List ByteArray) : (szV ss).length ≤ 2 := by
  unfold szV; split <;> simp
end Go.Proofs.YtbghdelpnodijaaDoor
