/- Plain mathematics of the faults of lines: which line is right, and the fault of a list of lines. No statement is proved here. -/
import Derived.Test.YtibdlfojoafloaaLem
import Derived.Test.YtibdlfojoafloaaStrs
namespace Go.Proofs.Ytibdlfojoafloaa
open Go.RowKit

theorem indexByte_app (pre post : List UInt8) (c : UInt8) (h : ¬ c ∈ pre) : Lib.indexByte (pre ++ c :: post) c = pre.length := by
  induction pre with
  | nil => simp [Lib.indexByte]
  | cons b l ih =>
    have hb : (b == c) = false := by
      cases e : (b == c) with
      | false => rfl
      | true => exact absurd (by simp [show b = c by simpa using e]) h
    have hi := ih (fun hm => h (List.mem_cons_of_mem _ hm))
    rw [List.cons_append]
    unfold Lib.indexByte
    rw [hb, hi]
    have : ((l.length : Int) == -1) = false := by simp
    rw [this]
    simp
theorem indexByte_none (l : List UInt8) (c : UInt8) (h : ¬ c ∈ l) : Lib.indexByte l c = -1 := by
  have h1 := Lib.indexByte_ge l c
  have h2 : ¬ 0 ≤ Lib.indexByte l c := fun h' => h ((indexByte_mem l c).1 h')
  omega
theorem indexByte_lt (l : List UInt8) (c : UInt8) : Lib.indexByte l c < l.length ∨ (Lib.indexByte l c = -1) := by
  induction l with
  | nil => right; rfl
  | cons b l ih =>
    unfold Lib.indexByte
    by_cases hb : (b == c) = true
    · left; simp [hb]
    · have hb' : (b == c) = false := by simpa using hb
      rw [hb']
      by_cases h1 : (Lib.indexByte l c == -1) = true
      · right; simp [h1]
      · have h2 : ¬ Lib.indexByte l c = -1 := by simpa using h1
        left
        simp only [h1, Bool.false_eq_true, if_false, List.length_cons]
        omega

/-- Where the first line feed of a line is; its length, if there is none. -/
def ended (l : List UInt8) : Int := if Lib.indexByte l 10 < 0 then l.length else Lib.indexByte l 10
/-- A line is right: not empty; its line feed, where it has one, is its last byte; without one it is the last line. -/
def okLine (l : List UInt8) (last : Bool) : Bool := if l = [] then false else if Lib.indexByte l 10 < 0 then last else decide (Lib.indexByte l 10 = l.length - 1)
def okAt (ss : List ByteArray) (i : Nat) : Bool := okLine (ss.getD i ByteArray.empty).data.toList (decide ((i : Int) = (ss.length : Int) - 1))
def allOk (ss : List ByteArray) (k : Nat) : Bool := (List.range k).all (okAt ss)
theorem allOk_zero (ss : List ByteArray) : allOk ss 0 = true := rfl
theorem allOk_succ {ss : List ByteArray} {k : Nat} (h : allOk ss k = true) (e : okAt ss k = true) : allOk ss (k + 1) = true := by
  unfold allOk at *
  rw [List.range_succ, List.all_append, h]; simp [e]
theorem allOk_not {ss : List ByteArray} {k n : Nat} (e : okAt ss k = false) (hk : k < n) : allOk ss n = false := by
  unfold allOk
  cases h : (List.range n).all (okAt ss) with
  | false => rfl
  | true =>
    have := List.all_eq_true.1 h k (List.mem_range.2 hk)
    rw [e] at this; cases this
/-- The fault of a list of lines. -/
def lf (ss : List ByteArray) : Int := if 100 < (ss.length : Int) ∨ 2000 < tot ss then 2 else if allOk ss ss.length = true then 0 else 1
theorem lf_many {ss : List ByteArray} (h : 100 < (ss.length : Int) ∨ 2000 < tot ss) : lf ss = 2 := if_pos h
theorem lf_ok {ss : List ByteArray} (h : ¬ (100 < (ss.length : Int) ∨ 2000 < tot ss)) (e : allOk ss ss.length = true) : lf ss = 0 := by
  unfold lf; rw [if_neg h, if_pos e]
theorem lf_form {ss : List ByteArray} (h : ¬ (100 < (ss.length : Int) ∨ 2000 < tot ss)) {k : Nat} (hk : k < ss.length) (e : okAt ss k = false) : lf ss = 1 := by
  unfold lf; rw [if_neg h, if_neg (by rw [allOk_not e hk]; simp)]
theorem ended_bd (l : List UInt8) : 0 ≤ ended l ∧ ended l ≤ l.length := by
  unfold ended
  have := indexByte_lt l 10
  split <;> omega
/-- The specification's test of a line, in the words of 'okLine'. -/
theorem okLine_spec (l : List UInt8) (k n : Int) (hk : k ≤ n - 1) :
    okLine l (decide (k = n - 1)) = !(decide (l = []) || decide (ended l < l.length - 1) || (decide (ended l = l.length) && decide (k < n - 1))) := by
  have hlt := indexByte_lt l 10
  have hge := Lib.indexByte_ge l 10
  unfold okLine ended
  by_cases h0 : l = []
  · simp [h0]
  · have hpos : 0 < l.length := by
      cases l with
      | nil => exact absurd rfl h0
      | cons => simp
    rw [if_neg h0]
    by_cases h1 : Lib.indexByte l 10 < 0
    · rw [if_pos h1, if_pos h1]
      by_cases hk2 : k = n - 1
      · simp [h0, hk2]; omega
      · have : k < n - 1 := by omega
        simp [h0, hk2, this]
    · rw [if_neg h1, if_neg h1]
      by_cases h2 : Lib.indexByte l 10 = l.length - 1
      · simp [h0, h2]; omega
      · have h3 : Lib.indexByte l 10 < l.length - 1 := by omega
        simp [h2, h3]
end Go.Proofs.Ytibdlfojoafloaa
