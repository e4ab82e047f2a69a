/- Plain mathematics of hunks that are applied: line by line, or all old lines at once. No statement is proved here. -/
import Derived.Test.YtakegfhbhhkakaiLem
import Derived.Test.YtakegfhbhhkakaiStrs
import Derived.Test.YtakegfhbhhkakaiLFLem
import Derived.Test.YtakegfhbhhkakaiHkL
import Derived.Test.YtakegfhbhhkakaiApC
namespace Go.Proofs.Ytakegfhbhhkakai
open Go.RowKit

/-- Whether the lines os stand in xs at place i. -/
def stands (xs : List ByteArray) (i : Nat) (os : List ByteArray) : Prop := i + os.length ≤ xs.length ∧ (xs.drop i).take os.length = os
/-- The specification's walk through the lines of a hunk: the place and the lines that come of it. -/
def lineW (xs : List ByteArray) : List ByteArray → Nat → List ByteArray → Option (Nat × List ByteArray)
  | [], i, out => some (i, out)
  | s :: t, i, out =>
    if mark0 s = 43 then lineW xs t i (out ++ [s.extract 1 s.size])
    else if i < xs.length ∧ xs.getD i ByteArray.empty = s.extract 1 s.size then
      lineW xs t (i + 1) (if mark0 s = 45 then out else out ++ [s.extract 1 s.size])
    else none
theorem wout_cons (b : Int) (s : ByteArray) (t : List ByteArray) : wout b (s :: t) = if mark0 s = b then wout b t else s.extract 1 s.size :: wout b t := by
  unfold wout
  by_cases h : mark0 s = b
  · simp [h]
  · simp [h]
theorem stands_cons (xs : List ByteArray) (i : Nat) (o : ByteArray) (os : List ByteArray) : stands xs i (o :: os) ↔ (i < xs.length ∧ xs.getD i ByteArray.empty = o) ∧ stands xs (i + 1) os := by
  unfold stands
  constructor
  · rintro ⟨h1, h2⟩
    simp only [List.length_cons] at h1
    have hi : i < xs.length := by omega
    rw [List.drop_eq_getElem_cons hi, List.length_cons, List.take_succ_cons] at h2
    injection h2 with e1 e2
    exact ⟨⟨hi, by rw [getD_at xs i hi]; exact e1⟩, by omega, e2⟩
  · rintro ⟨⟨hi, e1⟩, h1, e2⟩
    refine ⟨by simp only [List.length_cons]; omega, ?_⟩
    rw [List.drop_eq_getElem_cons hi, List.length_cons, List.take_succ_cons, e2]
    rw [getD_at xs i hi] at e1
    rw [e1]
theorem lineW_ok (xs : List ByteArray) : ∀ (ss : List ByteArray) (i : Nat) (out : List ByteArray), i ≤ xs.length → stands xs i (wout 43 ss) → lineW xs ss i out = some (i + (wout 43 ss).length, out ++ wout 45 ss) := by
  intro ss
  induction ss with
  | nil => intro i out _ _; simp [lineW, wout]
  | cons s t ih =>
    intro i out hi h
    rw [lineW, wout_cons 43, wout_cons 45]
    rw [wout_cons] at h
    by_cases hm : mark0 s = 43
    · have h5 : ¬ mark0 s = 45 := by omega
      rw [if_pos hm] at h
      rw [if_pos hm, if_pos hm, if_neg h5, ih i _ hi h, List.append_assoc]; rfl
    · rw [if_neg hm] at h
      obtain ⟨hh, ht⟩ := (stands_cons xs i _ _).1 h
      rw [if_neg hm, if_neg hm, if_pos hh, ih (i + 1) _ (by omega) ht, List.length_cons]
      by_cases h5 : mark0 s = 45
      · rw [if_pos h5, if_pos h5]; congr 2; omega
      · rw [if_neg h5, if_neg h5, List.append_assoc]; congr 2; omega
theorem lineW_no (xs : List ByteArray) : ∀ (ss : List ByteArray) (i : Nat) (out : List ByteArray), i ≤ xs.length → ¬ stands xs i (wout 43 ss) → lineW xs ss i out = none := by
  intro ss
  induction ss with
  | nil => intro i out hi h; exact absurd ⟨by simpa [wout] using hi, by simp [wout]⟩ h
  | cons s t ih =>
    intro i out hi h
    rw [lineW]
    rw [wout_cons] at h
    by_cases hm : mark0 s = 43
    · rw [if_pos hm] at h
      rw [if_pos hm, ih i _ hi h]
    · rw [if_neg hm] at h
      rw [if_neg hm]
      by_cases hh : i < xs.length ∧ xs.getD i ByteArray.empty = s.extract 1 s.size
      · rw [if_pos hh]
        exact ih (i + 1) _ (by omega) (fun ht => h ((stands_cons xs i _ _).2 ⟨hh, ht⟩))
      · rw [if_neg hh]
end Go.Proofs.Ytakegfhbhhkakai
