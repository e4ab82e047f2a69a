/- Scores as floats: that the program's way comes to the whole number of the document, for every number of lines. No statement is proved here. -/
import Derived.Test.YtgidcncmicmggacRows
import Derived.Test.YtgidcncmicmggacLem
import Derived.Laws.FloatArith
import Derived.Laws.Cover2
import Derived.Laws.Externs
import Derived.WalkKit
import Derived.ProofKit
import Derived.Below
import Derived.WalkSpells
namespace Go.Proofs.Ytgidcncmicmggac.Sc
open Go.ChangeShapes Go.WideShapes Go.ChangeAt Go.RowKit

/-- What a float is that is made whole, downwards. -/
def flB (q : Nat) : Option Nat := match FloatKind.f64.decode q with
  | .nan _ _ => none
  | d => some (FloatKind.f64.encode (d.integral .down))
/-- The program's way for c common lines of n in all. -/
def qB (c n : Nat) : Option Nat := match floatBits .mul .f64 4611686018427387904 (floatOfInt .f64 c) with
  | none => none
  | some a => match floatBits .mul .f64 a 4652007308841189376 with
    | none => none
    | some b => floatBits .quo .f64 b (floatOfInt .f64 n)
def chk (c n : Nat) : Bool := match qB c n with
  | none => false
  | some q => match flB q with
    | none => false
    | some f => decide (floatToIntVal .f64 f .i64 = some ((2000 * c / n : Nat) : Int)) && (FloatKind.f64.format.order q q == some .eq)
def all (lo hi : Nat) : Bool := (List.range (hi - lo)).all fun i => (List.range 201).all fun n => decide (n < 2 * (lo + i)) || n == 0 || chk (lo + i) n
theorem all1 : all 0 26 = true := by decide +kernel
theorem all2 : all 26 51 = true := by decide +kernel
theorem all3 : all 51 76 = true := by decide +kernel
theorem all4 : all 76 101 = true := by decide +kernel
theorem all_at {lo hi c n : Nat} (h : all lo hi = true) (h1 : lo ≤ c) (h2 : c < hi) (hn : n ≤ 200) (h0 : 0 < n) (hc : 2 * c ≤ n) : chk c n = true := by
  have a := List.all_eq_true.1 h (c - lo) (List.mem_range.2 (by omega))
  have b := List.all_eq_true.1 a n (List.mem_range.2 (by omega))
  rw [show lo + (c - lo) = c by omega] at b
  have e1 : decide (n < 2 * c) = false := decide_eq_false (by omega)
  have e2 : (n == 0) = false := beq_eq_false_iff_ne.2 (by omega)
  rw [e1, e2] at b
  simpa using b
theorem chk_all {c n : Nat} (hn : n ≤ 200) (h0 : 0 < n) (hc : 2 * c ≤ n) : chk c n = true := by
  by_cases h1 : c < 26
  · exact all_at all1 (by omega) h1 hn h0 hc
  by_cases h2 : c < 51
  · exact all_at all2 (by omega) h2 hn h0 hc
  by_cases h3 : c < 76
  · exact all_at all3 (by omega) h3 hn h0 hc
  · exact all_at all4 (by omega) (by omega) hn h0 hc
theorem score_way {c n : Nat} (hn : n ≤ 200) (h0 : 0 < n) (hc : 2 * c ≤ n) : ∃ a b q f, floatBits .mul .f64 4611686018427387904 (floatOfInt .f64 c) = some a ∧ floatBits .mul .f64 a 4652007308841189376 = some b ∧ floatBits .quo .f64 b (floatOfInt .f64 n) = some q ∧ flB q = some f ∧ floatToIntVal .f64 f .i64 = some ((2000 * c / n : Nat) : Int) ∧ (FloatKind.f64.format.order q q != some .eq) = false := by
  have h := chk_all hn h0 hc
  unfold chk qB at h
  cases e1 : floatBits .mul .f64 4611686018427387904 (floatOfInt .f64 c) with
  | none => rw [e1] at h; cases h
  | some a =>
    rw [e1] at h
    simp only at h
    cases e2 : floatBits .mul .f64 a 4652007308841189376 with
    | none => rw [e2] at h; cases h
    | some b =>
      rw [e2] at h
      simp only at h
      cases e3 : floatBits .quo .f64 b (floatOfInt .f64 n) with
      | none => rw [e3] at h; cases h
      | some q =>
        rw [e3] at h
        simp only at h
        cases e4 : flB q with
        | none => rw [e4] at h; cases h
        | some f =>
          rw [e4] at h
          simp only [Bool.and_eq_true] at h
          exact ⟨a, b, q, f, rfl, e2, e3, e4, of_decide_eq_true h.1, by rw [bne, h.2]; rfl⟩
end Go.Proofs.Ytgidcncmicmggac.Sc
