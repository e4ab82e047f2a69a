/- The places of a choice of lines: they rise on both sides, and the lines there are the same. Plain lemmas. No statement is proved here. -/
import Derived.Test.YtciddfpkcdicaaaRows
import Derived.Test.YtciddfpkcdicaaaComQ
namespace Go.Proofs.Ytciddfpkcdicaaa

theorem mat_in (xs ys : List ByteArray) : ∀ (f i j : Nat), (xs.length - i) + (ys.length - j) ≤ f → ∀ p ∈ mat xs ys i j, i ≤ p.1 ∧ j ≤ p.2 ∧ p.1 < xs.length ∧ p.2 < ys.length ∧ xs.getD p.1 ByteArray.empty = ys.getD p.2 ByteArray.empty := by
  intro f
  induction f with
  | zero =>
    intro i j h p hp
    rw [mat_end xs ys i j (by omega)] at hp
    cases hp
  | succ f ih =>
    intro i j h p hp
    by_cases hij : i < xs.length ∧ j < ys.length
    · obtain ⟨hi, hj⟩ := hij
      by_cases e : xs.getD i ByteArray.empty = ys.getD j ByteArray.empty
      · rw [mat_eq xs ys i j hi hj e] at hp
        rcases List.mem_cons.1 hp with rfl | hp
        · exact ⟨Nat.le_refl _, Nat.le_refl _, hi, hj, e⟩
        · have := ih (i + 1) (j + 1) (by omega) p hp
          exact ⟨by omega, by omega, this.2.2⟩
      · by_cases hs : skipA xs ys i j = true
        · rw [mat_skipA xs ys i j hi hj e hs] at hp
          have := ih (i + 1) j (by omega) p hp
          exact ⟨by omega, this.2⟩
        · rw [mat_skipB xs ys i j hi hj e (by simpa using hs)] at hp
          have := ih i (j + 1) (by omega) p hp
          exact ⟨this.1, by omega, this.2.2⟩
    · rw [mat_end xs ys i j hij] at hp
      cases hp
theorem mat_rises (xs ys : List ByteArray) : ∀ (f i j : Nat), (xs.length - i) + (ys.length - j) ≤ f → (mat xs ys i j).Pairwise (fun p q => p.1 < q.1 ∧ p.2 < q.2) := by
  intro f
  induction f with
  | zero =>
    intro i j h
    rw [mat_end xs ys i j (by omega)]
    exact List.Pairwise.nil
  | succ f ih =>
    intro i j h
    by_cases hij : i < xs.length ∧ j < ys.length
    · obtain ⟨hi, hj⟩ := hij
      by_cases e : xs.getD i ByteArray.empty = ys.getD j ByteArray.empty
      · rw [mat_eq xs ys i j hi hj e]
        refine List.Pairwise.cons (fun q hq => ?_) (ih (i + 1) (j + 1) (by omega))
        have := mat_in xs ys _ (i + 1) (j + 1) (Nat.le_refl _) q hq
        exact ⟨by simp only []; omega, by simp only []; omega⟩
      · by_cases hs : skipA xs ys i j = true
        · rw [mat_skipA xs ys i j hi hj e hs]
          exact ih (i + 1) j (by omega)
        · rw [mat_skipB xs ys i j hi hj e (by simpa using hs)]
          exact ih i (j + 1) (by omega)
    · rw [mat_end xs ys i j hij]
      exact List.Pairwise.nil
/-- The place k of the choice. -/
def mt (xs ys : List ByteArray) (k : Nat) : Nat × Nat := (mat xs ys 0 0).getD k (0, 0)
theorem mt_in {xs ys : List ByteArray} {k : Nat} (h : k < (mat xs ys 0 0).length) : (mt xs ys k).1 < xs.length ∧ (mt xs ys k).2 < ys.length ∧ xs.getD (mt xs ys k).1 ByteArray.empty = ys.getD (mt xs ys k).2 ByteArray.empty := by
  have hm : mt xs ys k ∈ mat xs ys 0 0 := by
    unfold mt
    rw [List.getD, List.getElem?_eq_getElem h]
    exact List.getElem_mem h
  exact (mat_in xs ys _ 0 0 (Nat.le_refl _) _ hm).2.2
theorem mt_rises {xs ys : List ByteArray} {k m : Nat} (h : k < (mat xs ys 0 0).length) (hm : m < k) : (mt xs ys m).1 < (mt xs ys k).1 ∧ (mt xs ys m).2 < (mt xs ys k).2 := by
  have := (List.pairwise_iff_getElem.1 (mat_rises xs ys _ 0 0 (Nat.le_refl _))) m k (by omega) h hm
  unfold mt
  rw [List.getD, List.getD, List.getElem?_eq_getElem h, List.getElem?_eq_getElem (by omega)]
  exact this
theorem mat_com (xs ys : List ByteArray) : (mat xs ys 0 0).length = com xs ys := by
  rw [mat_length xs ys _ 0 0 (Nat.le_refl _), comAt_zero]
end Go.Proofs.Ytciddfpkcdicaaa
