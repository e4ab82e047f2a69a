/- More on the lines that are chosen and the ends of both: plain lemmas on lists. No statement is proved here. -/
import Derived.Test.YtlgeoaepjghdhaaRows
import Derived.Test.YtlgeoaepjghdhaaCom
namespace Go.Proofs.Ytlgeoaepjghdhaa

theorem mat_bd (xs ys : List ByteArray) : ∀ (f i j : Nat), (xs.length - i) + (ys.length - j) ≤ f → ∀ p ∈ mat xs ys i j, p.1 < xs.length ∧ p.2 < ys.length := by
  intro f
  induction f with
  | zero =>
    intro i j h p hp
    rw [mat_end xs ys i j (by omega)] at hp; cases hp
  | succ f ih =>
    intro i j h p hp
    by_cases hij : i < xs.length ∧ j < ys.length
    · obtain ⟨hi, hj⟩ := hij
      by_cases he : xs.getD i ByteArray.empty = ys.getD j ByteArray.empty
      · rw [mat_eq xs ys i j hi hj he] at hp
        rcases List.mem_cons.1 hp with rfl | hp
        · exact ⟨hi, hj⟩
        · exact ih _ _ (by omega) p hp
      · cases hs : skipA xs ys i j with
        | true => rw [mat_skipA xs ys i j hi hj he hs] at hp; exact ih _ _ (by omega) p hp
        | false => rw [mat_skipB xs ys i j hi hj he hs] at hp; exact ih _ _ (by omega) p hp
    · rw [mat_end xs ys i j hij] at hp; cases hp
theorem ends_bd (xs ys : List ByteArray) (k : Nat) (h : k < (ends xs ys).length) : ((ends xs ys).getD k (0, 0)).1 ≤ xs.length ∧ ((ends xs ys).getD k (0, 0)).2 ≤ ys.length := by
  have e : (ends xs ys).getD k (0, 0) = (ends xs ys)[k] := by simp [List.getD, h]
  rw [e]
  have hm : (ends xs ys)[k] ∈ ends xs ys := List.getElem_mem h
  rcases List.mem_append.1 hm with hp | hp
  · have := mat_bd xs ys _ 0 0 (Nat.le_refl _) _ hp; omega
  · rw [List.mem_singleton.1 hp]; exact ⟨Nat.le_refl _, Nat.le_refl _⟩
theorem ends_length (xs ys : List ByteArray) : (ends xs ys).length = com xs ys + 1 := by
  unfold ends
  rw [List.length_append, mat_length xs ys _ 0 0 (Nat.le_refl _), comAt_zero]; rfl
theorem ends_drop (l : List (Nat × Nat)) (k : Nat) (h : k < l.length) : l.drop k = ((l.getD k (0, 0)).1, (l.getD k (0, 0)).2) :: l.drop (k + 1) := by
  have e : l.getD k (0, 0) = l[k] := by simp [List.getD, h]
  rw [e]
  exact List.drop_eq_getElem_cons h
end Go.Proofs.Ytlgeoaepjghdhaa
