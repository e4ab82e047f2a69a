/- The greatest common choice of lines: it is the same both ways round, it keeps the triangle, and it is all of both just where they are the same. Plain lemmas. No statement is proved here. -/
import Derived.Test.YtgidcncmicmggacRows
import Derived.Test.YtgidcncmicmggacCom
namespace Go.Proofs.Ytgidcncmicmggac

theorem com_up_left (x : ByteArray) (xs ys : List ByteArray) : com xs ys ≤ com (x :: xs) ys := ((com_bounds _ xs ys (Nat.le_refl _)).1 x).1
theorem com_up_right (y : ByteArray) (xs ys : List ByteArray) : com xs ys ≤ com xs (y :: ys) := ((com_bounds _ xs ys (Nat.le_refl _)).2 y).1
theorem com_symm : ∀ (n : Nat) (xs ys : List ByteArray), xs.length + ys.length ≤ n → com xs ys = com ys xs := by
  intro n
  induction n with
  | zero =>
    intro xs ys h
    have hx : xs = [] := List.length_eq_zero_iff.1 (by omega)
    have hy : ys = [] := List.length_eq_zero_iff.1 (by omega)
    subst hx hy; rfl
  | succ n ih =>
    intro xs ys h
    cases xs with
    | nil => rw [com_nil_left, com_nil_right]
    | cons x xs =>
      cases ys with
      | nil => rw [com_nil_left, com_nil_right]
      | cons y ys =>
        simp only [List.length_cons] at h
        by_cases e : x = y
        · subst e
          rw [com_eq, com_eq, ih xs ys (by omega)]
        · rw [com_ne xs ys e, com_ne ys xs (fun h' => e h'.symm), ih xs (y :: ys) (by simp only [List.length_cons]; omega), ih (x :: xs) ys (by simp only [List.length_cons]; omega)]
          omega
theorem com_triangle : ∀ (n : Nat) (a b c : List ByteArray), a.length + b.length + c.length ≤ n → com a b + com b c ≤ b.length + com a c := by
  intro n
  induction n with
  | zero =>
    intro a b c h
    have hb : b = [] := List.length_eq_zero_iff.1 (by omega)
    subst hb
    rw [com_nil_right, com_nil_left]; omega
  | succ n ih =>
    intro a b c h
    cases b with
    | nil => rw [com_nil_right, com_nil_left]; omega
    | cons y b =>
      cases a with
      | nil =>
        have := (com_le_length _ (y :: b) c (Nat.le_refl _)).1
        rw [com_nil_left]; omega
      | cons x a =>
        cases c with
        | nil =>
          have := (com_le_length _ (x :: a) (y :: b) (Nat.le_refl _)).2
          rw [com_nil_right (y :: b)]; omega
        | cons z c =>
          simp only [List.length_cons] at h ⊢
          by_cases e : x = y
          · subst e
            by_cases e2 : x = z
            · subst e2
              have := ih a b c (by omega)
              rw [com_eq, com_eq, com_eq]; omega
            · have i1 := ih a b (z :: c) (by simp only [List.length_cons]; omega)
              have i2 := ih (x :: a) (x :: b) c (by simp only [List.length_cons]; omega)
              have u1 := com_up_left x a (z :: c)
              have u2 := com_up_right z (x :: a) c
              rw [com_eq] at i2
              simp only [List.length_cons] at i2
              rw [com_eq, com_ne b c e2]
              omega
          · have i1 := ih a (y :: b) (z :: c) (by simp only [List.length_cons]; omega)
            have i2 := ih (x :: a) b (z :: c) (by simp only [List.length_cons]; omega)
            have u1 := com_up_left x a (z :: c)
            have u2 := com_le_left y b (z :: c)
            simp only [List.length_cons] at i1
            rw [com_ne a b e]
            omega
theorem com_self (xs : List ByteArray) : com xs xs = xs.length := by
  induction xs with
  | nil => exact com_nil_left _
  | cons x xs ih => rw [com_eq, ih]; rfl
theorem com_full : ∀ (n : Nat) (xs ys : List ByteArray), xs.length + ys.length ≤ n → com xs ys = xs.length → com xs ys = ys.length → xs = ys := by
  intro n
  induction n with
  | zero =>
    intro xs ys h _ _
    have hx : xs = [] := List.length_eq_zero_iff.1 (by omega)
    have hy : ys = [] := List.length_eq_zero_iff.1 (by omega)
    rw [hx, hy]
  | succ n ih =>
    intro xs ys h h1 h2
    cases xs with
    | nil =>
      have : ys = [] := List.length_eq_zero_iff.1 (by rw [← h2, h1]; rfl)
      rw [this]
    | cons x xs =>
      cases ys with
      | nil => rw [com_nil_right] at h1; simp at h1
      | cons y ys =>
        simp only [List.length_cons] at h h1 h2
        by_cases e : x = y
        · subst e
          rw [com_eq] at h1 h2
          rw [ih xs ys (by omega) (by omega) (by omega)]
        · rw [com_ne xs ys e] at h1 h2
          have i1 := (com_le_length _ xs (y :: ys) (Nat.le_refl _)).1
          have i2 := (com_le_length _ (x :: xs) ys (Nat.le_refl _)).2
          omega
/-- No way over third lines is shorter than the straight one. -/
theorem edits_triangle (a b c : List ByteArray) : edits (changes a c) ≤ edits (changes a b) + edits (changes b c) := by
  have := com_triangle _ a b c (Nat.le_refl _)
  rw [edits_changes, edits_changes, edits_changes]
  omega
theorem edits_symm (a b : List ByteArray) : edits (changes a b) = edits (changes b a) := by
  have := com_symm _ a b (Nat.le_refl _)
  rw [edits_changes, edits_changes]
  omega
theorem edits_zero (a b : List ByteArray) : edits (changes a b) = 0 ↔ a = b := by
  have h := com_le_length _ a b (Nat.le_refl _)
  rw [edits_changes]
  constructor
  · intro e
    exact com_full _ a b (Nat.le_refl _) (by omega) (by omega)
  · rintro rfl
    rw [com_self]; omega
end Go.Proofs.Ytgidcncmicmggac
