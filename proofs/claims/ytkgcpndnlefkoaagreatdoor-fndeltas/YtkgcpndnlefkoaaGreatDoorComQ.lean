/- The longest common choice of two lists of lines, the walk that chooses it, and the changes between: plain lemmas on lists. No statement is proved here. -/
import Derived.Test.YtkgcpndnlefkoaaGreatDoorRows
namespace Go.Proofs.YtkgcpndnlefkoaaGreatDoor

/-- How many lines may be chosen of both. -/
def com : List ByteArray → List ByteArray → Nat
  | [], _ => 0
  | _ :: _, [] => 0
  | x :: xs, y :: ys => if x = y then com xs ys + 1 else max (com xs (y :: ys)) (com (x :: xs) ys)
  termination_by xs ys => xs.length + ys.length
theorem com_nil_left (ys : List ByteArray) : com [] ys = 0 := by rw [com]
theorem com_nil_right (xs : List ByteArray) : com xs [] = 0 := by cases xs <;> rw [com]
theorem com_eq (x : ByteArray) (xs ys : List ByteArray) : com (x :: xs) (x :: ys) = com xs ys + 1 := by rw [com, if_pos rfl]
theorem com_ne {x y : ByteArray} (xs ys : List ByteArray) (h : ¬ x = y) : com (x :: xs) (y :: ys) = max (com xs (y :: ys)) (com (x :: xs) ys) := by rw [com, if_neg h]

/-- One line more, on either side, is worth nothing or one. -/
theorem com_bounds : ∀ (n : Nat) (xs ys : List ByteArray), xs.length + ys.length ≤ n →
    (∀ x, com xs ys ≤ com (x :: xs) ys ∧ com (x :: xs) ys ≤ com xs ys + 1) ∧ (∀ y, com xs ys ≤ com xs (y :: ys) ∧ com xs (y :: ys) ≤ com xs ys + 1) := by
  intro n
  induction n with
  | zero =>
    intro xs ys h
    have hx : xs = [] := List.length_eq_zero_iff.1 (by omega)
    have hy : ys = [] := List.length_eq_zero_iff.1 (by omega)
    subst hx hy
    simp [com_nil_left, com_nil_right]
  | succ n ih =>
    intro xs ys h
    refine ⟨fun x => ?_, fun y => ?_⟩
    · cases ys with
      | nil => simp [com_nil_right]
      | cons y ys =>
        have hl : xs.length + ys.length ≤ n := by simp only [List.length_cons] at h; omega
        have i1 := (ih xs ys hl).2 y
        have i2 := (ih xs ys hl).1 x
        by_cases e : x = y
        · subst e; rw [com_eq]; omega
        · rw [com_ne xs ys e]; omega
    · cases xs with
      | nil => simp [com_nil_left]
      | cons x xs =>
        have hl : xs.length + ys.length ≤ n := by simp only [List.length_cons] at h; omega
        have i1 := (ih xs ys hl).2 y
        have i2 := (ih xs ys hl).1 x
        by_cases e : x = y
        · subst e; rw [com_eq]; omega
        · rw [com_ne xs ys e]; omega
theorem com_le_left (x : ByteArray) (xs ys : List ByteArray) : com (x :: xs) ys ≤ com xs ys + 1 := ((com_bounds _ xs ys (Nat.le_refl _)).1 x).2
theorem com_le_right (y : ByteArray) (xs ys : List ByteArray) : com xs (y :: ys) ≤ com xs ys + 1 := ((com_bounds _ xs ys (Nat.le_refl _)).2 y).2
theorem com_le_length : ∀ (n : Nat) (xs ys : List ByteArray), xs.length + ys.length ≤ n → com xs ys ≤ xs.length ∧ com xs ys ≤ ys.length := by
  intro n
  induction n with
  | zero =>
    intro xs ys h
    have hx : xs = [] := List.length_eq_zero_iff.1 (by omega)
    subst hx
    simp [com_nil_left]
  | succ n ih =>
    intro xs ys h
    cases xs with
    | nil => simp [com_nil_left]
    | cons x xs =>
      cases ys with
      | nil => simp [com_nil_right]
      | cons y ys =>
        simp only [List.length_cons] at h ⊢
        by_cases e : x = y
        · subst e
          have := ih xs ys (by omega)
          rw [com_eq]; omega
        · have i1 := ih xs (y :: ys) (by simp only [List.length_cons]; omega)
          have i2 := ih (x :: xs) ys (by simp only [List.length_cons]; omega)
          simp only [List.length_cons] at i1 i2
          rw [com_ne xs ys e]; omega

/-- How many from the places i and j on. -/
def comAt (xs ys : List ByteArray) (i j : Nat) : Nat := com (xs.drop i) (ys.drop j)
theorem comAt_end_left (xs ys : List ByteArray) (i j : Nat) (h : xs.length ≤ i) : comAt xs ys i j = 0 := by
  unfold comAt; rw [List.drop_of_length_le h, com_nil_left]
theorem comAt_end_right (xs ys : List ByteArray) (i j : Nat) (h : ys.length ≤ j) : comAt xs ys i j = 0 := by
  unfold comAt; rw [List.drop_of_length_le h, com_nil_right]
theorem getD_drop (xs : List ByteArray) (i : Nat) (h : i < xs.length) : xs.drop i = xs.getD i ByteArray.empty :: xs.drop (i + 1) := by
  rw [List.drop_eq_getElem_cons h]; simp [List.getD, h]
theorem comAt_eq (xs ys : List ByteArray) (i j : Nat) (hi : i < xs.length) (hj : j < ys.length) (h : xs.getD i ByteArray.empty = ys.getD j ByteArray.empty) :
    comAt xs ys i j = comAt xs ys (i + 1) (j + 1) + 1 := by
  unfold comAt; rw [getD_drop xs i hi, getD_drop ys j hj, h, com_eq]
theorem comAt_ne (xs ys : List ByteArray) (i j : Nat) (hi : i < xs.length) (hj : j < ys.length) (h : ¬ xs.getD i ByteArray.empty = ys.getD j ByteArray.empty) :
    comAt xs ys i j = max (comAt xs ys (i + 1) j) (comAt xs ys i (j + 1)) := by
  unfold comAt; rw [getD_drop xs i hi, getD_drop ys j hj, com_ne _ _ h]
theorem comAt_down_left (xs ys : List ByteArray) (i j : Nat) (hj : j < ys.length) : comAt xs ys i j ≤ comAt xs ys i (j + 1) + 1 := by
  unfold comAt; rw [getD_drop ys j hj]; exact com_le_right _ _ _
theorem comAt_down_right (xs ys : List ByteArray) (i j : Nat) (hi : i < xs.length) : comAt xs ys i j ≤ comAt xs ys (i + 1) j + 1 := by
  unfold comAt; rw [getD_drop xs i hi]; exact com_le_left _ _ _
theorem comAt_le (xs ys : List ByteArray) (i j : Nat) : comAt xs ys i j ≤ xs.length ∧ comAt xs ys i j ≤ ys.length := by
  have := com_le_length _ (xs.drop i) (ys.drop j) (Nat.le_refl _)
  simp only [List.length_drop] at this
  unfold comAt
  omega
theorem comAt_zero (xs ys : List ByteArray) : comAt xs ys 0 0 = com xs ys := by simp [comAt]
/-- What the specification's table takes at i, j. -/
theorem comAt_best_eq (xs ys : List ByteArray) (i j : Nat) (hi : i < xs.length) (hj : j < ys.length) (h : xs.getD i ByteArray.empty = ys.getD j ByteArray.empty) :
    max (max (comAt xs ys (i + 1) j) (comAt xs ys i (j + 1))) (1 + comAt xs ys (i + 1) (j + 1)) = comAt xs ys i j := by
  have h1 := comAt_down_left xs ys (i + 1) j hj
  have h2 := comAt_down_right xs ys i (j + 1) hi
  rw [comAt_eq xs ys i j hi hj h]
  omega

/-- Whether a's line is passed over, at lines that are not the same. -/
def skipA (xs ys : List ByteArray) (i j : Nat) : Bool := decide (comAt xs ys i (j + 1) ≤ comAt xs ys (i + 1) j)
/-- The places that are chosen from i and j on, in at most f steps. -/
def matF (xs ys : List ByteArray) : Nat → Nat → Nat → List (Nat × Nat)
  | 0, _, _ => []
  | f + 1, i, j =>
    if i < xs.length ∧ j < ys.length then
      if xs.getD i ByteArray.empty = ys.getD j ByteArray.empty then (i, j) :: matF xs ys f (i + 1) (j + 1)
      else if skipA xs ys i j = true then matF xs ys f (i + 1) j
      else matF xs ys f i (j + 1)
    else []
/-- The places that are chosen from i and j on. -/
def mat (xs ys : List ByteArray) (i j : Nat) : List (Nat × Nat) := matF xs ys ((xs.length - i) + (ys.length - j)) i j
theorem matF_more (xs ys : List ByteArray) : ∀ (f g i j : Nat), (xs.length - i) + (ys.length - j) ≤ f → (xs.length - i) + (ys.length - j) ≤ g → matF xs ys f i j = matF xs ys g i j := by
  have base : ∀ g i j, (xs.length - i) + (ys.length - j) = 0 → matF xs ys g i j = [] := by
    intro g i j h
    cases g with
    | zero => rfl
    | succ g => rw [matF, if_neg (by omega)]
  intro f
  induction f with
  | zero => intro g i j hf hg; rw [base 0 i j (by omega), base g i j (by omega)]
  | succ f ih =>
    intro g i j hf hg
    cases g with
    | zero => rw [base (f + 1) i j (by omega), base 0 i j (by omega)]
    | succ g =>
      rw [matF, matF]
      split
      · rename_i hij
        split
        · rw [ih g (i + 1) (j + 1) (by omega) (by omega)]
        · split
          · rw [ih g (i + 1) j (by omega) (by omega)]
          · rw [ih g i (j + 1) (by omega) (by omega)]
      · rfl
theorem mat_end (xs ys : List ByteArray) (i j : Nat) (h : ¬ (i < xs.length ∧ j < ys.length)) : mat xs ys i j = [] := by
  unfold mat
  cases hf : (xs.length - i) + (ys.length - j) with
  | zero => rfl
  | succ f => rw [matF, if_neg h]
theorem mat_eq (xs ys : List ByteArray) (i j : Nat) (hi : i < xs.length) (hj : j < ys.length) (h : xs.getD i ByteArray.empty = ys.getD j ByteArray.empty) :
    mat xs ys i j = (i, j) :: mat xs ys (i + 1) (j + 1) := by
  unfold mat
  obtain ⟨f, hf⟩ : ∃ f, (xs.length - i) + (ys.length - j) = f + 1 := ⟨(xs.length - i) + (ys.length - j) - 1, by omega⟩
  rw [hf, matF, if_pos ⟨hi, hj⟩, if_pos h]
  congr 1
  exact matF_more xs ys _ _ _ _ (by omega) (Nat.le_refl _)
theorem mat_skipA (xs ys : List ByteArray) (i j : Nat) (hi : i < xs.length) (hj : j < ys.length) (h : ¬ xs.getD i ByteArray.empty = ys.getD j ByteArray.empty) (hs : skipA xs ys i j = true) :
    mat xs ys i j = mat xs ys (i + 1) j := by
  unfold mat
  obtain ⟨f, hf⟩ : ∃ f, (xs.length - i) + (ys.length - j) = f + 1 := ⟨(xs.length - i) + (ys.length - j) - 1, by omega⟩
  rw [hf, matF, if_pos ⟨hi, hj⟩, if_neg h, if_pos hs]
  exact matF_more xs ys _ _ _ _ (by omega) (Nat.le_refl _)
theorem mat_skipB (xs ys : List ByteArray) (i j : Nat) (hi : i < xs.length) (hj : j < ys.length) (h : ¬ xs.getD i ByteArray.empty = ys.getD j ByteArray.empty) (hs : skipA xs ys i j = false) :
    mat xs ys i j = mat xs ys i (j + 1) := by
  unfold mat
  obtain ⟨f, hf⟩ : ∃ f, (xs.length - i) + (ys.length - j) = f + 1 := ⟨(xs.length - i) + (ys.length - j) - 1, by omega⟩
  rw [hf, matF, if_pos ⟨hi, hj⟩, if_neg h, if_neg (by rw [hs]; simp)]
  exact matF_more xs ys _ _ _ _ (by omega) (Nat.le_refl _)
/-- As many are chosen as may be, each in its range. -/
theorem mat_length (xs ys : List ByteArray) : ∀ (f i j : Nat), (xs.length - i) + (ys.length - j) ≤ f → (mat xs ys i j).length = comAt xs ys i j := by
  intro f
  induction f with
  | zero =>
    intro i j h
    rw [mat_end xs ys i j (by omega), comAt_end_left xs ys i j (by omega)]; rfl
  | succ f ih =>
    intro i j h
    by_cases hij : i < xs.length ∧ j < ys.length
    · obtain ⟨hi, hj⟩ := hij
      by_cases he : xs.getD i ByteArray.empty = ys.getD j ByteArray.empty
      · rw [mat_eq xs ys i j hi hj he, comAt_eq xs ys i j hi hj he, List.length_cons, ih _ _ (by omega)]
      · rw [comAt_ne xs ys i j hi hj he]
        cases hs : skipA xs ys i j with
        | true =>
          rw [mat_skipA xs ys i j hi hj he hs, ih _ _ (by omega)]
          have := of_decide_eq_true hs
          omega
        | false =>
          rw [mat_skipB xs ys i j hi hj he hs, ih _ _ (by omega)]
          have := of_decide_eq_false hs
          omega
    · rw [mat_end xs ys i j hij]
      by_cases hi : xs.length ≤ i
      · rw [comAt_end_left xs ys i j hi]; rfl
      · rw [comAt_end_right xs ys i j (by omega)]; rfl
/-- A change: AtA, DelA, AtB, InsB. -/
abbrev Chg := Int × Int × Int × Int
/-- The changes between places that are chosen, from i and j on. -/
def chg : List (Nat × Nat) → Nat → Nat → List Chg
  | [], _, _ => []
  | (p, q) :: rest, i, j => if i < p ∨ j < q then ((i : Int), (p : Int) - i, (j : Int), (q : Int) - j) :: chg rest (p + 1) (q + 1) else chg rest (p + 1) (q + 1)
theorem chg_more {p q i j : Nat} (rest : List (Nat × Nat)) (h : i < p ∨ j < q) : chg ((p, q) :: rest) i j = ((i : Int), (p : Int) - i, (j : Int), (q : Int) - j) :: chg rest (p + 1) (q + 1) := by rw [chg, if_pos h]
theorem chg_less {p q i j : Nat} (rest : List (Nat × Nat)) (h : ¬ (i < p ∨ j < q)) : chg ((p, q) :: rest) i j = chg rest (p + 1) (q + 1) := by rw [chg, if_neg h]
theorem chg_length (l : List (Nat × Nat)) : ∀ i j, (chg l i j).length ≤ l.length := by
  induction l with
  | nil => intro i j; exact Nat.le_refl _
  | cons a l ih =>
    obtain ⟨p, q⟩ := a
    intro i j
    have := ih (p + 1) (q + 1)
    by_cases h : i < p ∨ j < q
    · rw [chg_more l h]; simp only [List.length_cons]; omega
    · rw [chg_less l h]; simp only [List.length_cons]; omega
/-- The places that are chosen, and the ends of both. -/
def ends (xs ys : List ByteArray) : List (Nat × Nat) := mat xs ys 0 0 ++ [(xs.length, ys.length)]
/-- The changes that make ys of xs. -/
def changes (xs ys : List ByteArray) : List Chg := chg (ends xs ys) 0 0
/-- The lines that go and come of all changes. -/
def edits (l : List Chg) : Int := (l.map fun c => c.2.1 + c.2.2.2).sum
theorem edits_cons (c : Chg) (l : List Chg) : edits (c :: l) = c.2.1 + c.2.2.2 + edits l := by simp [edits]
theorem edits_chg (xs ys : List ByteArray) : ∀ (f i j i0 j0 : Nat), (xs.length - i) + (ys.length - j) ≤ f → i0 ≤ i → i ≤ xs.length → j0 ≤ j → j ≤ ys.length →
    edits (chg (mat xs ys i j ++ [(xs.length, ys.length)]) i0 j0) = (xs.length : Int) - i0 + ((ys.length : Int) - j0) - 2 * (comAt xs ys i j : Int) := by
  have stop : ∀ i0 j0 : Nat, i0 ≤ xs.length → j0 ≤ ys.length → edits (chg [(xs.length, ys.length)] i0 j0) = (xs.length : Int) - i0 + ((ys.length : Int) - j0) := by
    intro i0 j0 h1 h2
    by_cases h : i0 < xs.length ∨ j0 < ys.length
    · rw [chg_more _ h, edits_cons]; simp [chg, edits]
    · rw [chg_less _ h]; simp [chg, edits]; omega
  intro f
  induction f with
  | zero =>
    intro i j i0 j0 hf h1 h2 h3 h4
    rw [mat_end xs ys i j (by omega), comAt_end_left xs ys i j (by omega), List.nil_append, stop i0 j0 (by omega) (by omega)]
    omega
  | succ f ih =>
    intro i j i0 j0 hf h1 h2 h3 h4
    by_cases hij : i < xs.length ∧ j < ys.length
    · obtain ⟨hi, hj⟩ := hij
      by_cases he : xs.getD i ByteArray.empty = ys.getD j ByteArray.empty
      · rw [mat_eq xs ys i j hi hj he, comAt_eq xs ys i j hi hj he, List.cons_append]
        have := ih (i + 1) (j + 1) (i + 1) (j + 1) (by omega) (Nat.le_refl _) (by omega) (Nat.le_refl _) (by omega)
        by_cases h : i0 < i ∨ j0 < j
        · rw [chg_more _ h, edits_cons, this]; simp only []; omega
        · rw [chg_less _ h, this]; omega
      · rw [comAt_ne xs ys i j hi hj he]
        cases hs : skipA xs ys i j with
        | true =>
          rw [mat_skipA xs ys i j hi hj he hs, ih _ _ _ _ (by omega) (by omega) (by omega) (by omega) (by omega)]
          have := of_decide_eq_true hs
          omega
        | false =>
          rw [mat_skipB xs ys i j hi hj he hs, ih _ _ _ _ (by omega) (by omega) (by omega) (by omega) (by omega)]
          have := of_decide_eq_false hs
          omega
    · rw [mat_end xs ys i j hij, List.nil_append, stop i0 j0 (by omega) (by omega)]
      by_cases hi : xs.length ≤ i
      · rw [comAt_end_left xs ys i j hi]; omega
      · rw [comAt_end_right xs ys i j (by omega)]; omega
theorem edits_changes (xs ys : List ByteArray) : edits (changes xs ys) = (xs.length : Int) + ys.length - 2 * (com xs ys : Int) := by
  have := edits_chg xs ys _ 0 0 0 0 (Nat.le_refl _) (Nat.le_refl _) (Nat.zero_le _) (Nat.le_refl _) (Nat.zero_le _)
  rw [comAt_zero] at this
  unfold changes ends
  omega
end Go.Proofs.YtkgcpndnlefkoaaGreatDoor
