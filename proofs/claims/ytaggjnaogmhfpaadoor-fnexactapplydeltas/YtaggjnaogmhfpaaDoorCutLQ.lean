/- Texts cut at a byte: what the parts are. No statement is proved here. -/
import Derived.Test.YtaggjnaogmhfpaaDoorRows
import Derived.Test.YtaggjnaogmhfpaaDoorLemQ
import Derived.Test.YtaggjnaogmhfpaaDoorIdxBQ
namespace Go.Proofs.YtaggjnaogmhfpaaDoor

/-- The parts of a list of bytes between the bytes c. -/
def cutL (c : UInt8) : List UInt8 → List (List UInt8)
  | [] => [[]]
  | x :: xs => if x = c then [] :: cutL c xs else match cutL c xs with
    | [] => [[x]]
    | y :: ys => (x :: y) :: ys
theorem cut_none {c : UInt8} : ∀ {l : List UInt8}, ¬ c ∈ l → cutL c l = [l]
  | [], _ => rfl
  | x :: xs, h => by
    have h1 : ¬ x = c := fun e => h (by rw [e]; exact List.mem_cons_self)
    have h2 : ¬ c ∈ xs := fun e => h (List.mem_cons_of_mem _ e)
    simp only [cutL, if_neg h1, cut_none h2]
theorem cut_at {c : UInt8} (q : List UInt8) : ∀ {p : List UInt8}, ¬ c ∈ p → cutL c (p ++ c :: q) = p :: cutL c q
  | [], _ => by simp [cutL]
  | x :: xs, h => by
    have h1 : ¬ x = c := fun e => h (by rw [e]; exact List.mem_cons_self)
    have h2 : ¬ c ∈ xs := fun e => h (List.mem_cons_of_mem _ e)
    simp only [List.cons_append, cutL, if_neg h1, cut_at q h2]
theorem cut_len (c : UInt8) : ∀ l : List UInt8, 1 ≤ (cutL c l).length ∧ (cutL c l).length ≤ l.length + 1
  | [] => by simp [cutL]
  | x :: xs => by
    have ih := cut_len c xs
    by_cases h : x = c
    · simp only [cutL, if_pos h, List.length_cons]; omega
    · simp only [cutL, if_neg h]
      cases e : cutL c xs with
      | nil => simp
      | cons y ys => rw [e] at ih; simp only [List.length_cons] at ih ⊢; omega
theorem cut_size (c : UInt8) : ∀ (l y : List UInt8), y ∈ cutL c l → y.length ≤ l.length
  | [], y, h => by simp [cutL] at h; rw [h]; simp
  | x :: xs, y, h => by
    by_cases e : x = c
    · simp only [cutL, if_pos e, List.mem_cons] at h
      rcases h with rfl | h
      · simp
      · have := cut_size c xs y h; simp only [List.length_cons]; omega
    · simp only [cutL, if_neg e] at h
      cases e2 : cutL c xs with
      | nil => rw [e2] at h; simp at h; rw [h]; simp
      | cons z zs =>
        rw [e2] at h
        have hz := cut_size c xs z (by rw [e2]; exact List.mem_cons_self)
        rcases List.mem_cons.1 h with rfl | h
        · simp only [List.length_cons]; omega
        · have := cut_size c xs y (by rw [e2]; exact List.mem_cons_of_mem _ h); simp only [List.length_cons]; omega
/-- The bytes from fr up to k. -/
def sg (s : ByteArray) (fr k : Nat) : List UInt8 := (s.data.toList.drop fr).take (k - fr)
theorem sg_byte (s : ByteArray) (k : Nat) (h : k < s.size) : s.data.toList[k]'(by rw [size_eq]; exact h) = s[k] := rfl
theorem sg_snoc (s : ByteArray) (fr k : Nat) (h1 : fr ≤ k) (h : k < s.size) : sg s fr (k + 1) = sg s fr k ++ [s[k]] := by
  unfold sg
  have hl : k - fr < (s.data.toList.drop fr).length := by rw [List.length_drop, size_eq]; omega
  have e : k + 1 - fr = (k - fr) + 1 := by omega
  rw [e, List.take_succ_eq_append_getElem hl, List.getElem_drop]
  congr 2
  rw [← sg_byte s k h]
  congr 1
  omega
def cutFrom (c : UInt8) (s : ByteArray) (k : Nat) : List ByteArray := (cutL c (s.data.toList.drop k)).map mkB
def cutOf (c : UInt8) (s : ByteArray) : List ByteArray := cutFrom c s 0
theorem mkB_sg (s : ByteArray) (fr k : Nat) : mkB (sg s fr k) = s.extract fr k := by
  apply bytes_inj2
  rw [ByteArray.toList_eq, ByteArray.toList_eq, extract_data, mkB_data]
  rfl
theorem cutFrom_last (c : UInt8) (s : ByteArray) (fr : Nat) (h : ¬ c ∈ sg s fr s.size) : cutFrom c s fr = [s.extract fr s.size] := by
  have e : s.data.toList.drop fr = sg s fr s.size := by
    unfold sg
    rw [List.take_of_length_le (by rw [List.length_drop, size_eq]; exact Nat.le_refl _)]
  unfold cutFrom
  rw [e, cut_none h, ← mkB_sg]
  rfl
theorem cutFrom_at (c : UInt8) (s : ByteArray) (fr k : Nat) (h1 : fr ≤ k) (hk : k < s.size) (h : ¬ c ∈ sg s fr k) (hc : s[k] = c) : cutFrom c s fr = s.extract fr k :: cutFrom c s (k + 1) := by
  have hl : k - fr < (s.data.toList.drop fr).length := by rw [List.length_drop, size_eq]; omega
  have e : s.data.toList.drop fr = sg s fr k ++ c :: s.data.toList.drop (k + 1) := by
    conv => lhs; rw [← List.take_append_drop (k - fr) (s.data.toList.drop fr), List.drop_eq_getElem_cons hl]
    unfold sg
    rw [List.drop_drop]
    congr 2
    · rw [List.getElem_drop, ← hc, ← sg_byte s k hk]
      congr 1
      omega
    · congr 1; omega
  unfold cutFrom
  rw [e, cut_at _ h, List.map_cons, mkB_sg]
theorem cutFrom_len (c : UInt8) (s : ByteArray) (fr : Nat) : 1 ≤ (cutFrom c s fr).length ∧ (cutFrom c s fr).length ≤ s.size - fr + 1 := by
  have := cut_len c (s.data.toList.drop fr)
  unfold cutFrom
  rw [List.length_map]
  rw [List.length_drop, size_eq] at this
  exact this
theorem cutFrom_size (c : UInt8) (s : ByteArray) (fr : Nat) : ∀ x ∈ cutFrom c s fr, x.size ≤ s.size := by
  intro x hx
  obtain ⟨y, hy, rfl⟩ := List.mem_map.1 hx
  have := cut_size c _ y hy
  rw [List.length_drop, size_eq] at this
  rw [← size_eq, mkB_data]
  omega
/-- Where the first byte c is looked for from fr on. -/
theorem idx_none {c : UInt8} {s : ByteArray} {fr : Nat} (h : Lib.indexByte (s.data.toList.drop fr) c < 0) : ¬ c ∈ sg s fr s.size := by
  intro e
  have e2 : s.data.toList.drop fr = sg s fr s.size := by
    unfold sg
    rw [List.take_of_length_le (by rw [List.length_drop, size_eq]; exact Nat.le_refl _)]
  rw [← e2] at e
  have := (indexByte_mem _ c).2 e
  omega
end Go.Proofs.YtaggjnaogmhfpaaDoor
