/- Plain mathematics of the lines of a text. No statement is proved here. -/
import Derived.Test.YtibdlfojoafloaaLem
import Derived.Test.YtibdlfojoafloaaStrs
import Derived.Test.YtibdlfojoafloaaLFLem
namespace Go.Proofs.Ytibdlfojoafloaa
open Go.RowKit

/-- The lines of a text: what a line feed ends, it being the last byte, and what is behind the last one, if it is not empty. -/
def spl : List UInt8 → List (List UInt8)
  | [] => []
  | c :: l => if c = 10 then [c] :: spl l else match spl l with
    | [] => [[c]]
    | x :: xs => (c :: x) :: xs
theorem spl_feed (a r : List UInt8) (h : ¬ (10 : UInt8) ∈ a) : spl (a ++ 10 :: r) = (a ++ [10]) :: spl r := by
  induction a with
  | nil => simp [spl]
  | cons c a ih =>
    have hc : ¬ c = 10 := fun e => h (by simp [e])
    have := ih (fun hm => h (List.mem_cons_of_mem _ hm))
    rw [List.cons_append, spl, if_neg hc, this]
    rfl
theorem spl_one (a : List UInt8) (h : ¬ (10 : UInt8) ∈ a) (h0 : a ≠ []) : spl a = [a] := by
  induction a with
  | nil => exact absurd rfl h0
  | cons c a ih =>
    have hc : ¬ c = 10 := fun e => h (by simp [e])
    rw [spl, if_neg hc]
    cases a with
    | nil => rfl
    | cons d a => rw [ih (fun hm => h (List.mem_cons_of_mem _ hm)) (by simp)]
theorem spl_length (l : List UInt8) : (spl l).length ≤ l.length := by
  induction l with
  | nil => simp [spl]
  | cons c l ih =>
    rw [spl]
    split
    · simpa using ih
    · split
      · simp
      · rename_i x xs h
        rw [h] at ih
        simp at ih ⊢
        omega

def mkB (l : List UInt8) : ByteArray := ⟨l.toArray⟩
theorem mkB_data (l : List UInt8) : (mkB l).data.toList = l := rfl
theorem mkB_eq (s : ByteArray) : mkB s.data.toList = s := by cases s; rfl
/-- The lines from place k on. -/
def linesFrom (s : ByteArray) (k : Nat) : List ByteArray := (spl (s.data.toList.drop k)).map mkB
def linesOf (s : ByteArray) : List ByteArray := linesFrom s 0
/-- Where the line that begins at k ends. -/
def endOf (s : ByteArray) (k : Nat) : Nat := if Lib.indexByte (s.data.toList.drop k) 10 < 0 then s.size else k + (Lib.indexByte (s.data.toList.drop k) 10).toNat + 1
theorem extract_data (s : ByteArray) (a b : Nat) : (s.extract a b).data.toList = (s.data.toList.drop a).take (b - a) := by
  simp [ByteArray.data_extract, List.extract_eq_take_drop]
theorem size_eq (s : ByteArray) : s.data.toList.length = s.size := by simp
theorem extract_size_le (s : ByteArray) (a b : Nat) : (s.extract a b).size ≤ s.size := by
  rw [← size_eq, extract_data, List.length_take, List.length_drop, size_eq]; omega
theorem linesFrom_end (s : ByteArray) (k : Nat) (h : s.size ≤ k) : linesFrom s k = [] := by
  unfold linesFrom
  rw [List.drop_of_length_le (by rw [size_eq]; exact h)]
  rfl
theorem indexByte_split (l : List UInt8) (c : UInt8) (h : ¬ Lib.indexByte l c < 0) :
    ¬ c ∈ l.take (Lib.indexByte l c).toNat ∧ l = l.take (Lib.indexByte l c).toNat ++ c :: l.drop ((Lib.indexByte l c).toNat + 1) ∧ (Lib.indexByte l c).toNat < l.length := by
  induction l with
  | nil => exact absurd (by simp [Lib.indexByte]) h
  | cons b l ih =>
    by_cases hb : (b == c) = true
    · have e : b = c := by simpa using hb
      have : Lib.indexByte (b :: l) c = 0 := by unfold Lib.indexByte; rw [if_pos hb]
      rw [this]
      simp [e]
    · have hne : ¬ c = b := by intro e; exact hb (by simp [e])
      have hg := Lib.indexByte_ge l c
      have hval : Lib.indexByte (b :: l) c = if (Lib.indexByte l c == -1) = true then -1 else Lib.indexByte l c + 1 := by
        rw [Lib.indexByte]
        rw [if_neg hb]
      by_cases h1 : (Lib.indexByte l c == -1) = true
      · rw [hval, if_pos h1] at h
        exact absurd (by omega) h
      · have h2 : ¬ Lib.indexByte l c = -1 := by simpa using h1
        have h3 : ¬ Lib.indexByte l c < 0 := by omega
        obtain ⟨i1, i2, i3⟩ := ih h3
        have e : (Lib.indexByte (b :: l) c).toNat = (Lib.indexByte l c).toNat + 1 := by rw [hval, if_neg h1]; omega
        rw [e]
        refine ⟨?_, ?_, ?_⟩
        · simp only [List.take_succ_cons, List.mem_cons, hne, false_or]; exact i1
        · simp only [List.take_succ_cons, List.drop_succ_cons, List.cons_append]
          rw [← i2]
        · simp; omega
theorem take_mid (a r : List UInt8) (c : UInt8) : (a ++ c :: r).take (a.length + 1) = a ++ [c] := by
  rw [List.take_append, List.take_of_length_le (by omega)]
  simp
theorem endOf_bd (s : ByteArray) (k : Nat) (h : k < s.size) : k < endOf s k ∧ endOf s k ≤ s.size := by
  unfold endOf
  by_cases hneg : Lib.indexByte (s.data.toList.drop k) 10 < 0
  · rw [if_pos hneg]; exact ⟨h, Nat.le_refl _⟩
  · rw [if_neg hneg]
    have := (indexByte_split _ _ hneg).2.2
    rw [List.length_drop, size_eq] at this
    omega
/-- The lines from k on: the one that begins there, and those from its end on. -/
theorem linesFrom_step (s : ByteArray) (k : Nat) (h : k < s.size) : linesFrom s k = s.extract k (endOf s k) :: linesFrom s (endOf s k) := by
  have hx : s.extract k (endOf s k) = mkB ((s.data.toList.drop k).take (endOf s k - k)) := by
    apply WideShapes.bytes_inj
    rw [extract_data, mkB_data]
  rw [hx]
  unfold linesFrom
  rw [← List.map_cons]
  congr 1
  unfold endOf
  by_cases hneg : Lib.indexByte (s.data.toList.drop k) 10 < 0
  · rw [if_pos hneg]
    have hl : (s.data.toList.drop k).length = s.size - k := by rw [List.length_drop, size_eq]
    rw [List.take_of_length_le (by omega), List.drop_of_length_le (i := s.size) (by rw [size_eq]; exact Nat.le_refl _)]
    have hn : ¬ (10 : UInt8) ∈ s.data.toList.drop k := fun hm => by have := (indexByte_mem _ _).2 hm; omega
    rw [spl_one _ hn (by intro e; rw [e] at hl; simp at hl; omega)]
    rfl
  · rw [if_neg hneg]
    obtain ⟨i1, i2, i3⟩ := indexByte_split _ _ hneg
    generalize hj : (Lib.indexByte (s.data.toList.drop k) 10).toNat = j at *
    have e1 : k + j + 1 - k = j + 1 := by omega
    have e2 : s.data.toList.drop (k + j + 1) = (s.data.toList.drop k).drop (j + 1) := by rw [List.drop_drop]; congr 1
    rw [e1, e2]
    conv => lhs; rw [i2]
    rw [spl_feed _ _ i1]
    congr 1
    have ha : ((s.data.toList.drop k).take j).length = j := by rw [List.length_take]; omega
    have := take_mid ((s.data.toList.drop k).take j) ((s.data.toList.drop k).drop (j + 1)) 10
    rw [← i2, ha] at this
    exact this.symm
end Go.Proofs.Ytibdlfojoafloaa
