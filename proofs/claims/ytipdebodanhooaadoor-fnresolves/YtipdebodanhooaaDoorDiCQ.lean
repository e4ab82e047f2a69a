/- The contracts of InDir (the program's and the specification's). No statement is proved here. -/
import Derived.Test.YtipdebodanhooaaDoorRows
import Derived.Test.YtipdebodanhooaaDoorLemQ
import Derived.Test.YtipdebodanhooaaDoorLFLemQ
import Derived.WalkKit
import Derived.ProofKit
import Derived.Below
import Derived.Laws.Concat
namespace Go.Proofs.YtipdebodanhooaaDoor
open Go.ChangeShapes Go.WideShapes Go.ChangeAt Go.RowKit

/-- Does s begin with p? -/
def hpx (s p : ByteArray) : Bool := decide (p.size ≤ s.size) && ((s.extract 0 p.size).toList == p.toList)
/-- Is a path within a directory? -/
def inD (p d : ByteArray) : Bool := decide (d.size + 1 < p.size) && ((p.extract 0 (d.size + 1)).toList == (d ++ (⟨#[47]⟩ : ByteArray)).toList)
theorem hpx_iff {s p : ByteArray} : hpx s p = true ↔ s.data.toList.take p.size = p.data.toList := by
  unfold hpx
  rw [ByteArray.toList_eq, ByteArray.toList_eq, extract_data, List.drop_zero, Nat.sub_zero]
  constructor
  · intro h
    simp only [Bool.and_eq_true, decide_eq_true_eq, beq_iff_eq] at h
    exact h.2
  · intro h
    have := congrArg List.length h
    rw [List.length_take, size_eq, size_eq] at this
    simp only [Bool.and_eq_true, decide_eq_true_eq, beq_iff_eq]
    exact ⟨by omega, h⟩
theorem inD_iff {p d : ByteArray} : inD p d = true ↔ d.size + 1 < p.size ∧ p.data.toList.take (d.size + 1) = d.data.toList ++ [47] := by
  unfold inD
  rw [ByteArray.toList_eq, ByteArray.toList_eq, extract_data, List.drop_zero, Nat.sub_zero]
  have e : (d ++ (⟨#[47]⟩ : ByteArray)).data.toList = d.data.toList ++ [47] := by simp [ByteArray.data_append]
  rw [e]
  simp only [Bool.and_eq_true, decide_eq_true_eq, beq_iff_eq]
theorem inD_no {p d : ByteArray} (h : hpx p d = false) : inD p d = false := by
  cases e : inD p d with
  | false => rfl
  | true =>
    obtain ⟨h1, h2⟩ := inD_iff.1 e
    have h3 : p.data.toList.take d.size = d.data.toList := by
      have h4 : p.data.toList.take (d.size + 1) = p.data.toList.take d.size ++ (p.data.toList.drop d.size).take 1 := List.take_add
      rw [h4] at h2
      exact (List.append_inj h2 (by rw [List.length_take, size_eq, size_eq]; omega)).1
    rw [hpx_iff.2 h3] at h
    cases h
theorem inD_short {p d : ByteArray} (h : ¬ d.size + 1 < p.size) : inD p d = false := by
  unfold inD
  rw [decide_eq_false h]; rfl
theorem inD_rest {p d : ByteArray} (h : hpx p d = true) (h1 : d.size + 1 < p.size) : inD p d = hpx (p.extract d.size p.size) ⟨#[47]⟩ := by
  have h2 := hpx_iff.1 h
  have e1 : (p.extract d.size p.size).data.toList = p.data.toList.drop d.size := by
    rw [extract_data, List.take_of_length_le (by rw [List.length_drop, size_eq]; omega)]
  have e2 : p.data.toList.take (d.size + 1) = d.data.toList ++ (p.data.toList.drop d.size).take 1 := by
    rw [List.take_add, h2]
  cases e : inD p d with
  | true =>
    obtain ⟨_, h3⟩ := inD_iff.1 e
    rw [e2] at h3
    symm
    rw [hpx_iff, e1]
    exact List.append_cancel_left h3
  | false =>
    cases e3 : hpx (p.extract d.size p.size) ⟨#[47]⟩ with
    | false => rfl
    | true =>
      have h3 := hpx_iff.1 e3
      rw [e1] at h3
      have : inD p d = true := inD_iff.2 ⟨h1, by rw [e2]; exact congrArg (d.data.toList ++ ·) h3⟩
      rw [this] at e; cases e

end Go.Proofs.YtipdebodanhooaaDoor
