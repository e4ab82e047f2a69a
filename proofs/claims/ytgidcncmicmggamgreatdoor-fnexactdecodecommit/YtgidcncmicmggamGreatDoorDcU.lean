/- The contract of spec.l6After. No statement is proved here. -/
import Derived.Test.YtgidcncmicmggamGreatDoorRows
import Derived.Test.YtgidcncmicmggamGreatDoorLem
import Derived.Test.YtgidcncmicmggamGreatDoorStrs
import Derived.Test.YtgidcncmicmggamGreatDoorLFLem
import Derived.Test.YtgidcncmicmggamGreatDoorSplLem
import Derived.WalkKit
import Derived.ProofKit
import Derived.Below
import Derived.WalkSpells
namespace Go.Proofs.YtgidcncmicmggamGreatDoor.Dc
open Go.ChangeShapes Go.WideShapes Go.ChangeAt Go.RowKit

/-- How l6After ends: what is behind a word and a blank, or that the line does not begin so. -/
def AF (y wd : ByteArray) (e : Ending) : Prop := (∃ v : ByteArray, e = .returned (.tuple #[.string v, .bool true]) ∧ y.data.toList = wd.data.toList ++ 32 :: v.data.toList) ∨
  (e = .returned (.tuple #[.string ⟨#[]⟩, .bool false]) ∧ ∀ v, ¬ y.data.toList = wd.data.toList ++ 32 :: v)
theorem af_short {y wd : ByteArray} (h : y.size < wd.size + 1) : ∀ v, ¬ y.data.toList = wd.data.toList ++ 32 :: v := fun v e => by
  have := congrArg List.length e
  simp at this
  omega
theorem af_hit {y wd : ByteArray} (h : ((y.extract 0 (wd.size + 1)).toList == (wd ++ ⟨#[32]⟩).toList) = true) : y.data.toList = wd.data.toList ++ 32 :: (y.extract (wd.size + 1) y.size).data.toList := by
  have e : (y.extract 0 (wd.size + 1)).toList = (wd ++ ⟨#[32]⟩).toList := eq_of_beq h
  rw [ByteArray.toList_eq, ByteArray.toList_eq, ByteArray.data_append] at e
  have a1 : (y.extract 0 (wd.size + 1)).data.toList = y.data.toList.take (wd.size + 1) := by rw [extract_data]; simp
  have a2 : (y.extract (wd.size + 1) y.size).data.toList = y.data.toList.drop (wd.size + 1) := by rw [extract_data, List.take_of_length_le (by rw [List.length_drop, size_eq]; omega)]
  rw [a1] at e
  rw [a2]
  have k := List.take_append_drop (wd.size + 1) y.data.toList
  rw [e] at k
  simpa using k.symm
theorem af_miss {y wd : ByteArray} (h : ((y.extract 0 (wd.size + 1)).toList == (wd ++ ⟨#[32]⟩).toList) = false) : ∀ v, ¬ y.data.toList = wd.data.toList ++ 32 :: v := fun v e => by
  have q : (y.extract 0 (wd.size + 1)).toList = (wd ++ ⟨#[32]⟩).toList := by
    rw [ByteArray.toList_eq, ByteArray.toList_eq, ByteArray.data_append]
    have a1 : (y.extract 0 (wd.size + 1)).data.toList = y.data.toList.take (wd.size + 1) := by rw [extract_data]; simp
    rw [a1, e, show wd.data.toList ++ 32 :: v = (wd.data.toList ++ [32]) ++ v by simp, List.take_left' (by simp)]
    simp
  rw [q] at h
  simp at h
set_option maxRecDepth 20000 in
set_option maxHeartbeats 1000000 in
theorem l6AfterC (y wd : ByteArray) (w : World) (hw : wd.size ≤ 10) :
    Calls Tryz.prog 56 #[.string y, .string wd] w fun e w' => Below w.heap.size w w' ∧ AF y wd e := by
  by_cases h1 : y.size < wd.size + 1
  · have q1 : (y.size : Int) < (wd.size : Int) + 1 := by omega
    have HA : Hid (∀ v, ¬ y.data.toList = wd.data.toList ++ 32 :: v) := af_short h1
    go_enter Tryz.func56, Tryz.ntmps56
    go_wp2
    go_ret2
    exact ⟨Below.refl _ _, .inr ⟨rfl, HA.out⟩⟩
  · have q1 : ¬ (y.size : Int) < (wd.size : Int) + 1 := by omega
    have hq : (wd ++ (⟨#[32]⟩ : ByteArray)).size = wd.size + 1 := by rw [ByteArray.size_append]; rfl
    cases e : ((y.extract 0 (wd.size + 1)).toList == (wd ++ (⟨#[32]⟩ : ByteArray)).toList) with
    | false =>
      have HA : Hid (∀ v, ¬ y.data.toList = wd.data.toList ++ 32 :: v) := af_miss e
      go_enter Tryz.func56, Tryz.ntmps56
      go_wp2
      go_ret2
      exact ⟨Below.refl _ _, .inr ⟨rfl, HA.out⟩⟩
    | true =>
      have HA : Hid (y.data.toList = wd.data.toList ++ 32 :: (y.extract (wd.size + 1) y.size).data.toList) := af_hit e
      go_enter Tryz.func56, Tryz.ntmps56
      go_wp2
      go_ret2
      exact ⟨Below.refl _ _, .inl ⟨_, rfl, HA.out⟩⟩
end Go.Proofs.YtgidcncmicmggamGreatDoor.Dc
