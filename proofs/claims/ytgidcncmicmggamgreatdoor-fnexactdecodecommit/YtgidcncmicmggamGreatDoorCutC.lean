/- The contracts of strings.Cut at a blank, of strings.TrimSuffix at a line feed, and of the program's fieldOf. No statement is proved here. -/
import Derived.Test.YtgidcncmicmggamGreatDoorRows
import Derived.Test.YtgidcncmicmggamGreatDoorLem
import Derived.Test.YtgidcncmicmggamGreatDoorLFLem
import Derived.Test.YtgidcncmicmggamGreatDoorSplLem
import Derived.Test.YtgidcncmicmggamGreatDoorCutL
import Derived.Test.YtgidcncmicmggamGreatDoorIxB
import Derived.Test.YtgidcncmicmggamGreatDoorFdL
import Derived.WalkKit
import Derived.ProofKit
import Derived.OwnWalk
import Derived.Below
import Derived.Deep.QuietTactic
import Derived.BigQuiet
import Derived.Test.YtgidcncmicmggamGreatDoorStrs
namespace Go.Proofs.YtgidcncmicmggamGreatDoor.Te
open Go.ChangeShapes Go.WideShapes Go.ChangeAt Go.RowKit

theorem bef_at {s : ByteArray} {m : Nat} (h : Lib.indexByte s.data.toList 32 = (m : Int)) : mkB (bef s.data.toList) = s.extract 0 m ∧ mkB (aft s.data.toList) = s.extract (m + 1) s.size ∧ m < s.size := by
  obtain ⟨y1, y2, y3⟩ := indexByte_split s.data.toList 32 (by rw [h]; omega)
  rw [h] at y1 y2 y3
  simp only [Int.toNat_natCast] at y1 y2 y3
  rw [size_eq] at y3
  have f := bef_app (s.data.toList.drop (m + 1)) y1
  rw [← y2] at f
  refine ⟨?_, ?_, y3⟩
  · apply bytes_inj2
    rw [ByteArray.toList_eq, ByteArray.toList_eq, mkB_data, extract_data, f.1, List.drop_zero, Nat.sub_zero]
  · apply bytes_inj2
    rw [ByteArray.toList_eq, ByteArray.toList_eq, mkB_data, extract_data, f.2, List.take_of_length_le]
    rw [List.length_drop, size_eq]; omega
theorem bef_none {s : ByteArray} (h : Lib.indexByte s.data.toList 32 < 0) : mkB (bef s.data.toList) = s ∧ mkB (aft s.data.toList) = ⟨#[]⟩ := by
  have n : ¬ (32 : UInt8) ∈ s.data.toList := fun q => by have := (indexByte_mem _ _).2 q; omega
  have f := bef_no n
  rw [f.1, f.2, mkB_eq]
  exact ⟨rfl, rfl⟩
/-- What Cut answers. -/
def CutR (s : ByteArray) (e : Ending) : Prop := ∃ b : Bool, e = .returned (.tuple #[.string (mkB (bef s.data.toList)), .string (mkB (aft s.data.toList)), .bool b])
set_option maxHeartbeats 1000000 in
theorem sliteCut (s : ByteArray) (w : World) (hs : s.size ≤ 1048576) :
    Calls Tryz.prog 140 #[.string s, .string ⟨#[32]⟩] w fun e w' => CutR s e ∧ Below w.heap.size w w' := by
  have hI := fun w => sliteIndex32 s w
  have hN := bef_none (s := s)
  have hA := fun m => bef_at (s := s) (m := m)
  obtain ⟨i, hi⟩ : ∃ i, Lib.indexByte s.data.toList 32 = i := ⟨_, rfl⟩
  rw [hi] at hI hN
  simp only [hi] at hA
  unfold CutR
  obtain ⟨X, hX⟩ : ∃ X, mkB (bef s.data.toList) = X := ⟨_, rfl⟩
  obtain ⟨Y, hY⟩ : ∃ Y, mkB (aft s.data.toList) = Y := ⟨_, rfl⟩
  rw [hX, hY] at hN ⊢
  simp only [hX, hY] at hA
  clear hX hY hi
  by_cases hneg : i < 0
  · obtain ⟨rfl, rfl⟩ := hN hneg
    have q : ¬ 0 ≤ i := by omega
    clear hN hA
    go_enter Tryz.func140, Tryz.ntmps140
    go_wp2_with (go_at_call 183; refine (hI _).mono ?_; rintro e w' ⟨rfl, rfl⟩)
    go_ret3
    exact ⟨⟨_, rfl⟩, Below.refl _ _⟩
  · obtain ⟨m, rfl⟩ := Int.eq_ofNat_of_zero_le (show 0 ≤ i by omega)
    obtain ⟨rfl, rfl, hm⟩ := hA m rfl
    have q : (0 : Int) ≤ (m : Int) := by omega
    clear hN hA
    go_enter Tryz.func140, Tryz.ntmps140
    go_wp2_with (go_at_call 183; refine (hI _).mono ?_; rintro e w' ⟨rfl, rfl⟩)
    go_quiet (fail)
    go_wp2
    go_ret3
    exact ⟨⟨_, rfl⟩, below_drewN' (Below.refl _ _) _⟩
theorem cutC (s : ByteArray) (w : World) (hs : s.size ≤ 1048576) :
    Calls Tryz.prog 100 #[.string s, .string ⟨#[32]⟩] w fun e w' => CutR s e ∧ Below w.heap.size w w' := by
  have hC := fun w => sliteCut s w hs
  unfold CutR at hC ⊢
  obtain ⟨X, hX⟩ : ∃ X, mkB (bef s.data.toList) = X := ⟨_, rfl⟩
  obtain ⟨Y, hY⟩ : ∃ Y, mkB (aft s.data.toList) = Y := ⟨_, rfl⟩
  rw [hX, hY]
  simp only [hX, hY] at hC
  clear hX hY
  go_enter Tryz.func100, Tryz.ntmps100
  go_wp2_with (go_at_call 140; refine (hC _).mono ?_; rintro e w' ⟨⟨b, rfl⟩, hb'⟩)
  go_ret3
  exact ⟨⟨_, rfl⟩, hb'⟩
/-- Does a text end with a line feed? -/
def endB (s : ByteArray) : Bool := decide (s.data.toList.getLast? = some 10)
theorem end_ext {s : ByteArray} (h : 1 ≤ s.size) : ((s.extract (s.size - 1) s.size).toList == ([10] : List UInt8)) = endB s := by
  have hne : s.data.toList ≠ [] := by intro e; rw [← size_eq, e] at h; simp at h
  have e : (s.extract (s.size - 1) s.size).toList = s.data.toList.drop (s.data.toList.length - 1) := by
    rw [ByteArray.toList_eq, extract_data, size_eq, List.take_of_length_le]
    rw [List.length_drop, size_eq]; omega
  have e2 : s.data.toList.drop (s.data.toList.length - 1) = [s.data.toList.getLast hne] := by
    have hl : s.data.toList.length - 1 < s.data.toList.length := by rw [size_eq]; omega
    rw [List.drop_eq_getElem_cons hl, List.getLast_eq_getElem, show s.data.toList.length - 1 + 1 = s.data.toList.length by rw [size_eq]; omega, List.drop_length]
  rw [e, e2]
  unfold endB
  rw [List.getLast?_eq_some_getLast hne]
  generalize s.data.toList.getLast hne = x
  by_cases q : x = 10
  · subst q; rfl
  · rw [decide_eq_false (fun k => q (Option.some.inj k))]
    have : ([x] == ([10] : List UInt8)) = (x == 10 && true) := rfl
    rw [this]
    simp [q]
theorem end_none {s : ByteArray} (h : ¬ 1 ≤ s.size) : endB s = false := by
  have : s.data.toList = [] := List.length_eq_zero_iff.1 (by rw [size_eq]; omega)
  unfold endB
  rw [this]; rfl
theorem trim_yes {s : ByteArray} (h : endB s = true) : mkB (trimL s.data.toList) = s.extract 0 (s.size - 1) ∧ 1 ≤ s.size := by
  have h1 : 1 ≤ s.size := by
    by_cases q : 1 ≤ s.size
    · exact q
    · rw [end_none q] at h; cases h
  refine ⟨?_, h1⟩
  unfold trimL
  rw [if_pos (of_decide_eq_true h)]
  apply bytes_inj2
  rw [ByteArray.toList_eq, ByteArray.toList_eq, mkB_data, extract_data, List.drop_zero, Nat.sub_zero, List.dropLast_eq_take, size_eq]
theorem trim_no {s : ByteArray} (h : endB s = false) : mkB (trimL s.data.toList) = s := by
  unfold trimL
  rw [if_neg (of_decide_eq_false h), mkB_eq]
set_option maxHeartbeats 1000000 in
theorem sliteHasSuffix (s : ByteArray) (w : World) (hs : s.size ≤ 1048576) :
    Calls Tryz.prog 184 #[.string s, .string ⟨#[10]⟩] w fun e w' => e = .returned (.bool (endB s)) ∧ w' = w := by
  by_cases h : 1 ≤ s.size
  · have HR : Hid (((s.extract (s.size - 1) s.size).toList == ([10] : List UInt8)) = endB s) := end_ext h
    have q : (1 : Int) ≤ (s.size : Int) := by omega
    have hw : IntKind.i64.wrap ((s.size : Int) - 1) = ((s.size - 1 : Nat) : Int) := by rw [IntKind.wrap_i64]; omega
    obtain ⟨n, hn⟩ : ∃ n, s.size - 1 = n := ⟨_, rfl⟩
    rw [hn] at HR hw
    have hn2 : n ≤ s.size := by omega
    have hn3 : (n : Int) ≤ (s.size : Int) := by omega
    clear hn
    go_enter Tryz.func184, Tryz.ntmps184
    go_wp2
    go_ret
    exact ⟨ret_bool HR.out, rfl⟩
  · have HR : Hid (endB s = false) := end_none h
    have q : ¬ (1 : Int) ≤ (s.size : Int) := by omega
    go_enter Tryz.func184, Tryz.ntmps184
    go_wp2
    go_ret
    exact ⟨ret_bool HR.out.symm, rfl⟩
set_option maxHeartbeats 1000000 in
theorem sliteTrim (s : ByteArray) (w : World) (hs : s.size ≤ 1048576) :
    Calls Tryz.prog 141 #[.string s, .string ⟨#[10]⟩] w fun e w' => e = .returned (.string (mkB (trimL s.data.toList))) ∧ w' = w := by
  have hH := fun w => sliteHasSuffix s w hs
  cases h : endB s with
  | true =>
    obtain ⟨e1, h1⟩ := trim_yes h
    rw [h] at hH
    rw [e1]
    have hw : IntKind.i64.wrap ((s.size : Int) - 1) = ((s.size - 1 : Nat) : Int) := by rw [IntKind.wrap_i64]; omega
    obtain ⟨n, hn⟩ : ∃ n, s.size - 1 = n := ⟨_, rfl⟩
    rw [hn] at hw ⊢
    have hn2 : n ≤ s.size := by omega
    have hn3 : (n : Int) ≤ (s.size : Int) := by omega
    clear h e1 hn
    go_enter Tryz.func141, Tryz.ntmps141
    go_wp2_with (go_at_call 184; refine (hH _).mono ?_; rintro e w' ⟨rfl, rfl⟩)
    go_ret
    exact ⟨rfl, rfl⟩
  | false =>
    rw [trim_no h]
    rw [h] at hH
    clear h
    go_enter Tryz.func141, Tryz.ntmps141
    go_wp2_with (go_at_call 184; refine (hH _).mono ?_; rintro e w' ⟨rfl, rfl⟩)
    go_ret
    exact ⟨rfl, rfl⟩
theorem trimC (s : ByteArray) (w : World) (hs : s.size ≤ 1048576) :
    Calls Tryz.prog 101 #[.string s, .string ⟨#[10]⟩] w fun e w' => e = .returned (.string (mkB (trimL s.data.toList))) ∧ w' = w := by
  have hH := fun w => sliteTrim s w hs
  obtain ⟨X, hX⟩ : ∃ X, mkB (trimL s.data.toList) = X := ⟨_, rfl⟩
  rw [hX] at hH ⊢
  clear hX
  go_enter Tryz.func101, Tryz.ntmps101
  go_wp2_with (go_at_call 141; refine (hH _).mono ?_; rintro e w' ⟨rfl, rfl⟩)
  go_ret
  exact ⟨rfl, rfl⟩
theorem trim_size (s : ByteArray) : (mkB (trimL s.data.toList)).size ≤ s.size := by
  cases h : endB s with
  | true => rw [(trim_yes h).1]; exact extract_size_le _ _ _
  | false => rw [trim_no h]; exact Nat.le_refl _
/-- What fieldOf answers: the word of a line, and what is behind it. -/
theorem fieldOfC (s : ByteArray) (w : World) (hs : s.size ≤ 1048576) :
    Calls Tryz.prog 61 #[.string s] w fun e w' => e = .returned (.tuple #[.string (mkB (bef (trimL s.data.toList))), .string (mkB (aft (trimL s.data.toList)))]) ∧ Below w.heap.size w w' := by
  have hT := fun w => trimC s w hs
  have hC := fun w => cutC (mkB (trimL s.data.toList)) w (Nat.le_trans (trim_size s) hs)
  unfold CutR at hC
  simp only [mkB_data] at hC
  obtain ⟨X, hX⟩ : ∃ X, mkB (bef (trimL s.data.toList)) = X := ⟨_, rfl⟩
  obtain ⟨Y, hY⟩ : ∃ Y, mkB (aft (trimL s.data.toList)) = Y := ⟨_, rfl⟩
  obtain ⟨Z, hZ⟩ : ∃ Z, mkB (trimL s.data.toList) = Z := ⟨_, rfl⟩
  rw [hX, hY]
  simp only [hX, hY, hZ] at hC hT
  clear hX hY hZ
  go_enter Tryz.func61, Tryz.ntmps61
  go_wp2_with (first | (go_at_call 101; refine (hT _).mono ?_; rintro e w' ⟨rfl, rfl⟩) | (go_at_call 100; refine (hC _).mono ?_; rintro e w' ⟨⟨b, rfl⟩, hb'⟩))
  go_ret2
  exact ⟨rfl, hb'⟩
end Go.Proofs.YtgidcncmicmggamGreatDoor.Te
