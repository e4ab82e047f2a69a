/- The contracts of InDir (the program's and the specification's). No statement is proved here. -/
import Derived.Test.YtkgcpndnlefkoaaGreatDoorRows
import Derived.Test.YtkgcpndnlefkoaaGreatDoorLemQ
import Derived.Test.YtkgcpndnlefkoaaGreatDoorLFLemQ
import Derived.WalkKit
import Derived.ProofKit
import Derived.Below
import Derived.Laws.Concat
import Derived.Test.YtkgcpndnlefkoaaGreatDoorInQ
import Derived.Laws.Cover1
namespace Go.Proofs.YtkgcpndnlefkoaaGreatDoor
open Go.ChangeShapes Go.WideShapes Go.ChangeAt Go.RowKit

/-- Does s begin with p? -/
def hpx (s p : ByteArray) : Bool := decide (p.size ≤ s.size) && ((s.extract 0 p.size).toList == p.toList)
/-- Is a path within a directory? -/
def inD (p d : ByteArray) : Bool := decide (d.size + 1 < p.size) && ((p.extract 0 (d.size + 1)).toList == (d ++ (⟨#[47]⟩ : ByteArray)).toList)
theorem hpx_iff {s p : ByteArray} : hpx s p = true ↔ s.data.toList.take p.size = p.data.toList := by
  unfold hpx
  rw [ByteArray.toList_eq, ByteArray.toList_eq, extract_data, List.drop_zero, Nat.sub_zero]
  constructor
  · intro h
    simp only [Bool.and_eq_true, decide_eq_true_eq, beq_iff_eq] at h
    exact h.2
  · intro h
    have := congrArg List.length h
    rw [List.length_take, size_eq, size_eq] at this
    simp only [Bool.and_eq_true, decide_eq_true_eq, beq_iff_eq]
    exact ⟨by omega, h⟩
theorem inD_iff {p d : ByteArray} : inD p d = true ↔ d.size + 1 < p.size ∧ p.data.toList.take (d.size + 1) = d.data.toList ++ [47] := by
  unfold inD
  rw [ByteArray.toList_eq, ByteArray.toList_eq, extract_data, List.drop_zero, Nat.sub_zero]
  have e : (d ++ (⟨#[47]⟩ : ByteArray)).data.toList = d.data.toList ++ [47] := by simp [ByteArray.data_append]
  rw [e]
  simp only [Bool.and_eq_true, decide_eq_true_eq, beq_iff_eq]
theorem inD_no {p d : ByteArray} (h : hpx p d = false) : inD p d = false := by
  cases e : inD p d with
  | false => rfl
  | true =>
    obtain ⟨h1, h2⟩ := inD_iff.1 e
    have h3 : p.data.toList.take d.size = d.data.toList := by
      have h4 : p.data.toList.take (d.size + 1) = p.data.toList.take d.size ++ (p.data.toList.drop d.size).take 1 := List.take_add
      rw [h4] at h2
      exact (List.append_inj h2 (by rw [List.length_take, size_eq, size_eq]; omega)).1
    rw [hpx_iff.2 h3] at h
    cases h
theorem inD_short {p d : ByteArray} (h : ¬ d.size + 1 < p.size) : inD p d = false := by
  unfold inD
  rw [decide_eq_false h]; rfl
theorem inD_rest {p d : ByteArray} (h : hpx p d = true) (h1 : d.size + 1 < p.size) : inD p d = hpx (p.extract d.size p.size) ⟨#[47]⟩ := by
  have h2 := hpx_iff.1 h
  have e1 : (p.extract d.size p.size).data.toList = p.data.toList.drop d.size := by
    rw [extract_data, List.take_of_length_le (by rw [List.length_drop, size_eq]; omega)]
  have e2 : p.data.toList.take (d.size + 1) = d.data.toList ++ (p.data.toList.drop d.size).take 1 := by
    rw [List.take_add, h2]
  cases e : inD p d with
  | true =>
    obtain ⟨_, h3⟩ := inD_iff.1 e
    rw [e2] at h3
    symm
    rw [hpx_iff, e1]
    exact List.append_cancel_left h3
  | false =>
    cases e3 : hpx (p.extract d.size p.size) ⟨#[47]⟩ with
    | false => rfl
    | true =>
      have h3 := hpx_iff.1 e3
      rw [e1] at h3
      have : inD p d = true := inD_iff.2 ⟨h1, by rw [e2]; exact congrArg (d.data.toList ++ ·) h3⟩
      rw [this] at e; cases e

set_option maxHeartbeats 400000 in
theorem sliteHasPrefix (s p : ByteArray) (w : World) :
    Calls Tryz.prog 89 #[.string s, .string p] w fun e w' => e = .returned (.bool (hpx s p)) ∧ w' = w := by
  by_cases h : p.size ≤ s.size
  · have hR : Hid (hpx s p = ((s.extract 0 p.size).toList == p.toList)) := by show _ = _; unfold hpx; rw [decide_eq_true h, Bool.true_and]
    have q : (p.size : Int) ≤ (s.size : Int) := by omega
    go_enter Tryz.func89, Tryz.ntmps89
    go_wp2
    go_ret
    exact ⟨ret_bool hR.out.symm, rfl⟩
  · have hR : Hid (hpx s p = false) := by show _ = _; unfold hpx; rw [decide_eq_false h]; rfl
    have q : ¬ (p.size : Int) ≤ (s.size : Int) := by omega
    go_enter Tryz.func89, Tryz.ntmps89
    go_wp2
    go_ret
    exact ⟨ret_bool hR.out.symm, rfl⟩
theorem hasPrefix (s p : ByteArray) (w : World) :
    Calls Tryz.prog 69 #[.string s, .string p] w fun e w' => e = .returned (.bool (hpx s p)) ∧ w' = w := by
  have h := fun w => sliteHasPrefix s p w
  obtain ⟨b, hb⟩ : ∃ b, hpx s p = b := ⟨_, rfl⟩
  rw [hb] at h ⊢
  clear hb
  go_enter Tryz.func69, Tryz.ntmps69
  go_wp2_with (go_at_call 89; refine (h _).mono ?_; rintro e w' ⟨rfl, rfl⟩)
  go_ret
  exact ⟨rfl, rfl⟩
set_option maxHeartbeats 400000 in
theorem sliteCutPrefix (s p : ByteArray) (w : World) :
    Calls Tryz.prog 88 #[.string s, .string p] w fun e w' => e = .returned (.tuple #[.string (if hpx s p = true then s.extract p.size s.size else s), .bool (hpx s p)]) ∧ w' = w := by
  have h := fun w => sliteHasPrefix s p w
  cases hb : hpx s p with
  | true =>
    have hl : p.size ≤ s.size := by
      have := congrArg List.length (hpx_iff.1 hb)
      rw [List.length_take, size_eq, size_eq] at this
      omega
    rw [hb] at h
    rw [if_pos rfl]
    clear hb
    go_enter Tryz.func88, Tryz.ntmps88
    go_wp2_with (go_at_call 89; refine (h _).mono ?_; rintro e w' ⟨rfl, rfl⟩)
    go_ret2
    exact ⟨rfl, rfl⟩
  | false =>
    rw [hb] at h
    rw [if_neg (by decide)]
    clear hb
    go_enter Tryz.func88, Tryz.ntmps88
    go_wp2_with (go_at_call 89; refine (h _).mono ?_; rintro e w' ⟨rfl, rfl⟩)
    go_ret2
    exact ⟨rfl, rfl⟩
theorem cutPrefix (s p : ByteArray) (w : World) :
    Calls Tryz.prog 68 #[.string s, .string p] w fun e w' => e = .returned (.tuple #[.string (if hpx s p = true then s.extract p.size s.size else s), .bool (hpx s p)]) ∧ w' = w := by
  have h := fun w => sliteCutPrefix s p w
  obtain ⟨x, hx⟩ : ∃ x, (if hpx s p = true then s.extract p.size s.size else s) = x := ⟨_, rfl⟩
  obtain ⟨b, hb⟩ : ∃ b, hpx s p = b := ⟨_, rfl⟩
  rw [hx, hb] at h
  rw [hx, hb]
  clear hx hb
  go_enter Tryz.func68, Tryz.ntmps68
  go_wp2_with (go_at_call 88; refine (h _).mono ?_; rintro e w' ⟨rfl, rfl⟩)
  go_ret2
  exact ⟨rfl, rfl⟩
set_option maxHeartbeats 1000000 in
theorem implInDir (p d : ByteArray) (w : World) :
    Calls Tryz.prog 52 #[.string p, .string d] w fun e w' => e = .returned (.bool (inD p d)) ∧ w' = w := by
  have hC := fun w => cutPrefix p d w
  cases hb : hpx p d with
  | false =>
    have HR : Hid (inD p d = false) := inD_no hb
    rw [hb, if_neg (by decide)] at hC
    clear hb
    go_enter Tryz.func52, Tryz.ntmps52
    go_wp2_with (go_at_call 68; refine (hC _).mono ?_; rintro e w' ⟨rfl, rfl⟩)
    go_ret
    exact ⟨ret_bool HR.out.symm, rfl⟩
  | true =>
    have hl : d.size ≤ p.size := by
      have := congrArg List.length (hpx_iff.1 hb)
      rw [List.length_take, size_eq, size_eq] at this
      omega
    have hz : (p.extract d.size p.size).size = p.size - d.size := by rw [ByteArray.size_extract]; omega
    have hH := fun w => hasPrefix (p.extract d.size p.size) ⟨#[47]⟩ w
    have hsh : ¬ d.size + 1 < p.size → Hid (inD p d = false) := fun h => inD_short h
    have hre : d.size + 1 < p.size → Hid (inD p d = hpx (p.extract d.size p.size) ⟨#[47]⟩) := fun h => inD_rest hb h
    rw [hb, if_pos rfl] at hC
    clear hb
    obtain ⟨x, hx⟩ : ∃ x, p.extract d.size p.size = x := ⟨_, rfl⟩
    obtain ⟨b, hbb⟩ : ∃ b, hpx x ⟨#[47]⟩ = b := ⟨_, rfl⟩
    simp only [hx, hbb] at hC hH hre hz
    clear hx hbb
    by_cases h1 : d.size + 1 < p.size
    · have HR := hre h1
      have q : (1 : Int) < (x.size : Int) := by omega
      clear hre hsh
      go_enter Tryz.func52, Tryz.ntmps52
      go_wp2_with (first | (go_at_call 68; refine (hC _).mono ?_; rintro e w' ⟨rfl, rfl⟩) | (go_at_call 69; refine (hH _).mono ?_; rintro e w' ⟨rfl, rfl⟩))
      go_ret
      exact ⟨ret_bool HR.out.symm, rfl⟩
    · have HR := hsh h1
      have q : ¬ (1 : Int) < (x.size : Int) := by omega
      clear hre hsh
      go_enter Tryz.func52, Tryz.ntmps52
      go_wp2_with (first | (go_at_call 68; refine (hC _).mono ?_; rintro e w' ⟨rfl, rfl⟩) | (go_at_call 69; refine (hH _).mono ?_; rintro e w' ⟨rfl, rfl⟩))
      go_ret
      exact ⟨ret_bool HR.out.symm, rfl⟩
set_option maxHeartbeats 1000000 in
theorem specInDir (p d : ByteArray) (w : World) (hp : p.size ≤ 1048576) (hd : d.size ≤ 1048576) :
    Calls Tryz.prog 59 #[.string p, .string d] w fun e w' => e = .returned (.bool (inD p d)) ∧ w' = w := by
  by_cases h : d.size + 1 < p.size
  · have HR : Hid (inD p d = ((p.extract 0 (d.size + 1)).toList == (d ++ (⟨#[47]⟩ : ByteArray)).toList)) := by show _ = _; unfold inD; rw [decide_eq_true h, Bool.true_and]
    have q : (d.size : Int) + 1 < (p.size : Int) := by omega
    have e2 : (⟨#[47]⟩ : ByteArray).size = 1 := rfl
    go_enter Tryz.func59, Tryz.ntmps59
    go_wp2
    go_ret
    exact ⟨ret_bool HR.out.symm, rfl⟩
  · have HR : Hid (inD p d = false) := inD_short h
    have q : ¬ (d.size : Int) + 1 < (p.size : Int) := by omega
    go_enter Tryz.func59, Tryz.ntmps59
    go_wp2
    go_ret
    exact ⟨ret_bool HR.out.symm, rfl⟩
end Go.Proofs.YtkgcpndnlefkoaaGreatDoor
/- Small contracts: which modes files have, which stages entries have. No statement is proved here. -/
namespace Go.Proofs.YtkgcpndnlefkoaaGreatDoor
open Go.ChangeShapes Go.WideShapes Go.ChangeAt Go.RowKit

theorem mode_yes {x : Int} (h : inB x 1 2 = true) : x = 1 ∨ x = 2 := by
  unfold inB at h
  simp at h
  omega
theorem mode_no {x : Int} (h : inB x 1 2 = false) : (x == 1) = false ∧ (x == 2) = false := by
  refine ⟨?_, ?_⟩
  · cases e : x == 1 with
    | false => rfl
    | true => simp at e; subst e; simp [inB] at h
  · cases e : x == 2 with
    | false => rfl
    | true => simp at e; subst e; simp [inB] at h
theorem isFileModeC (x : Int) (w : World) : Calls Tryz.prog 48 #[.int .i64 x] w fun e w' => e = .returned (.bool (inB x 1 2)) ∧ w' = w := by
  cases h : inB x 1 2 with
  | true =>
    rcases mode_yes h with rfl | rfl
    · clear h
      go_enter Tryz.func48, Tryz.ntmps48
      go_wp2
      go_ret
      exact ⟨rfl, rfl⟩
    · clear h
      go_enter Tryz.func48, Tryz.ntmps48
      go_wp2
      go_ret
      exact ⟨rfl, rfl⟩
  | false =>
    obtain ⟨h1, h2⟩ := mode_no h
    clear h
    go_enter Tryz.func48, Tryz.ntmps48
    go_wp2
    go_ret
    exact ⟨rfl, rfl⟩
end Go.Proofs.YtkgcpndnlefkoaaGreatDoor
