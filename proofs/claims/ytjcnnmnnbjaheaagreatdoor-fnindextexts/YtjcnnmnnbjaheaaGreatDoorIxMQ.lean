/- The index: the order of its entries, the fault of an index. Plain mathematics. No statement is proved here. -/
import Derived.Test.YtjcnnmnnbjaheaaGreatDoorRows
import Derived.Test.YtjcnnmnnbjaheaaGreatDoorLemQ
import Derived.Test.YtjcnnmnnbjaheaaGreatDoorDTabQ
import Derived.Test.YtjcnnmnnbjaheaaGreatDoorIdLQ
import Derived.Test.YtjcnnmnnbjaheaaGreatDoorSsCQ
import Derived.Test.YtjcnnmnnbjaheaaGreatDoorHkTQ
import Derived.Lib.Bytealg
import Derived.Test.YtjcnnmnnbjaheaaGreatDoorLFLemQ
import Derived.WalkKit
import Derived.ProofKit
import Derived.Below
import Derived.Laws.Concat
namespace Go.Proofs.YtjcnnmnnbjaheaaGreatDoor.En
open Go.ChangeShapes Go.WideShapes Go.ChangeAt Go.RowKit

theorem inB12 {x1 : Int} (h : inB x1 1 2 = true) : x1 = 1 ∨ x1 = 2 := by
  unfold inB at h
  simp at h
  omega
theorem inB12F {x1 : Int} (h : inB x1 1 2 = false) : ¬ x1 = 1 ∧ ¬ x1 = 2 := by
  refine ⟨fun e => ?_, fun e => ?_⟩ <;> subst e <;> simp [inB] at h
/-- How two numbers, two texts and two entries stand to each other. -/
def cmI (a b : Int) : Int := if a < b then -1 else if b < a then 1 else 0
def cmB (a b : ByteArray) : Int := Lib.compareBytes a.data.toList b.data.toList
def cmE (a b : Ob) : Int := if cmB a.1 b.1 = 0 then cmI a.2.1 b.2.1 else cmB a.1 b.1
theorem cmL_cases : ∀ a b : List UInt8, (Lib.compareBytes a b = -1 ∧ Op.bytesLess a b = true ∧ (a == b) = false) ∨ (Lib.compareBytes a b = 0 ∧ Op.bytesLess a b = false ∧ a = b) ∨ (Lib.compareBytes a b = 1 ∧ Op.bytesLess a b = false ∧ (a == b) = false)
  | [], [] => .inr (.inl ⟨rfl, rfl, rfl⟩)
  | [], _ :: _ => .inl ⟨rfl, rfl, rfl⟩
  | _ :: _, [] => .inr (.inr ⟨rfl, rfl, rfl⟩)
  | x :: a, y :: b => by
    have ih := cmL_cases a b
    unfold Lib.compareBytes Op.bytesLess
    by_cases h1 : x < y
    · have hne : ¬ x = y := fun e => by rw [e] at h1; exact UInt8.lt_irrefl _ h1
      left; simp [h1, hne]
    · by_cases h2 : y < x
      · have h3 : ¬ x = y := fun e => by rw [e] at h1 h2; exact h1 h2
        right; right; simp [h1, h2, h3]
      · have e : x = y := by
          apply UInt8.toNat_inj.1
          have a1 : ¬ x.toNat < y.toNat := h1
          have a2 : ¬ y.toNat < x.toNat := h2
          omega
        subst e
        simpa [h1] using ih
theorem cmB_cases (a b : ByteArray) : (cmB a b = -1 ∧ Op.bytesLess a.toList b.toList = true ∧ (a.toList == b.toList) = false) ∨ (cmB a b = 0 ∧ a = b) ∨ (cmB a b = 1 ∧ Op.bytesLess a.toList b.toList = false ∧ (a.toList == b.toList) = false) := by
  unfold cmB
  rw [ByteArray.toList_eq, ByteArray.toList_eq]
  rcases cmL_cases a.data.toList b.data.toList with h | ⟨h, _, e⟩ | h
  · exact .inl h
  · exact .inr (.inl ⟨h, bytes_inj2 (by rw [ByteArray.toList_eq, ByteArray.toList_eq]; exact e)⟩)
  · exact .inr (.inr h)
/-- May an entry stand behind another one? As the program asks it, and as the specification does. -/
def bh (a e : Ob) : Bool := decide (cmE a e < 0) && !((a.1.toList == e.1.toList) && (a.2.1 == 0))
def bhS (a e : Ob) : Bool := if (a.1.toList == e.1.toList) = true then (decide (a.2.1 < e.2.1) && decide (0 < a.2.1)) else Op.bytesLess a.1.toList e.1.toList
theorem bh_same {a e : Ob} (h : 0 ≤ a.2.1) : bh a e = bhS a e := by
  unfold bh bhS cmE
  rcases cmB_cases a.1 e.1 with ⟨h1, h2, h3⟩ | ⟨h1, h2⟩ | ⟨h1, h2, h3⟩
  · rw [h1, h2, h3]; simp
  · have hb : (a.1.toList == e.1.toList) = true := beq_bytes_true h2
    rw [h1, hb]
    unfold cmI
    simp only [if_true]
    by_cases q : a.2.1 < e.2.1
    · by_cases z : a.2.1 = 0
      · simp [z]
      · have : 0 < a.2.1 := by omega
        simp [q, z, this]
    · by_cases q2 : e.2.1 < a.2.1
      · simp [q, q2]
      · simp [q, q2]
  · rw [h1, h2, h3]; simp
/-- The fault of an entry by itself. -/
def ei (x0 : ByteArray) (x1 x2 : Int) (x3 : ByteArray) : Int := if pf x0 = 0 then (if (inB x1 0 3 && inB x2 1 2) = true then (if isOf 1 x3 = true then 0 else 1) else 3) else pf x0
theorem ei_path {x0 : ByteArray} {x1 x2 : Int} {x3 : ByteArray} (h : ¬ pf x0 = 0) : ei x0 x1 x2 x3 = pf x0 := if_neg h
theorem ei_range {x0 : ByteArray} {x1 x2 : Int} {x3 : ByteArray} (h : pf x0 = 0) (e : (inB x1 0 3 && inB x2 1 2) = false) : ei x0 x1 x2 x3 = 3 := by unfold ei; rw [if_pos h, if_neg (by rw [e]; decide)]
theorem ei_id {x0 : ByteArray} {x1 x2 : Int} {x3 : ByteArray} (h : pf x0 = 0) (e : (inB x1 0 3 && inB x2 1 2) = true) (q : isOf 1 x3 = false) : ei x0 x1 x2 x3 = 1 := by unfold ei; rw [if_pos h, if_pos e, if_neg (by rw [q]; decide)]
theorem ei_ok {x0 : ByteArray} {x1 x2 : Int} {x3 : ByteArray} (h : pf x0 = 0) (e : (inB x1 0 3 && inB x2 1 2) = true) (q : isOf 1 x3 = true) : ei x0 x1 x2 x3 = 0 := by unfold ei; rw [if_pos h, if_pos e, if_pos q]
theorem ei_zero {x0 : ByteArray} {x1 x2 : Int} {x3 : ByteArray} (h : ei x0 x1 x2 x3 = 0) : pf x0 = 0 ∧ inB x1 0 3 = true ∧ inB x2 1 2 = true ∧ isOf 1 x3 = true := by
  unfold ei at h
  split at h
  · rename_i hp
    split at h
    · rename_i hr
      split at h
      · rename_i hi
        obtain ⟨a, b⟩ := Bool.and_eq_true_iff.1 hr
        exact ⟨hp, a, b, hi⟩
      · omega
    · omega
  · rename_i hp; exact absurd h hp
/-- The fault of the entry at a place, and of an index. -/
def eiO (o : Ob) : Int := ei o.1 o.2.1 o.2.2.1 o.2.2.2
def eiF (l : List Ob) (k : Nat) : Int := if eiO (l.getD k onil) = 0 then (if 0 < k ∧ bh (l.getD (k - 1) onil) (l.getD k onil) = false then 1 else 0) else eiO (l.getD k onil)
def ixf (l : List Ob) : Int := if 200 < l.length then 2 else (((List.range l.length).map (eiF l)).find? (fun x => decide (x ≠ 0))).getD 0
theorem ixf_many {l : List Ob} (h : 200 < l.length) : ixf l = 2 := if_pos h
theorem ixf_bad {l : List Ob} {k : Nat} (h : ¬ 200 < l.length) (hk : k < l.length) (h0 : ∀ j, j < k → eiF l j = 0) (hb : ¬ eiF l k = 0) : ixf l = eiF l k := by
  unfold ixf
  rw [if_neg h]
  have : ((List.range l.length).map (eiF l)).find? (fun x => decide (x ≠ 0)) = some (eiF l k) := by
    rw [List.find?_eq_some_iff_getElem]
    refine ⟨by simp [hb], k, by simp [hk], by simp, fun j hj => ?_⟩
    simp [h0 j hj]
  rw [this]; rfl
theorem ixf_ok {l : List Ob} (h : ¬ 200 < l.length) (h0 : ∀ j, j < l.length → eiF l j = 0) : ixf l = 0 := by
  unfold ixf
  rw [if_neg h]
  have : ((List.range l.length).map (eiF l)).find? (fun x => decide (x ≠ 0)) = none := by
    rw [List.find?_eq_none]
    intro x hx
    obtain ⟨j, hj, rfl⟩ := List.mem_map.1 hx
    simp [h0 j (List.mem_range.1 hj)]
  rw [this]; rfl
theorem ixf_zero {l : List Ob} (h : ixf l = 0) : l.length ≤ 200 ∧ ∀ k, k < l.length → eiF l k = 0 := by
  by_cases hm : 200 < l.length
  · rw [ixf_many hm] at h; omega
  · refine ⟨by omega, fun k hk => ?_⟩
    -- the first that is not zero
    have key : ∀ n, n ≤ l.length → ∀ j, j < n → eiF l j = 0 := by
      intro n
      induction n with
      | zero => intro _ j hj; omega
      | succ n ih =>
        intro hn j hj
        have ih' := ih (by omega)
        by_cases e : j = n
        · subst e
          by_cases hb : eiF l j = 0
          · exact hb
          · have := ixf_bad hm (by omega) ih' hb
            rw [h] at this; exact this.symm
        · exact ih' j (by omega)
    exact key l.length (Nat.le_refl _) k hk
theorem eiF_zero {l : List Ob} {k : Nat} (h : eiF l k = 0) : eiO (l.getD k onil) = 0 ∧ (0 < k → bh (l.getD (k - 1) onil) (l.getD k onil) = true) := by
  unfold eiF at h
  split at h
  · rename_i h0
    refine ⟨h0, fun hk => ?_⟩
    cases hb : bh (l.getD (k - 1) onil) (l.getD k onil) with
    | true => rfl
    | false => rw [if_pos ⟨hk, hb⟩] at h; omega
  · rename_i h0; exact absurd h h0
theorem ix_stage {l : List Ob} {k : Nat} (h : eiF l k = 0) : 0 ≤ (l.getD k onil).2.1 ∧ (l.getD k onil).2.1 ≤ 3 := by
  obtain ⟨_, a, _⟩ := ei_zero (eiF_zero h).1
  unfold inB at a
  simpa using a
end Go.Proofs.YtjcnnmnnbjaheaaGreatDoor.En
/- The contracts of InDir (the program's and the specification's). No statement is proved here. -/
namespace Go.Proofs.YtjcnnmnnbjaheaaGreatDoor
open Go.ChangeShapes Go.WideShapes Go.ChangeAt Go.RowKit

/-- Does s begin with p? -/
def hpx (s p : ByteArray) : Bool := decide (p.size ≤ s.size) && ((s.extract 0 p.size).toList == p.toList)
/-- Is a path within a directory? -/
def inD (p d : ByteArray) : Bool := decide (d.size + 1 < p.size) && ((p.extract 0 (d.size + 1)).toList == (d ++ (⟨#[47]⟩ : ByteArray)).toList)
theorem hpx_iff {s p : ByteArray} : hpx s p = true ↔ s.data.toList.take p.size = p.data.toList := by
  unfold hpx
  rw [ByteArray.toList_eq, ByteArray.toList_eq, extract_data, List.drop_zero, Nat.sub_zero]
  constructor
  · intro h
    simp only [Bool.and_eq_true, decide_eq_true_eq, beq_iff_eq] at h
    exact h.2
  · intro h
    have := congrArg List.length h
    rw [List.length_take, size_eq, size_eq] at this
    simp only [Bool.and_eq_true, decide_eq_true_eq, beq_iff_eq]
    exact ⟨by omega, h⟩
theorem inD_iff {p d : ByteArray} : inD p d = true ↔ d.size + 1 < p.size ∧ p.data.toList.take (d.size + 1) = d.data.toList ++ [47] := by
  unfold inD
  rw [ByteArray.toList_eq, ByteArray.toList_eq, extract_data, List.drop_zero, Nat.sub_zero]
  have e : (d ++ (⟨#[47]⟩ : ByteArray)).data.toList = d.data.toList ++ [47] := by simp [ByteArray.data_append]
  rw [e]
  simp only [Bool.and_eq_true, decide_eq_true_eq, beq_iff_eq]
theorem inD_no {p d : ByteArray} (h : hpx p d = false) : inD p d = false := by
  cases e : inD p d with
  | false => rfl
  | true =>
    obtain ⟨h1, h2⟩ := inD_iff.1 e
    have h3 : p.data.toList.take d.size = d.data.toList := by
      have h4 : p.data.toList.take (d.size + 1) = p.data.toList.take d.size ++ (p.data.toList.drop d.size).take 1 := List.take_add
      rw [h4] at h2
      exact (List.append_inj h2 (by rw [List.length_take, size_eq, size_eq]; omega)).1
    rw [hpx_iff.2 h3] at h
    cases h
theorem inD_short {p d : ByteArray} (h : ¬ d.size + 1 < p.size) : inD p d = false := by
  unfold inD
  rw [decide_eq_false h]; rfl
theorem inD_rest {p d : ByteArray} (h : hpx p d = true) (h1 : d.size + 1 < p.size) : inD p d = hpx (p.extract d.size p.size) ⟨#[47]⟩ := by
  have h2 := hpx_iff.1 h
  have e1 : (p.extract d.size p.size).data.toList = p.data.toList.drop d.size := by
    rw [extract_data, List.take_of_length_le (by rw [List.length_drop, size_eq]; omega)]
  have e2 : p.data.toList.take (d.size + 1) = d.data.toList ++ (p.data.toList.drop d.size).take 1 := by
    rw [List.take_add, h2]
  cases e : inD p d with
  | true =>
    obtain ⟨_, h3⟩ := inD_iff.1 e
    rw [e2] at h3
    symm
    rw [hpx_iff, e1]
    exact List.append_cancel_left h3
  | false =>
    cases e3 : hpx (p.extract d.size p.size) ⟨#[47]⟩ with
    | false => rfl
    | true =>
      have h3 := hpx_iff.1 e3
      rw [e1] at h3
      have : inD p d = true := inD_iff.2 ⟨h1, by rw [e2]; exact congrArg (d.data.toList ++ ·) h3⟩
      rw [this] at e; cases e

set_option maxHeartbeats 400000 in
theorem sliteHasPrefix (s p : ByteArray) (w : World) :
    Calls Tryz.prog 95 #[.string s, .string p] w fun e w' => e = .returned (.bool (hpx s p)) ∧ w' = w := by
  by_cases h : p.size ≤ s.size
  · have hR : Hid (hpx s p = ((s.extract 0 p.size).toList == p.toList)) := by show _ = _; unfold hpx; rw [decide_eq_true h, Bool.true_and]
    have q : (p.size : Int) ≤ (s.size : Int) := by omega
    go_enter Tryz.func95, Tryz.ntmps95
    go_wp2
    go_ret
    exact ⟨ret_bool hR.out.symm, rfl⟩
  · have hR : Hid (hpx s p = false) := by show _ = _; unfold hpx; rw [decide_eq_false h]; rfl
    have q : ¬ (p.size : Int) ≤ (s.size : Int) := by omega
    go_enter Tryz.func95, Tryz.ntmps95
    go_wp2
    go_ret
    exact ⟨ret_bool hR.out.symm, rfl⟩
set_option maxHeartbeats 400000 in
theorem sliteCutPrefix (s p : ByteArray) (w : World) :
    Calls Tryz.prog 73 #[.string s, .string p] w fun e w' => e = .returned (.tuple #[.string (if hpx s p = true then s.extract p.size s.size else s), .bool (hpx s p)]) ∧ w' = w := by
  have h := fun w => sliteHasPrefix s p w
  cases hb : hpx s p with
  | true =>
    have hl : p.size ≤ s.size := by
      have := congrArg List.length (hpx_iff.1 hb)
      rw [List.length_take, size_eq, size_eq] at this
      omega
    rw [hb] at h
    rw [if_pos rfl]
    clear hb
    go_enter Tryz.func73, Tryz.ntmps73
    go_wp2_with (go_at_call 95; refine (h _).mono ?_; rintro e w' ⟨rfl, rfl⟩)
    go_ret2
    exact ⟨rfl, rfl⟩
  | false =>
    rw [hb] at h
    rw [if_neg (by decide)]
    clear hb
    go_enter Tryz.func73, Tryz.ntmps73
    go_wp2_with (go_at_call 95; refine (h _).mono ?_; rintro e w' ⟨rfl, rfl⟩)
    go_ret2
    exact ⟨rfl, rfl⟩
theorem cutPrefix (s p : ByteArray) (w : World) :
    Calls Tryz.prog 44 #[.string s, .string p] w fun e w' => e = .returned (.tuple #[.string (if hpx s p = true then s.extract p.size s.size else s), .bool (hpx s p)]) ∧ w' = w := by
  have h := fun w => sliteCutPrefix s p w
  obtain ⟨x, hx⟩ : ∃ x, (if hpx s p = true then s.extract p.size s.size else s) = x := ⟨_, rfl⟩
  obtain ⟨b, hb⟩ : ∃ b, hpx s p = b := ⟨_, rfl⟩
  rw [hx, hb] at h
  rw [hx, hb]
  clear hx hb
  go_enter Tryz.func44, Tryz.ntmps44
  go_wp2_with (go_at_call 73; refine (h _).mono ?_; rintro e w' ⟨rfl, rfl⟩)
  go_ret2
  exact ⟨rfl, rfl⟩
end Go.Proofs.YtjcnnmnnbjaheaaGreatDoor
