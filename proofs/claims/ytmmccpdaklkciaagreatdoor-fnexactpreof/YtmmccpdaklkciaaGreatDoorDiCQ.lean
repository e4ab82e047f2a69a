/- The contracts of InDir (the program's and the specification's). No statement is proved here. -/
import Derived.Test.YtmmccpdaklkciaaGreatDoorRows
import Derived.Test.YtmmccpdaklkciaaGreatDoorLemQ
import Derived.Test.YtmmccpdaklkciaaGreatDoorLFLemQ
import Derived.WalkKit
import Derived.ProofKit
import Derived.Below
import Derived.Laws.Concat
import Derived.Test.YtmmccpdaklkciaaGreatDoorDTabQ
import Derived.Test.YtmmccpdaklkciaaGreatDoorHkTQ
import Derived.Test.YtmmccpdaklkciaaGreatDoorIdLQ
import Derived.Test.YtmmccpdaklkciaaGreatDoorFlLQ
import Derived.Test.YtmmccpdaklkciaaGreatDoorIxMQ
import Derived.Test.YtmmccpdaklkciaaGreatDoorFmCQ
import Derived.WalkSpells
import Derived.Deep.QuietTactic
import Derived.BigQuiet
import Derived.Deep.RegionWith
import Derived.Laws.Cover1
import Derived.Test.YtmmccpdaklkciaaGreatDoorEnLQ
namespace Go.Proofs.YtmmccpdaklkciaaGreatDoor
open Go.ChangeShapes Go.WideShapes Go.ChangeAt Go.RowKit

/-- Does s begin with p? -/
def hpx (s p : ByteArray) : Bool := decide (p.size ≤ s.size) && ((s.extract 0 p.size).toList == p.toList)
/-- Is a path within a directory? -/
def inD (p d : ByteArray) : Bool := decide (d.size + 1 < p.size) && ((p.extract 0 (d.size + 1)).toList == (d ++ (⟨#[47]⟩ : ByteArray)).toList)
theorem hpx_iff {s p : ByteArray} : hpx s p = true ↔ s.data.toList.take p.size = p.data.toList := by
  unfold hpx
  rw [ByteArray.toList_eq, ByteArray.toList_eq, extract_data, List.drop_zero, Nat.sub_zero]
  constructor
  · intro h
    simp only [Bool.and_eq_true, decide_eq_true_eq, beq_iff_eq] at h
    exact h.2
  · intro h
    have := congrArg List.length h
    rw [List.length_take, size_eq, size_eq] at this
    simp only [Bool.and_eq_true, decide_eq_true_eq, beq_iff_eq]
    exact ⟨by omega, h⟩
theorem inD_iff {p d : ByteArray} : inD p d = true ↔ d.size + 1 < p.size ∧ p.data.toList.take (d.size + 1) = d.data.toList ++ [47] := by
  unfold inD
  rw [ByteArray.toList_eq, ByteArray.toList_eq, extract_data, List.drop_zero, Nat.sub_zero]
  have e : (d ++ (⟨#[47]⟩ : ByteArray)).data.toList = d.data.toList ++ [47] := by simp [ByteArray.data_append]
  rw [e]
  simp only [Bool.and_eq_true, decide_eq_true_eq, beq_iff_eq]
theorem inD_no {p d : ByteArray} (h : hpx p d = false) : inD p d = false := by
  cases e : inD p d with
  | false => rfl
  | true =>
    obtain ⟨h1, h2⟩ := inD_iff.1 e
    have h3 : p.data.toList.take d.size = d.data.toList := by
      have h4 : p.data.toList.take (d.size + 1) = p.data.toList.take d.size ++ (p.data.toList.drop d.size).take 1 := List.take_add
      rw [h4] at h2
      exact (List.append_inj h2 (by rw [List.length_take, size_eq, size_eq]; omega)).1
    rw [hpx_iff.2 h3] at h
    cases h
theorem inD_short {p d : ByteArray} (h : ¬ d.size + 1 < p.size) : inD p d = false := by
  unfold inD
  rw [decide_eq_false h]; rfl
theorem inD_rest {p d : ByteArray} (h : hpx p d = true) (h1 : d.size + 1 < p.size) : inD p d = hpx (p.extract d.size p.size) ⟨#[47]⟩ := by
  have h2 := hpx_iff.1 h
  have e1 : (p.extract d.size p.size).data.toList = p.data.toList.drop d.size := by
    rw [extract_data, List.take_of_length_le (by rw [List.length_drop, size_eq]; omega)]
  have e2 : p.data.toList.take (d.size + 1) = d.data.toList ++ (p.data.toList.drop d.size).take 1 := by
    rw [List.take_add, h2]
  cases e : inD p d with
  | true =>
    obtain ⟨_, h3⟩ := inD_iff.1 e
    rw [e2] at h3
    symm
    rw [hpx_iff, e1]
    exact List.append_cancel_left h3
  | false =>
    cases e3 : hpx (p.extract d.size p.size) ⟨#[47]⟩ with
    | false => rfl
    | true =>
      have h3 := hpx_iff.1 e3
      rw [e1] at h3
      have : inD p d = true := inD_iff.2 ⟨h1, by rw [e2]; exact congrArg (d.data.toList ++ ·) h3⟩
      rw [this] at e; cases e

set_option maxHeartbeats 1000000 in
theorem specInDir (p d : ByteArray) (w : World) (hp : p.size ≤ 1048576) (hd : d.size ≤ 1048576) :
    Calls Tryz.prog 83 #[.string p, .string d] w fun e w' => e = .returned (.bool (inD p d)) ∧ w' = w := by
  by_cases h : d.size + 1 < p.size
  · have HR : Hid (inD p d = ((p.extract 0 (d.size + 1)).toList == (d ++ (⟨#[47]⟩ : ByteArray)).toList)) := by show _ = _; unfold inD; rw [decide_eq_true h, Bool.true_and]
    have q : (d.size : Int) + 1 < (p.size : Int) := by omega
    have e2 : (⟨#[47]⟩ : ByteArray).size = 1 := rfl
    go_enter Tryz.func83, Tryz.ntmps83
    go_wp2
    go_ret
    exact ⟨ret_bool HR.out.symm, rfl⟩
  · have HR : Hid (inD p d = false) := inD_short h
    have q : ¬ (d.size : Int) + 1 < (p.size : Int) := by omega
    go_enter Tryz.func83, Tryz.ntmps83
    go_wp2
    go_ret
    exact ⟨ret_bool HR.out.symm, rfl⟩
end Go.Proofs.YtmmccpdaklkciaaGreatDoor
/- Files: the fault of a file, which paths are taken; the program's fileFault and isTaken. No statement is proved here. -/
namespace Go.Proofs.YtmmccpdaklkciaaGreatDoor.Fl
open Go.ChangeShapes Go.WideShapes Go.ChangeAt Go.RowKit

def leF (a b : ByteArray) : Bool := Op.bytesLess a.toList b.toList || a.toList == b.toList
/-- The fault of a file by itself. -/
def fi (x0 : ByteArray) (x1 : Int) (x2 : ByteArray) : Int := if pf x0 = 0 then (if inB x1 1 2 = true then (if isOf 1 x2 = true then 0 else 1) else 3) else pf x0
theorem fi_path {x0 : ByteArray} {x1 : Int} {x2 : ByteArray} (h : ¬ pf x0 = 0) : fi x0 x1 x2 = pf x0 := if_neg h
theorem fi_mode {x0 : ByteArray} {x1 : Int} {x2 : ByteArray} (h : pf x0 = 0) (e : inB x1 1 2 = false) : fi x0 x1 x2 = 3 := by unfold fi; rw [if_pos h, if_neg (by rw [e]; decide)]
theorem fi_id {x0 : ByteArray} {x1 : Int} {x2 : ByteArray} (h : pf x0 = 0) (e : inB x1 1 2 = true) (q : isOf 1 x2 = false) : fi x0 x1 x2 = 1 := by unfold fi; rw [if_pos h, if_pos e, if_neg (by rw [q]; decide)]
theorem fi_ok {x0 : ByteArray} {x1 : Int} {x2 : ByteArray} (h : pf x0 = 0) (e : inB x1 1 2 = true) (q : isOf 1 x2 = true) : fi x0 x1 x2 = 0 := by unfold fi; rw [if_pos h, if_pos e, if_pos q]
theorem inB12 {x1 : Int} (h : inB x1 1 2 = true) : x1 = 1 ∨ x1 = 2 := by
  unfold inB at h
  simp at h
  omega
theorem inB12F {x1 : Int} (h : inB x1 1 2 = false) : ¬ x1 = 1 ∧ ¬ x1 = 2 := by
  refine ⟨fun e => ?_, fun e => ?_⟩ <;> subst e <;> simp [inB] at h
/-- The fault of the file at a place. -/
def fiF (l : List Ob) (k : Nat) : Int :=
  if fi (l.getD k onil).1 (l.getD k onil).2.1 (l.getD k onil).2.2 = 0 then (if 0 < k ∧ leF (l.getD k onil).1 (l.getD (k - 1) onil).1 = true then 1 else 0) else fi (l.getD k onil).1 (l.getD k onil).2.1 (l.getD k onil).2.2
def fiE (l : List Ob) : Int := if 60 < l.length then 2 else (((List.range l.length).map (fiF l)).find? (fun x => decide (x ≠ 0))).getD 0
theorem fiE_many {l : List Ob} (h : 60 < l.length) : fiE l = 2 := if_pos h
theorem fiE_bad {l : List Ob} {k : Nat} (h : ¬ 60 < l.length) (hk : k < l.length) (h0 : ∀ j, j < k → fiF l j = 0) (hb : ¬ fiF l k = 0) : fiE l = fiF l k := by
  unfold fiE
  rw [if_neg h]
  have : ((List.range l.length).map (fiF l)).find? (fun x => decide (x ≠ 0)) = some (fiF l k) := by
    rw [List.find?_eq_some_iff_getElem]
    refine ⟨by simp [hb], k, by simp [hk], by simp, fun j hj => ?_⟩
    simp [h0 j hj]
  rw [this]; rfl
theorem fiE_ok {l : List Ob} (h : ¬ 60 < l.length) (h0 : ∀ j, j < l.length → fiF l j = 0) : fiE l = 0 := by
  unfold fiE
  rw [if_neg h]
  have : ((List.range l.length).map (fiF l)).find? (fun x => decide (x ≠ 0)) = none := by
    rw [List.find?_eq_none]
    intro x hx
    obtain ⟨j, hj, rfl⟩ := List.mem_map.1 hx
    simp [h0 j (List.mem_range.1 hj)]
  rw [this]; rfl
/-- Is a path within that of one of the files ahead of place n? -/
def tkU (l : List Ob) (p : ByteArray) (n : Nat) : Bool := (List.range n).any (fun k => inD p (l.getD k onil).1)
theorem tkU_zero (l : List Ob) (p : ByteArray) : tkU l p 0 = false := rfl
theorem tkU_succ (l : List Ob) (p : ByteArray) (n : Nat) : tkU l p (n + 1) = (tkU l p n || inD p (l.getD n onil).1) := by unfold tkU; rw [List.range_succ, List.any_append]; simp
theorem tkU_more {l : List Ob} {p : ByteArray} {n m : Nat} (h : tkU l p n = true) (hm : n ≤ m) : tkU l p m = true := by
  obtain ⟨k, hk, e⟩ := List.any_eq_true.1 h
  exact List.any_eq_true.2 ⟨k, List.mem_range.2 (Nat.lt_of_lt_of_le (List.mem_range.1 hk) hm), e⟩
def tk (l : List Ob) (p : ByteArray) : Bool := tkU l p l.length
def tkA (l : List Ob) (n : Nat) : Bool := (List.range n).any (fun k => tk l (l.getD k onil).1)
theorem tkA_zero (l : List Ob) : tkA l 0 = false := rfl
theorem tkA_succ (l : List Ob) (n : Nat) : tkA l (n + 1) = (tkA l n || tk l (l.getD n onil).1) := by unfold tkA; rw [List.range_succ, List.any_append]; simp
theorem tkA_more {l : List Ob} {n m : Nat} (h : tkA l n = true) (hm : n ≤ m) : tkA l m = true := by
  obtain ⟨k, hk, e⟩ := List.any_eq_true.1 h
  exact List.any_eq_true.2 ⟨k, List.mem_range.2 (Nat.lt_of_lt_of_le (List.mem_range.1 hk) hm), e⟩
/-- The fault of a list of files. -/
def ffl (l : List Ob) : Int := if fiE l = 0 then (if tkA l l.length = true then 7 else 0) else fiE l
theorem ffl_bad {l : List Ob} (h : ¬ fiE l = 0) : ffl l = fiE l := if_neg h
theorem ffl_taken {l : List Ob} (h : fiE l = 0) (e : tkA l l.length = true) : ffl l = 7 := by unfold ffl; rw [if_pos h, if_pos e]
theorem ffl_ok {l : List Ob} (h : fiE l = 0) (e : tkA l l.length = false) : ffl l = 0 := by unfold ffl; rw [if_pos h, if_neg (by rw [e]; decide)]


set_option maxRecDepth 20000 in
set_option maxHeartbeats 2000000 in
theorem fileFaultC (x0 x2 : ByteArray) (x1 : Int) (w : World) (h0 : x0.size ≤ 1048576) : Calls Tryz.prog 90 #[.agg #[.string x0, .int .i64 x1, .string x2]] w fun e w' => e = .returned (.int .i64 (fi x0 x1 x2)) ∧ Below w.heap.size w w' := by
  have hN := fun w => implPathFault x0 w h0
  have hO := fun w => isIdOf 1 (.inl rfl) x2 w
  obtain ⟨W1, hW1⟩ : ∃ W, w.alloc (.cells #[.string x0, .int .i64 x1, .string x2] 34) = W := ⟨_, rfl⟩
  have b1 : Below w.heap.size w W1 := by rw [← hW1]; exact allocBelow _ _
  have r1 : Rf W1 w.heap.size [.string x0, .int .i64 x1, .string x2] := by rw [← hW1]; exact Rf.new _ _ _
  have z1 : w.heap.size < W1.heap.size := by rw [← hW1]; simp
  have c0 := r1.at_ 0 _ rfl
  have hbad : ¬ pf x0 = 0 → Hid (fi x0 x1 x2 = pf x0) := fun h => fi_path h
  have hmode : pf x0 = 0 → inB x1 1 2 = false → Hid (fi x0 x1 x2 = 3) := fun h e => fi_mode h e
  have hid : pf x0 = 0 → inB x1 1 2 = true → isOf 1 x2 = false → Hid (fi x0 x1 x2 = 1) := fun h e q => fi_id h e q
  have hok : pf x0 = 0 → inB x1 1 2 = true → isOf 1 x2 = true → Hid (fi x0 x1 x2 = 0) := fun h e q => fi_ok h e q
  obtain ⟨n, hn⟩ : ∃ n, pf x0 = n := ⟨_, rfl⟩
  rw [hn] at hbad hmode hid hok
  simp only [hn] at hN
  clear hn
  go_enter Tryz.func90, Tryz.ntmps90
  go_wp2_with fail
  refine (hN _).mono ?_; rintro e w2 ⟨rfl, b2⟩
  have B2 : Below w.heap.size w w2 := b1.trans (b2.mono b1.size)
  have r2 := r1.below z1 b2
  have c0 := r2.at_ 0 _ rfl
  have c1 := r2.at_ 1 _ rfl
  have c2 := r2.at_ 2 _ rfl
  clear hN b1 b2 r1 r2 hW1
  by_cases hz : n = 0
  · have qn : (n != 0) = false := by simp [hz]
    clear hbad
    subst hz
    replace hmode := hmode rfl
    replace hid := hid rfl
    replace hok := hok rfl
    have hM := fun w => isFileModeC x1 w
    cases hin : inB x1 1 2 with
    | false =>
      have HR := hmode hin
      rw [hin] at hM
      clear hmode hid hok hin hO
      go_wp2_with fail
      refine (hM _).mono ?_; rintro e w3 ⟨rfl, rfl⟩
      go_wp2
      go_ret
      exact ⟨ret_int HR.out.symm, B2⟩
    | true =>
      replace hid := hid hin
      replace hok := hok hin
      rw [hin] at hM
      clear hmode hin
      cases hb : isOf 1 x2 with
      | false =>
        have HR := hid hb
        rw [hb] at hO
        clear hid hok hb
        go_wp2_with fail
        refine (hM _).mono ?_; rintro e w3 ⟨rfl, rfl⟩
        go_wp2_with fail
        refine (hO _).mono ?_; rintro e w3 ⟨rfl, m, rfl⟩
        go_wp2
        go_ret
        exact ⟨ret_int HR.out.symm, below_drewN' B2 _⟩
      | true =>
        have HR := hok hb
        rw [hb] at hO
        clear hid hok hb
        go_wp2_with fail
        refine (hM _).mono ?_; rintro e w3 ⟨rfl, rfl⟩
        go_wp2_with fail
        refine (hO _).mono ?_; rintro e w3 ⟨rfl, m, rfl⟩
        go_wp2
        go_ret
        exact ⟨ret_int HR.out.symm, below_drewN' B2 _⟩
  · have HR := hbad hz
    have qn : (n != 0) = true := by simp [hz]
    clear hbad hmode hid hok hO hz
    go_wp2
    go_ret
    exact ⟨ret_int HR.out.symm, B2⟩

end Go.Proofs.YtmmccpdaklkciaaGreatDoor.Fl
/- Indexes and files that have no fault rise. Plain mathematics. No statement is proved here. -/
namespace Go.Proofs.YtmmccpdaklkciaaGreatDoor.En
open Go.ChangeShapes Go.WideShapes Go.ChangeAt Go.RowKit

theorem byL_irr : ∀ a : List UInt8, Op.bytesLess a a = false
  | [] => rfl
  | x :: a => by
    have ih := byL_irr a
    unfold Op.bytesLess
    have h1 : ¬ x < x := fun h => by have : x.toNat < x.toNat := h; omega
    simp [h1, ih]
theorem byL_trans : ∀ a b c : List UInt8, Op.bytesLess a b = true → Op.bytesLess b c = true → Op.bytesLess a c = true
  | [], [], _, h, _ => by simp [Op.bytesLess] at h
  | [], _ :: _, [], _, h => by simp [Op.bytesLess] at h
  | [], _ :: _, _ :: _, _, _ => rfl
  | _ :: _, [], _, h, _ => by simp [Op.bytesLess] at h
  | _ :: _, _ :: _, [], _, h => by simp [Op.bytesLess] at h
  | x :: a, y :: b, z :: c, h1, h2 => by
    have ih := byL_trans a b c
    unfold Op.bytesLess at h1 h2 ⊢
    by_cases xy : x < y
    · by_cases yz : y < z
      · have xz : x < z := by have a1 : x.toNat < y.toNat := xy; have a2 : y.toNat < z.toNat := yz; exact (show x.toNat < z.toNat by omega)
        simp [xz]
      · by_cases e : y = z
        · subst e; simp [xy]
        · simp [yz, e] at h2
    · by_cases e : x = y
      · subst e
        by_cases yz : x < z
        · simp [yz]
        · by_cases e2 : x = z
          · subst e2
            simp [xy] at h1 h2 ⊢
            exact ih h1 h2
          · simp [yz, e2] at h2
      · simp [xy, e] at h1
theorem cmL_anti : ∀ a b : List UInt8, Lib.compareBytes a b = 1 → Lib.compareBytes b a = -1
  | [], [], h => by simp [Lib.compareBytes] at h
  | [], _ :: _, h => by simp [Lib.compareBytes] at h
  | _ :: _, [], _ => rfl
  | x :: a, y :: b, h => by
    have ih := cmL_anti a b
    unfold Lib.compareBytes at h ⊢
    by_cases h1 : x < y
    · simp [h1] at h
    · by_cases h2 : y < x
      · simp [h2]
      · simp [h1, h2] at h ⊢
        exact ih h
theorem cm_anti (a b : ByteArray) (h : cmB a b = 1) : cmB b a = -1 := cmL_anti _ _ h
theorem cmB_lt {a b : ByteArray} : cmB a b < 0 ↔ Op.bytesLess a.toList b.toList = true := by
  rcases cmB_cases a b with ⟨h1, h2, _⟩ | ⟨h1, h2⟩ | ⟨h1, h2, _⟩
  · rw [h1, h2]; simp
  · rw [h1, h2, byL_irr]; simp
  · rw [h1, h2]; simp
theorem cmB_trans {a b c : ByteArray} (h1 : cmB a b < 0) (h2 : cmB b c < 0) : cmB a c < 0 := by
  rw [cmB_lt] at *
  exact byL_trans _ _ _ h1 h2
theorem cmB_zero {a b : ByteArray} : cmB a b = 0 ↔ a = b := by
  rcases cmB_cases a b with ⟨h1, _, h3⟩ | ⟨h1, h2⟩ | ⟨h1, _, h3⟩
  · refine ⟨fun h => by omega, fun h => ?_⟩
    rw [beq_bytes_true h] at h3; cases h3
  · exact ⟨fun _ => h2, fun _ => h1⟩
  · refine ⟨fun h => by omega, fun h => ?_⟩
    rw [beq_bytes_true h] at h3; cases h3
theorem cmI_lt {a b : Int} : cmI a b < 0 ↔ a < b := by
  unfold cmI
  by_cases h : a < b
  · simp [h]
  · rw [if_neg h]
    by_cases h2 : b < a
    · rw [if_pos h2]; omega
    · rw [if_neg h2]; omega
theorem cmE_lt {a b : Ob} : cmE a b < 0 ↔ cmB a.1 b.1 < 0 ∨ (a.1 = b.1 ∧ a.2.1 < b.2.1) := by
  unfold cmE
  by_cases h : cmB a.1 b.1 = 0
  · rw [if_pos h, cmI_lt]
    have e := cmB_zero.1 h
    constructor
    · intro q; exact .inr ⟨e, q⟩
    · rintro (q | ⟨_, q⟩)
      · omega
      · exact q
  · rw [if_neg h]
    constructor
    · intro q; exact .inl q
    · rintro (q | ⟨e, _⟩)
      · exact q
      · exact absurd (cmB_zero.2 e) h
theorem cmE_trans {a b c : Ob} (h1 : cmE a b < 0) (h2 : cmE b c < 0) : cmE a c < 0 := by
  rw [cmE_lt] at *
  rcases h1 with h1 | ⟨e1, h1⟩
  · rcases h2 with h2 | ⟨e2, _⟩
    · exact .inl (cmB_trans h1 h2)
    · rw [← e2]; exact .inl h1
  · rcases h2 with h2 | ⟨e2, h2⟩
    · rw [e1]; exact .inl h2
    · exact .inr ⟨e1.trans e2, by omega⟩
/-- An index without a fault rises. -/
theorem ix_rises {l : List Ob} (h : ixf l = 0) : ∀ k j, j < k → k < l.length → cmE (l.getD j onil) (l.getD k onil) < 0 := by
  have h0 := (ixf_zero h).2
  intro k
  induction k with
  | zero => intro j hj; omega
  | succ k ih =>
    intro j hj hk
    have hb := (eiF_zero (h0 (k + 1) hk)).2 (by omega)
    have hs : cmE (l.getD k onil) (l.getD (k + 1) onil) < 0 := by
      unfold bh at hb
      rw [Nat.add_sub_cancel] at hb
      exact of_decide_eq_true (Bool.and_eq_true_iff.1 hb).1
    by_cases e : j = k
    · rw [e]; exact hs
    · exact cmE_trans (ih j (by omega) (by omega)) hs
/-- Files without a fault rise. -/
theorem fi_rises {l : List Fl.Ob} (h : Fl.ffl l = 0) : l.length ≤ 60 ∧ ∀ k j, j < k → k < l.length → cmB (l.getD j Fl.onil).1 (l.getD k Fl.onil).1 < 0 := by
  have hE : Fl.fiE l = 0 := by
    unfold Fl.ffl at h
    split at h
    · assumption
    · exact absurd h (by assumption)
  have hm : ¬ 60 < l.length := fun q => by rw [Fl.fiE_many q] at hE; omega
  have h0 : ∀ n, n ≤ l.length → ∀ j, j < n → Fl.fiF l j = 0 := by
    intro n
    induction n with
    | zero => intro _ j hj; omega
    | succ n ih =>
      intro hn j hj
      have ih' := ih (by omega)
      by_cases e : j = n
      · subst e
        by_cases hb : Fl.fiF l j = 0
        · exact hb
        · have := Fl.fiE_bad hm (by omega) ih' hb
          rw [hE] at this; exact this.symm
      · exact ih' j (by omega)
  refine ⟨by omega, ?_⟩
  intro k
  induction k with
  | zero => intro j hj; omega
  | succ k ih =>
    intro j hj hk
    have hf := h0 l.length (Nat.le_refl _) (k + 1) hk
    have hs : cmB (l.getD k Fl.onil).1 (l.getD (k + 1) Fl.onil).1 < 0 := by
      unfold Fl.fiF at hf
      split at hf
      · split at hf
        · omega
        · rename_i hc
          rw [Nat.add_sub_cancel] at hc
          have hl : Fl.leF (l.getD (k + 1) Fl.onil).1 (l.getD k Fl.onil).1 = false := by
            cases e : Fl.leF (l.getD (k + 1) Fl.onil).1 (l.getD k Fl.onil).1 with
            | false => rfl
            | true => exact absurd ⟨by omega, e⟩ hc
          unfold Fl.leF at hl
          obtain ⟨h1, h2⟩ := Bool.or_eq_false_iff.1 hl
          rcases cmB_cases (l.getD k Fl.onil).1 (l.getD (k + 1) Fl.onil).1 with ⟨q, _⟩ | ⟨_, q⟩ | ⟨q, _⟩
          · omega
          · rw [q, beq_bytes_true rfl] at h2; cases h2
          · -- the other way round it would be less
            rcases cmB_cases (l.getD (k + 1) Fl.onil).1 (l.getD k Fl.onil).1 with ⟨_, q2, _⟩ | ⟨_, q2⟩ | ⟨q2, _⟩
            · rw [h1] at q2; cases q2
            · rw [q2, beq_bytes_true rfl] at h2; cases h2
            · exact absurd (cm_anti _ _ q) (by omega)
      · rename_i hz; exact absurd hf hz
    by_cases e : j = k
    · rw [e]; exact hs
    · exact cmB_trans (ih j (by omega) (by omega)) hs
end Go.Proofs.YtmmccpdaklkciaaGreatDoor.En
