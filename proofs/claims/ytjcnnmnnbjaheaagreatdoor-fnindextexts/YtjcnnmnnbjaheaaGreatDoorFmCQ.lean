/- Small contracts: which modes files have, which stages entries have. No statement is proved here. -/
import Derived.Test.YtjcnnmnnbjaheaaGreatDoorRows
import Derived.Test.YtjcnnmnnbjaheaaGreatDoorLemQ
import Derived.Test.YtjcnnmnnbjaheaaGreatDoorDTabQ
import Derived.WalkKit
import Derived.ProofKit
import Derived.Below
import Derived.Laws.Cover1
import Derived.Test.YtjcnnmnnbjaheaaGreatDoorHkTQ
import Derived.Test.YtjcnnmnnbjaheaaGreatDoorIdLQ
import Derived.Test.YtjcnnmnnbjaheaaGreatDoorFlLQ
import Derived.Test.YtjcnnmnnbjaheaaGreatDoorSsCQ
import Derived.Test.YtjcnnmnnbjaheaaGreatDoorIxMQ
import Derived.WalkSpells
import Derived.Deep.QuietTactic
import Derived.BigQuiet
import Derived.Deep.RegionWith
namespace Go.Proofs.YtjcnnmnnbjaheaaGreatDoor
open Go.ChangeShapes Go.WideShapes Go.ChangeAt Go.RowKit

theorem mode_yes {x : Int} (h : inB x 1 2 = true) : x = 1 ∨ x = 2 := by
  unfold inB at h
  simp at h
  omega
theorem mode_no {x : Int} (h : inB x 1 2 = false) : (x == 1) = false ∧ (x == 2) = false := by
  refine ⟨?_, ?_⟩
  · cases e : x == 1 with
    | false => rfl
    | true => simp at e; subst e; simp [inB] at h
  · cases e : x == 2 with
    | false => rfl
    | true => simp at e; subst e; simp [inB] at h
theorem isFileModeC (x : Int) (w : World) : Calls Tryz.prog 49 #[.int .i64 x] w fun e w' => e = .returned (.bool (inB x 1 2)) ∧ w' = w := by
  cases h : inB x 1 2 with
  | true =>
    rcases mode_yes h with rfl | rfl
    · clear h
      go_enter Tryz.func49, Tryz.ntmps49
      go_wp2
      go_ret
      exact ⟨rfl, rfl⟩
    · clear h
      go_enter Tryz.func49, Tryz.ntmps49
      go_wp2
      go_ret
      exact ⟨rfl, rfl⟩
  | false =>
    obtain ⟨h1, h2⟩ := mode_no h
    clear h
    go_enter Tryz.func49, Tryz.ntmps49
    go_wp2
    go_ret
    exact ⟨rfl, rfl⟩
theorem l10ModeC (x : Int) (w : World) : Calls Tryz.prog 32 #[.int .i64 x] w fun e w' => e = .returned (.bool (inB x 1 2)) ∧ w' = w := by
  cases h : inB x 1 2 with
  | true =>
    rcases mode_yes h with rfl | rfl
    · clear h
      go_enter Tryz.func32, Tryz.ntmps32
      go_wp2
      go_ret
      exact ⟨rfl, rfl⟩
    · clear h
      go_enter Tryz.func32, Tryz.ntmps32
      go_wp2
      go_ret
      exact ⟨rfl, rfl⟩
  | false =>
    obtain ⟨h1, h2⟩ := mode_no h
    clear h
    go_enter Tryz.func32, Tryz.ntmps32
    go_wp2
    go_ret
    exact ⟨rfl, rfl⟩
theorem isStageC (x : Int) (w : World) : Calls Tryz.prog 48 #[.int .i64 x] w fun e w' => e = .returned (.bool (inB x 0 3)) ∧ w' = w := by
  by_cases h0 : 0 ≤ x
  · by_cases h1 : x ≤ 3
    · have HR : Hid (inB x 0 3 = true) := decide_eq_true ⟨h0, h1⟩
      go_enter Tryz.func48, Tryz.ntmps48
      go_wp2
      go_ret
      exact ⟨ret_bool HR.out.symm, rfl⟩
    · have HR : Hid (inB x 0 3 = false) := decide_eq_false (fun q => h1 q.2)
      go_enter Tryz.func48, Tryz.ntmps48
      go_wp2
      go_ret
      exact ⟨ret_bool HR.out.symm, rfl⟩
  · have HR : Hid (inB x 0 3 = false) := decide_eq_false (fun q => h0 q.1)
    go_enter Tryz.func48, Tryz.ntmps48
    go_wp2
    go_ret
    exact ⟨ret_bool HR.out.symm, rfl⟩
end Go.Proofs.YtjcnnmnnbjaheaaGreatDoor
/- Files: the fault of a file, which paths are taken; the program's fileFault and isTaken. No statement is proved here. -/
namespace Go.Proofs.YtjcnnmnnbjaheaaGreatDoor.Fl
open Go.ChangeShapes Go.WideShapes Go.ChangeAt Go.RowKit

def leF (a b : ByteArray) : Bool := Op.bytesLess a.toList b.toList || a.toList == b.toList
/-- The fault of a file by itself. -/
def fi (x0 : ByteArray) (x1 : Int) (x2 : ByteArray) : Int := if pf x0 = 0 then (if inB x1 1 2 = true then (if isOf 1 x2 = true then 0 else 1) else 3) else pf x0
theorem fi_path {x0 : ByteArray} {x1 : Int} {x2 : ByteArray} (h : ¬ pf x0 = 0) : fi x0 x1 x2 = pf x0 := if_neg h
theorem fi_mode {x0 : ByteArray} {x1 : Int} {x2 : ByteArray} (h : pf x0 = 0) (e : inB x1 1 2 = false) : fi x0 x1 x2 = 3 := by unfold fi; rw [if_pos h, if_neg (by rw [e]; decide)]
theorem fi_id {x0 : ByteArray} {x1 : Int} {x2 : ByteArray} (h : pf x0 = 0) (e : inB x1 1 2 = true) (q : isOf 1 x2 = false) : fi x0 x1 x2 = 1 := by unfold fi; rw [if_pos h, if_pos e, if_neg (by rw [q]; decide)]
theorem fi_ok {x0 : ByteArray} {x1 : Int} {x2 : ByteArray} (h : pf x0 = 0) (e : inB x1 1 2 = true) (q : isOf 1 x2 = true) : fi x0 x1 x2 = 0 := by unfold fi; rw [if_pos h, if_pos e, if_pos q]
theorem inB12 {x1 : Int} (h : inB x1 1 2 = true) : x1 = 1 ∨ x1 = 2 := by
  unfold inB at h
  simp at h
  omega
theorem inB12F {x1 : Int} (h : inB x1 1 2 = false) : ¬ x1 = 1 ∧ ¬ x1 = 2 := by
  refine ⟨fun e => ?_, fun e => ?_⟩ <;> subst e <;> simp [inB] at h
/-- The fault of the file at a place. -/
def fiF (l : List Ob) (k : Nat) : Int :=
  if fi (l.getD k onil).1 (l.getD k onil).2.1 (l.getD k onil).2.2 = 0 then (if 0 < k ∧ leF (l.getD k onil).1 (l.getD (k - 1) onil).1 = true then 1 else 0) else fi (l.getD k onil).1 (l.getD k onil).2.1 (l.getD k onil).2.2
def fiE (l : List Ob) : Int := if 60 < l.length then 2 else (((List.range l.length).map (fiF l)).find? (fun x => decide (x ≠ 0))).getD 0
theorem fiE_many {l : List Ob} (h : 60 < l.length) : fiE l = 2 := if_pos h
theorem fiE_bad {l : List Ob} {k : Nat} (h : ¬ 60 < l.length) (hk : k < l.length) (h0 : ∀ j, j < k → fiF l j = 0) (hb : ¬ fiF l k = 0) : fiE l = fiF l k := by
  unfold fiE
  rw [if_neg h]
  have : ((List.range l.length).map (fiF l)).find? (fun x => decide (x ≠ 0)) = some (fiF l k) := by
    rw [List.find?_eq_some_iff_getElem]
    refine ⟨by simp [hb], k, by simp [hk], by simp, fun j hj => ?_⟩
    simp [h0 j hj]
  rw [this]; rfl
theorem fiE_ok {l : List Ob} (h : ¬ 60 < l.length) (h0 : ∀ j, j < l.length → fiF l j = 0) : fiE l = 0 := by
  unfold fiE
  rw [if_neg h]
  have : ((List.range l.length).map (fiF l)).find? (fun x => decide (x ≠ 0)) = none := by
    rw [List.find?_eq_none]
    intro x hx
    obtain ⟨j, hj, rfl⟩ := List.mem_map.1 hx
    simp [h0 j (List.mem_range.1 hj)]
  rw [this]; rfl
/-- Is a path within that of one of the files ahead of place n? -/
def tkU (l : List Ob) (p : ByteArray) (n : Nat) : Bool := (List.range n).any (fun k => inD p (l.getD k onil).1)
theorem tkU_zero (l : List Ob) (p : ByteArray) : tkU l p 0 = false := rfl
theorem tkU_succ (l : List Ob) (p : ByteArray) (n : Nat) : tkU l p (n + 1) = (tkU l p n || inD p (l.getD n onil).1) := by unfold tkU; rw [List.range_succ, List.any_append]; simp
theorem tkU_more {l : List Ob} {p : ByteArray} {n m : Nat} (h : tkU l p n = true) (hm : n ≤ m) : tkU l p m = true := by
  obtain ⟨k, hk, e⟩ := List.any_eq_true.1 h
  exact List.any_eq_true.2 ⟨k, List.mem_range.2 (Nat.lt_of_lt_of_le (List.mem_range.1 hk) hm), e⟩
def tk (l : List Ob) (p : ByteArray) : Bool := tkU l p l.length
def tkA (l : List Ob) (n : Nat) : Bool := (List.range n).any (fun k => tk l (l.getD k onil).1)
theorem tkA_zero (l : List Ob) : tkA l 0 = false := rfl
theorem tkA_succ (l : List Ob) (n : Nat) : tkA l (n + 1) = (tkA l n || tk l (l.getD n onil).1) := by unfold tkA; rw [List.range_succ, List.any_append]; simp
theorem tkA_more {l : List Ob} {n m : Nat} (h : tkA l n = true) (hm : n ≤ m) : tkA l m = true := by
  obtain ⟨k, hk, e⟩ := List.any_eq_true.1 h
  exact List.any_eq_true.2 ⟨k, List.mem_range.2 (Nat.lt_of_lt_of_le (List.mem_range.1 hk) hm), e⟩
/-- The fault of a list of files. -/
def ffl (l : List Ob) : Int := if fiE l = 0 then (if tkA l l.length = true then 7 else 0) else fiE l
theorem ffl_bad {l : List Ob} (h : ¬ fiE l = 0) : ffl l = fiE l := if_neg h
theorem ffl_taken {l : List Ob} (h : fiE l = 0) (e : tkA l l.length = true) : ffl l = 7 := by unfold ffl; rw [if_pos h, if_pos e]
theorem ffl_ok {l : List Ob} (h : fiE l = 0) (e : tkA l l.length = false) : ffl l = 0 := by unfold ffl; rw [if_pos h, if_neg (by rw [e]; decide)]


end Go.Proofs.YtjcnnmnnbjaheaaGreatDoor.Fl
