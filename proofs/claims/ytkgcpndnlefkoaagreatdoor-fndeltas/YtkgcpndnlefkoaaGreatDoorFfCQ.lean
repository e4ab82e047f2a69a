/- Files: the fault of a file, which paths are taken; the program's fileFault and isTaken. No statement is proved here. -/
import Derived.Test.YtkgcpndnlefkoaaGreatDoorRows
import Derived.Test.YtkgcpndnlefkoaaGreatDoorLemQ
import Derived.Test.YtkgcpndnlefkoaaGreatDoorDTabQ
import Derived.Test.YtkgcpndnlefkoaaGreatDoorInQ
import Derived.Test.YtkgcpndnlefkoaaGreatDoorIdLQ
import Derived.Test.YtkgcpndnlefkoaaGreatDoorPfCQ
import Derived.Test.YtkgcpndnlefkoaaGreatDoorDiCQ
import Derived.WalkKit
import Derived.ProofKit
import Derived.Below
import Derived.WalkSpells
import Derived.Deep.QuietTactic
import Derived.BigQuiet
import Derived.Deep.RegionWith
import Derived.Laws.Cover1
import Derived.Laws.StructEq
namespace Go.Proofs.YtkgcpndnlefkoaaGreatDoor.Fl
open Go.ChangeShapes Go.WideShapes Go.ChangeAt Go.RowKit

def leF (a b : ByteArray) : Bool := Op.bytesLess a.toList b.toList || a.toList == b.toList
/-- The fault of a file by itself. -/
def fi (x0 : ByteArray) (x1 : Int) (x2 : ByteArray) : Int := if pf x0 = 0 then (if inB x1 1 2 = true then (if isOf 1 x2 = true then 0 else 1) else 3) else pf x0
theorem fi_path {x0 : ByteArray} {x1 : Int} {x2 : ByteArray} (h : ¬ pf x0 = 0) : fi x0 x1 x2 = pf x0 := if_neg h
theorem fi_mode {x0 : ByteArray} {x1 : Int} {x2 : ByteArray} (h : pf x0 = 0) (e : inB x1 1 2 = false) : fi x0 x1 x2 = 3 := by unfold fi; rw [if_pos h, if_neg (by rw [e]; decide)]
theorem fi_id {x0 : ByteArray} {x1 : Int} {x2 : ByteArray} (h : pf x0 = 0) (e : inB x1 1 2 = true) (q : isOf 1 x2 = false) : fi x0 x1 x2 = 1 := by unfold fi; rw [if_pos h, if_pos e, if_neg (by rw [q]; decide)]
theorem fi_ok {x0 : ByteArray} {x1 : Int} {x2 : ByteArray} (h : pf x0 = 0) (e : inB x1 1 2 = true) (q : isOf 1 x2 = true) : fi x0 x1 x2 = 0 := by unfold fi; rw [if_pos h, if_pos e, if_pos q]
theorem inB12 {x1 : Int} (h : inB x1 1 2 = true) : x1 = 1 ∨ x1 = 2 := by
  unfold inB at h
  simp at h
  omega
theorem inB12F {x1 : Int} (h : inB x1 1 2 = false) : ¬ x1 = 1 ∧ ¬ x1 = 2 := by
  refine ⟨fun e => ?_, fun e => ?_⟩ <;> subst e <;> simp [inB] at h
/-- The fault of the file at a place. -/
def fiF (l : List Ob) (k : Nat) : Int :=
  if fi (l.getD k onil).1 (l.getD k onil).2.1 (l.getD k onil).2.2 = 0 then (if 0 < k ∧ leF (l.getD k onil).1 (l.getD (k - 1) onil).1 = true then 1 else 0) else fi (l.getD k onil).1 (l.getD k onil).2.1 (l.getD k onil).2.2
def fiE (l : List Ob) : Int := if 60 < l.length then 2 else (((List.range l.length).map (fiF l)).find? (fun x => decide (x ≠ 0))).getD 0
theorem fiE_many {l : List Ob} (h : 60 < l.length) : fiE l = 2 := if_pos h
theorem fiE_bad {l : List Ob} {k : Nat} (h : ¬ 60 < l.length) (hk : k < l.length) (h0 : ∀ j, j < k → fiF l j = 0) (hb : ¬ fiF l k = 0) : fiE l = fiF l k := by
  unfold fiE
  rw [if_neg h]
  have : ((List.range l.length).map (fiF l)).find? (fun x => decide (x ≠ 0)) = some (fiF l k) := by
    rw [List.find?_eq_some_iff_getElem]
    refine ⟨by simp [hb], k, by simp [hk], by simp, fun j hj => ?_⟩
    simp [h0 j hj]
  rw [this]; rfl
theorem fiE_ok {l : List Ob} (h : ¬ 60 < l.length) (h0 : ∀ j, j < l.length → fiF l j = 0) : fiE l = 0 := by
  unfold fiE
  rw [if_neg h]
  have : ((List.range l.length).map (fiF l)).find? (fun x => decide (x ≠ 0)) = none := by
    rw [List.find?_eq_none]
    intro x hx
    obtain ⟨j, hj, rfl⟩ := List.mem_map.1 hx
    simp [h0 j (List.mem_range.1 hj)]
  rw [this]; rfl
/-- Is a path within that of one of the files ahead of place n? -/
def tkU (l : List Ob) (p : ByteArray) (n : Nat) : Bool := (List.range n).any (fun k => inD p (l.getD k onil).1)
theorem tkU_zero (l : List Ob) (p : ByteArray) : tkU l p 0 = false := rfl
theorem tkU_succ (l : List Ob) (p : ByteArray) (n : Nat) : tkU l p (n + 1) = (tkU l p n || inD p (l.getD n onil).1) := by unfold tkU; rw [List.range_succ, List.any_append]; simp
theorem tkU_more {l : List Ob} {p : ByteArray} {n m : Nat} (h : tkU l p n = true) (hm : n ≤ m) : tkU l p m = true := by
  obtain ⟨k, hk, e⟩ := List.any_eq_true.1 h
  exact List.any_eq_true.2 ⟨k, List.mem_range.2 (Nat.lt_of_lt_of_le (List.mem_range.1 hk) hm), e⟩
def tk (l : List Ob) (p : ByteArray) : Bool := tkU l p l.length
def tkA (l : List Ob) (n : Nat) : Bool := (List.range n).any (fun k => tk l (l.getD k onil).1)
theorem tkA_zero (l : List Ob) : tkA l 0 = false := rfl
theorem tkA_succ (l : List Ob) (n : Nat) : tkA l (n + 1) = (tkA l n || tk l (l.getD n onil).1) := by unfold tkA; rw [List.range_succ, List.any_append]; simp
theorem tkA_more {l : List Ob} {n m : Nat} (h : tkA l n = true) (hm : n ≤ m) : tkA l m = true := by
  obtain ⟨k, hk, e⟩ := List.any_eq_true.1 h
  exact List.any_eq_true.2 ⟨k, List.mem_range.2 (Nat.lt_of_lt_of_le (List.mem_range.1 hk) hm), e⟩
/-- The fault of a list of files. -/
def ffl (l : List Ob) : Int := if fiE l = 0 then (if tkA l l.length = true then 7 else 0) else fiE l
theorem ffl_bad {l : List Ob} (h : ¬ fiE l = 0) : ffl l = fiE l := if_neg h
theorem ffl_taken {l : List Ob} (h : fiE l = 0) (e : tkA l l.length = true) : ffl l = 7 := by unfold ffl; rw [if_pos h, if_pos e]
theorem ffl_ok {l : List Ob} (h : fiE l = 0) (e : tkA l l.length = false) : ffl l = 0 := by unfold ffl; rw [if_pos h, if_neg (by rw [e]; decide)]


set_option maxRecDepth 20000 in
set_option maxHeartbeats 2000000 in
theorem fileFaultC (x0 x2 : ByteArray) (x1 : Int) (w : World) (h0 : x0.size ≤ 1048576) : Calls Tryz.prog 27 #[.agg #[.string x0, .int .i64 x1, .string x2]] w fun e w' => e = .returned (.int .i64 (fi x0 x1 x2)) ∧ Below w.heap.size w w' := by
  have hN := fun w => implPathFault x0 w h0
  have hO := fun w => isIdOf 1 (.inl rfl) x2 w
  obtain ⟨W1, hW1⟩ : ∃ W, w.alloc (.cells #[.string x0, .int .i64 x1, .string x2] 42) = W := ⟨_, rfl⟩
  have b1 : Below w.heap.size w W1 := by rw [← hW1]; exact allocBelow _ _
  have r1 : Rf W1 w.heap.size [.string x0, .int .i64 x1, .string x2] := by rw [← hW1]; exact Rf.new _ _ _
  have z1 : w.heap.size < W1.heap.size := by rw [← hW1]; simp
  have c0 := r1.at_ 0 _ rfl
  have hbad : ¬ pf x0 = 0 → Hid (fi x0 x1 x2 = pf x0) := fun h => fi_path h
  have hmode : pf x0 = 0 → inB x1 1 2 = false → Hid (fi x0 x1 x2 = 3) := fun h e => fi_mode h e
  have hid : pf x0 = 0 → inB x1 1 2 = true → isOf 1 x2 = false → Hid (fi x0 x1 x2 = 1) := fun h e q => fi_id h e q
  have hok : pf x0 = 0 → inB x1 1 2 = true → isOf 1 x2 = true → Hid (fi x0 x1 x2 = 0) := fun h e q => fi_ok h e q
  obtain ⟨n, hn⟩ : ∃ n, pf x0 = n := ⟨_, rfl⟩
  rw [hn] at hbad hmode hid hok
  simp only [hn] at hN
  clear hn
  go_enter Tryz.func27, Tryz.ntmps27
  go_wp2_with fail
  refine (hN _).mono ?_; rintro e w2 ⟨rfl, b2⟩
  have B2 : Below w.heap.size w w2 := b1.trans (b2.mono b1.size)
  have r2 := r1.below z1 b2
  have c0 := r2.at_ 0 _ rfl
  have c1 := r2.at_ 1 _ rfl
  have c2 := r2.at_ 2 _ rfl
  clear hN b1 b2 r1 r2 hW1
  by_cases hz : n = 0
  · have qn : (n != 0) = false := by simp [hz]
    clear hbad
    subst hz
    replace hmode := hmode rfl
    replace hid := hid rfl
    replace hok := hok rfl
    have hM := fun w => isFileModeC x1 w
    cases hin : inB x1 1 2 with
    | false =>
      have HR := hmode hin
      rw [hin] at hM
      clear hmode hid hok hin hO
      go_wp2_with fail
      refine (hM _).mono ?_; rintro e w3 ⟨rfl, rfl⟩
      go_wp2
      go_ret
      exact ⟨ret_int HR.out.symm, B2⟩
    | true =>
      replace hid := hid hin
      replace hok := hok hin
      rw [hin] at hM
      clear hmode hin
      cases hb : isOf 1 x2 with
      | false =>
        have HR := hid hb
        rw [hb] at hO
        clear hid hok hb
        go_wp2_with fail
        refine (hM _).mono ?_; rintro e w3 ⟨rfl, rfl⟩
        go_wp2_with fail
        refine (hO _).mono ?_; rintro e w3 ⟨rfl, m, rfl⟩
        go_wp2
        go_ret
        exact ⟨ret_int HR.out.symm, below_drewN' B2 _⟩
      | true =>
        have HR := hok hb
        rw [hb] at hO
        clear hid hok hb
        go_wp2_with fail
        refine (hM _).mono ?_; rintro e w3 ⟨rfl, rfl⟩
        go_wp2_with fail
        refine (hO _).mono ?_; rintro e w3 ⟨rfl, m, rfl⟩
        go_wp2
        go_ret
        exact ⟨ret_int HR.out.symm, below_drewN' B2 _⟩
  · have HR := hbad hz
    have qn : (n != 0) = true := by simp [hz]
    clear hbad hmode hid hok hO hz
    go_wp2
    go_ret
    exact ⟨ret_int HR.out.symm, B2⟩

set_option maxHeartbeats 1000000 in
theorem isTaken1 (p x0 x2 : ByteArray) (x1 : Int) (b : Nat) (w : World) (hb : b < w.heap.size) (hc : w.cell? ⟨b, 0, none⟩ = some (.string p)) :
    Calls Tryz.prog 51 #[.agg #[.string x0, .int .i64 x1, .string x2], .pointer (some ⟨b, 0, none⟩)] w fun e w' => e = .returned (.bool (inD p x0)) ∧ Below w.heap.size w w' := by
  have hI := fun w => implInDir p x0 w
  obtain ⟨W1, hW1⟩ : ∃ W, w.alloc (.cells #[.string x0, .int .i64 x1, .string x2] 42) = W := ⟨_, rfl⟩
  have b1 : Below w.heap.size w W1 := by rw [← hW1]; exact allocBelow _ _
  have r1 : Rf W1 w.heap.size [.string x0, .int .i64 x1, .string x2] := by rw [← hW1]; exact Rf.new _ _ _
  have c0 := r1.at_ 0 _ rfl
  have cb : W1.cell? ⟨b, 0, none⟩ = some (.string p) := (b1.cell (p := ⟨b, 0, none⟩) hb).trans hc
  obtain ⟨r, hr⟩ : ∃ r, inD p x0 = r := ⟨_, rfl⟩
  rw [hr] at hI ⊢
  clear hr r1
  go_enter Tryz.func51, Tryz.ntmps51
  go_wp2_with (go_at_call 52; refine (hI _).mono ?_; rintro e w2 ⟨rfl, rfl⟩)
  go_ret
  exact ⟨rfl, b1⟩
end Go.Proofs.YtkgcpndnlefkoaaGreatDoor.Fl
/- The contracts of the laws' helpers over lists of files (szFileS, toFileS, eqFileS). No statement is proved here. -/
namespace Go.Proofs.YtkgcpndnlefkoaaGreatDoor.Fl
open Go.ChangeShapes Go.WideShapes Go.ChangeAt Go.RowKit

theorem beqSelf (s : ByteArray) : (s.toList == s.toList) = true := beq_bytes_true rfl
end Go.Proofs.YtkgcpndnlefkoaaGreatDoor.Fl
/- The contracts of MergeKind, of the program and of the specification. No statement is proved here. -/
namespace Go.Proofs.YtkgcpndnlefkoaaGreatDoor.Fl
open Go.ChangeShapes Go.WideShapes Go.ChangeAt Go.RowKit

theorem run_eqF (x1 x3 y1 y3 : ByteArray) (x2 y2 : Int) (w : World) : (Op.equalIn 10000 42 (.agg #[.string x1, .int .i64 x2, .string x3]) (.agg #[.string y1, .int .i64 y2, .string y3])).run Tryz.prog w = .ok (decide (((x1, x2, x3) : Ob) = (y1, y2, y3))) w := by
  by_cases h1 : x1 = y1
  · subst h1
    have b1 := beqSelf x1
    by_cases h2 : x2 = y2
    · subst h2
      by_cases h3 : x3 = y3
      · subst h3
        have b3 := beqSelf x3
        go_simp
      · have b3 : (x3.toList == y3.toList) = false := beq_bytes_false h3
        have e : ¬ (((x1, x2, x3) : Ob) = (x1, x2, y3)) := fun h => h3 (by simpa using h)
        rw [decide_eq_false e]
        go_simp
    · have b2 : (x2 == y2) = false := by simp [h2]
      have e : ¬ (((x1, x2, x3) : Ob) = (x1, y2, y3)) := fun h => h2 (by simp at h; exact h.1)
      rw [decide_eq_false e]
      go_simp
  · have b1 : (x1.toList == y1.toList) = false := beq_bytes_false h1
    have e : ¬ (((x1, x2, x3) : Ob) = (y1, y2, y3)) := fun h => h1 (by simp at h; exact h.1)
    rw [decide_eq_false e]
    go_simp

/-- What MergeKind answers. -/
def mk (b o t : Ob) : Int := if o = t then 0 else if t = b then 1 else if o = b then 2 else if o = onil then 4 else if t = onil then 4 else 3
theorem ef_yes {x1 x3 y1 y3 : ByteArray} {x2 y2 : Int} (h : ((x1, x2, x3) : Ob) = (y1, y2, y3)) (w : World) : (Op.equalIn 10000 42 (.agg #[.string x1, .int .i64 x2, .string x3]) (.agg #[.string y1, .int .i64 y2, .string y3])).run Tryz.prog w = .ok true w := by
  rw [run_eqF, decide_eq_true h]
theorem ef_no {x1 x3 y1 y3 : ByteArray} {x2 y2 : Int} (h : ¬ ((x1, x2, x3) : Ob) = (y1, y2, y3)) (w : World) : (Op.equalIn 10000 42 (.agg #[.string x1, .int .i64 x2, .string x3]) (.agg #[.string y1, .int .i64 y2, .string y3])).run Tryz.prog w = .ok false w := by
  rw [run_eqF, decide_eq_false h]
theorem ef_nil {x1 x3 : ByteArray} {x2 : Int} (h : ((x1, x2, x3) : Ob) = onil) (w : World) : (Op.equalIn 10000 42 (.agg #[.string x1, .int .i64 x2, .string x3]) (.agg #[.string ⟨#[]⟩, .int .i64 0, .string ⟨#[]⟩])).run Tryz.prog w = .ok true w := ef_yes h w
theorem ef_some {x1 x3 : ByteArray} {x2 : Int} (h : ¬ ((x1, x2, x3) : Ob) = onil) (w : World) : (Op.equalIn 10000 42 (.agg #[.string x1, .int .i64 x2, .string x3]) (.agg #[.string ⟨#[]⟩, .int .i64 0, .string ⟨#[]⟩])).run Tryz.prog w = .ok false w := ef_no h w
end Go.Proofs.YtkgcpndnlefkoaaGreatDoor.Fl
