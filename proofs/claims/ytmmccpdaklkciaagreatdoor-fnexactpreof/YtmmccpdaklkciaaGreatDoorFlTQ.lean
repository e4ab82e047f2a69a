/- The contracts of the laws' helpers over lists of files (szFileS, toFileS, eqFileS). No statement is proved here. -/
import Derived.Test.YtmmccpdaklkciaaGreatDoorRows
import Derived.Test.YtmmccpdaklkciaaGreatDoorLemQ
import Derived.Test.YtmmccpdaklkciaaGreatDoorDTabQ
import Derived.Test.YtmmccpdaklkciaaGreatDoorFlLQ
import Derived.WalkKit
import Derived.ProofKit
import Derived.Below
import Derived.WalkSpells
import Derived.Deep.QuietTactic
import Derived.BigQuiet
import Derived.Deep.RegionWith
import Derived.Laws.Cover1
import Derived.Laws.StructEq
namespace Go.Proofs.YtmmccpdaklkciaaGreatDoor.Fl
open Go.ChangeShapes Go.WideShapes Go.ChangeAt Go.RowKit

set_option maxHeartbeats 1000000 in
theorem szFile (o : Ob) (n : Int) (w : World) (f1 : o.1.size ≤ 9223372036854775807) (f2 : o.2.2.size ≤ 9223372036854775807) (h0 : 0 ≤ n) (h1 : n ≤ 1048576) :
    Calls Tryz.prog 7 #[.agg #[.string o.1, .int .i64 o.2.1, .string o.2.2], .int .i64 n] w fun e w' => e = .returned (.int .i64 (left1 n o)) ∧ Below w.heap.size w w' := by
  obtain ⟨s, k, t⟩ := o
  simp only [] at f1 f2 ⊢
  by_cases hn : n - s.size < 0
  · have hC : Hid (left1 n (s, k, t) = -1) := if_pos hn
    go_enter Tryz.func7, Tryz.ntmps7
    go_wp2
    go_ret
    exact ⟨ret_int hC.out.symm, allocBelow _ _⟩
  · by_cases hm : n - s.size - t.size < 0
    · have hC : Hid (left1 n (s, k, t) = -1) := by show _ = _; unfold left1; rw [if_neg hn, if_pos hm]
      go_enter Tryz.func7, Tryz.ntmps7
      go_wp2
      go_ret
      exact ⟨ret_int hC.out.symm, allocBelow _ _⟩
    · have hC : Hid (left1 n (s, k, t) = n - s.size - t.size) := by show _ = _; unfold left1; rw [if_neg hn, if_neg hm]
      go_enter Tryz.func7, Tryz.ntmps7
      go_wp2
      go_ret
      exact ⟨ret_int hC.out.symm, allocBelow _ _⟩

set_option maxHeartbeats 1000000 in
theorem toFile (s t : ByteArray) (k : Int) (w : World) :
    Calls Tryz.prog 10 #[.agg #[.string s, .int .i64 k, .string t]] w fun e w' => e = .returned (.agg #[.string s, .int .i64 k, .string t]) ∧ Below w.heap.size w w' := by
  go_enter Tryz.func10, Tryz.ntmps10
  go_wp2
  refine bodyPost_ret (v := .agg #[.string s, .int .i64 k, .string t]) (by simp [results, Tryz.results10, go_sem]) rfl ⟨rfl, ?_⟩
  exact (((Below.refl _ _).alloc (Nat.le_refl _) _).alloc (by simp) _).alloc (by simp; omega) _

theorem beqSelf (s : ByteArray) : (s.toList == s.toList) = true := beq_bytes_true rfl
end Go.Proofs.YtmmccpdaklkciaaGreatDoor.Fl
/- The contracts of MergeKind, of the program and of the specification. No statement is proved here. -/
namespace Go.Proofs.YtmmccpdaklkciaaGreatDoor.Fl
open Go.ChangeShapes Go.WideShapes Go.ChangeAt Go.RowKit

theorem run_eqF (x1 x3 y1 y3 : ByteArray) (x2 y2 : Int) (w : World) : (Op.equalIn 10000 34 (.agg #[.string x1, .int .i64 x2, .string x3]) (.agg #[.string y1, .int .i64 y2, .string y3])).run Tryz.prog w = .ok (decide (((x1, x2, x3) : Ob) = (y1, y2, y3))) w := by
  by_cases h1 : x1 = y1
  · subst h1
    have b1 := beqSelf x1
    by_cases h2 : x2 = y2
    · subst h2
      by_cases h3 : x3 = y3
      · subst h3
        have b3 := beqSelf x3
        go_simp
      · have b3 : (x3.toList == y3.toList) = false := beq_bytes_false h3
        have e : ¬ (((x1, x2, x3) : Ob) = (x1, x2, y3)) := fun h => h3 (by simpa using h)
        rw [decide_eq_false e]
        go_simp
    · have b2 : (x2 == y2) = false := by simp [h2]
      have e : ¬ (((x1, x2, x3) : Ob) = (x1, y2, y3)) := fun h => h2 (by simp at h; exact h.1)
      rw [decide_eq_false e]
      go_simp
  · have b1 : (x1.toList == y1.toList) = false := beq_bytes_false h1
    have e : ¬ (((x1, x2, x3) : Ob) = (y1, y2, y3)) := fun h => h1 (by simp at h; exact h.1)
    rw [decide_eq_false e]
    go_simp

/-- What MergeKind answers. -/
def mk (b o t : Ob) : Int := if o = t then 0 else if t = b then 1 else if o = b then 2 else if o = onil then 4 else if t = onil then 4 else 3
theorem ef_yes {x1 x3 y1 y3 : ByteArray} {x2 y2 : Int} (h : ((x1, x2, x3) : Ob) = (y1, y2, y3)) (w : World) : (Op.equalIn 10000 34 (.agg #[.string x1, .int .i64 x2, .string x3]) (.agg #[.string y1, .int .i64 y2, .string y3])).run Tryz.prog w = .ok true w := by
  rw [run_eqF, decide_eq_true h]
theorem ef_no {x1 x3 y1 y3 : ByteArray} {x2 y2 : Int} (h : ¬ ((x1, x2, x3) : Ob) = (y1, y2, y3)) (w : World) : (Op.equalIn 10000 34 (.agg #[.string x1, .int .i64 x2, .string x3]) (.agg #[.string y1, .int .i64 y2, .string y3])).run Tryz.prog w = .ok false w := by
  rw [run_eqF, decide_eq_false h]
theorem ef_nil {x1 x3 : ByteArray} {x2 : Int} (h : ((x1, x2, x3) : Ob) = onil) (w : World) : (Op.equalIn 10000 34 (.agg #[.string x1, .int .i64 x2, .string x3]) (.agg #[.string ⟨#[]⟩, .int .i64 0, .string ⟨#[]⟩])).run Tryz.prog w = .ok true w := ef_yes h w
theorem ef_some {x1 x3 : ByteArray} {x2 : Int} (h : ¬ ((x1, x2, x3) : Ob) = onil) (w : World) : (Op.equalIn 10000 34 (.agg #[.string x1, .int .i64 x2, .string x3]) (.agg #[.string ⟨#[]⟩, .int .i64 0, .string ⟨#[]⟩])).run Tryz.prog w = .ok false w := ef_no h w
set_option maxRecDepth 20000 in
set_option maxHeartbeats 2000000 in
theorem specMergeKind (b1 b3 o1 o3 t1 t3 : ByteArray) (b2 o2 t2 : Int) (w : World) :
    Calls Tryz.prog 85 #[.agg #[.string b1, .int .i64 b2, .string b3], .agg #[.string o1, .int .i64 o2, .string o3], .agg #[.string t1, .int .i64 t2, .string t3]] w fun e w' => e = .returned (.int .i64 (mk (b1, b2, b3) (o1, o2, o3) (t1, t2, t3))) ∧ Below w.heap.size w w' := by
  obtain ⟨R, hR⟩ : ∃ R, mk (b1, b2, b3) (o1, o2, o3) (t1, t2, t3) = R := ⟨_, rfl⟩
  rw [hR]
  unfold mk at hR
  by_cases h1 : ((o1, o2, o3) : Ob) = (t1, t2, t3)
  · have f1 := fun w => ef_yes h1 w
    rw [if_pos h1] at hR
    have HC : Hid (R = 0) := hR.symm
    clear hR h1
    go_enter Tryz.func85, Tryz.ntmps85
    go_wp2
    go_ret
    exact ⟨ret_int HC.out.symm, ((((Below.refl _ _).alloc (Nat.le_refl _) _).alloc (by simp) _).alloc (by simp; omega) _).alloc (by simp; omega) _⟩
  have f1 := fun w => ef_no h1 w
  rw [if_neg h1] at hR
  clear h1
  by_cases h2 : ((t1, t2, t3) : Ob) = (b1, b2, b3)
  · have f2 := fun w => ef_yes h2 w
    rw [if_pos h2] at hR
    have HC : Hid (R = 1) := hR.symm
    clear hR h2
    go_enter Tryz.func85, Tryz.ntmps85
    go_wp2
    go_ret
    exact ⟨ret_int HC.out.symm, ((((Below.refl _ _).alloc (Nat.le_refl _) _).alloc (by simp) _).alloc (by simp; omega) _).alloc (by simp; omega) _⟩
  have f2 := fun w => ef_no h2 w
  rw [if_neg h2] at hR
  clear h2
  by_cases h3 : ((o1, o2, o3) : Ob) = (b1, b2, b3)
  · have f3 := fun w => ef_yes h3 w
    rw [if_pos h3] at hR
    have HC : Hid (R = 2) := hR.symm
    clear hR h3
    go_enter Tryz.func85, Tryz.ntmps85
    go_wp2
    go_ret
    exact ⟨ret_int HC.out.symm, ((((Below.refl _ _).alloc (Nat.le_refl _) _).alloc (by simp) _).alloc (by simp; omega) _).alloc (by simp; omega) _⟩
  have f3 := fun w => ef_no h3 w
  rw [if_neg h3] at hR
  clear h3
  by_cases h4 : ((o1, o2, o3) : Ob) = onil
  · have f4 := fun w => ef_nil h4 w
    rw [if_pos h4] at hR
    have HC : Hid (R = 4) := hR.symm
    clear hR h4
    go_enter Tryz.func85, Tryz.ntmps85
    go_wp2
    go_ret
    exact ⟨ret_int HC.out.symm, ((((Below.refl _ _).alloc (Nat.le_refl _) _).alloc (by simp) _).alloc (by simp; omega) _).alloc (by simp; omega) _⟩
  have f4 := fun w => ef_some h4 w
  rw [if_neg h4] at hR
  clear h4
  by_cases h5 : ((t1, t2, t3) : Ob) = onil
  · have f5 := fun w => ef_nil h5 w
    rw [if_pos h5] at hR
    have HC : Hid (R = 4) := hR.symm
    clear hR h5
    go_enter Tryz.func85, Tryz.ntmps85
    go_wp2
    go_ret
    exact ⟨ret_int HC.out.symm, ((((Below.refl _ _).alloc (Nat.le_refl _) _).alloc (by simp) _).alloc (by simp; omega) _).alloc (by simp; omega) _⟩
  have f5 := fun w => ef_some h5 w
  rw [if_neg h5] at hR
  have HC : Hid (R = 3) := hR.symm
  clear hR h5
  go_enter Tryz.func85, Tryz.ntmps85
  go_wp2
  go_ret
  exact ⟨ret_int HC.out.symm, ((((Below.refl _ _).alloc (Nat.le_refl _) _).alloc (by simp) _).alloc (by simp; omega) _).alloc (by simp; omega) _⟩
set_option maxRecDepth 20000 in
set_option maxHeartbeats 2000000 in
theorem implMergeKind (b1 b3 o1 o3 t1 t3 : ByteArray) (b2 o2 t2 : Int) (w : World) :
    Calls Tryz.prog 97 #[.agg #[.string b1, .int .i64 b2, .string b3], .agg #[.string o1, .int .i64 o2, .string o3], .agg #[.string t1, .int .i64 t2, .string t3]] w fun e w' => e = .returned (.int .i64 (mk (b1, b2, b3) (o1, o2, o3) (t1, t2, t3))) ∧ Below w.heap.size w w' := by
  obtain ⟨R, hR⟩ : ∃ R, mk (b1, b2, b3) (o1, o2, o3) (t1, t2, t3) = R := ⟨_, rfl⟩
  rw [hR]
  unfold mk at hR
  by_cases h1 : ((o1, o2, o3) : Ob) = (t1, t2, t3)
  · have f1 := fun w => ef_yes h1 w
    rw [if_pos h1] at hR
    have HC : Hid (R = 0) := hR.symm
    clear hR h1
    go_enter Tryz.func97, Tryz.ntmps97
    go_wp2
    go_ret
    exact ⟨ret_int HC.out.symm, (((Below.refl _ _).alloc (Nat.le_refl _) _).alloc (by simp) _).alloc (by simp; omega) _⟩
  have f1 := fun w => ef_no h1 w
  rw [if_neg h1] at hR
  clear h1
  by_cases h2 : ((t1, t2, t3) : Ob) = (b1, b2, b3)
  · have f2 := fun w => ef_yes h2 w
    rw [if_pos h2] at hR
    have HC : Hid (R = 1) := hR.symm
    clear hR h2
    go_enter Tryz.func97, Tryz.ntmps97
    go_wp2
    go_ret
    exact ⟨ret_int HC.out.symm, (((Below.refl _ _).alloc (Nat.le_refl _) _).alloc (by simp) _).alloc (by simp; omega) _⟩
  have f2 := fun w => ef_no h2 w
  rw [if_neg h2] at hR
  clear h2
  by_cases h3 : ((o1, o2, o3) : Ob) = (b1, b2, b3)
  · have f3 := fun w => ef_yes h3 w
    rw [if_pos h3] at hR
    have HC : Hid (R = 2) := hR.symm
    clear hR h3
    go_enter Tryz.func97, Tryz.ntmps97
    go_wp2
    go_ret
    exact ⟨ret_int HC.out.symm, (((Below.refl _ _).alloc (Nat.le_refl _) _).alloc (by simp) _).alloc (by simp; omega) _⟩
  have f3 := fun w => ef_no h3 w
  rw [if_neg h3] at hR
  clear h3
  by_cases h4 : ((o1, o2, o3) : Ob) = onil
  · have f4 := fun w => ef_nil h4 w
    rw [if_pos h4] at hR
    have HC : Hid (R = 4) := hR.symm
    clear hR h4
    go_enter Tryz.func97, Tryz.ntmps97
    go_wp2
    go_ret
    exact ⟨ret_int HC.out.symm, (((Below.refl _ _).alloc (Nat.le_refl _) _).alloc (by simp) _).alloc (by simp; omega) _⟩
  have f4 := fun w => ef_some h4 w
  rw [if_neg h4] at hR
  clear h4
  by_cases h5 : ((t1, t2, t3) : Ob) = onil
  · have f5 := fun w => ef_nil h5 w
    rw [if_pos h5] at hR
    have HC : Hid (R = 4) := hR.symm
    clear hR h5
    go_enter Tryz.func97, Tryz.ntmps97
    go_wp2
    go_ret
    exact ⟨ret_int HC.out.symm, (((Below.refl _ _).alloc (Nat.le_refl _) _).alloc (by simp) _).alloc (by simp; omega) _⟩
  have f5 := fun w => ef_some h5 w
  rw [if_neg h5] at hR
  have HC : Hid (R = 3) := hR.symm
  clear hR h5
  go_enter Tryz.func97, Tryz.ntmps97
  go_wp2
  go_ret
  exact ⟨ret_int HC.out.symm, (((Below.refl _ _).alloc (Nat.le_refl _) _).alloc (by simp) _).alloc (by simp; omega) _⟩
end Go.Proofs.YtmmccpdaklkciaaGreatDoor.Fl
