/- The contracts of the laws' helpers over IntsResult. No statement is proved here. -/
import Derived.Test.YtidjcjeiigjmaaiRows
import Derived.Test.YtidjcjeiigjmaaiLem
import Derived.Test.YtidjcjeiigjmaaiStrs
import Derived.Test.YtidjcjeiigjmaaiMarks
import Derived.Test.YtidjcjeiigjmaaiHeld
import Derived.Test.YtidjcjeiigjmaaiDTab
import Derived.Test.YtidjcjeiigjmaaiFr
import Derived.Test.YtidjcjeiigjmaaiOwn
import Derived.Test.YtidjcjeiigjmaaiIntS
import Derived.Test.YtidjcjeiigjmaaiHkL
import Derived.Test.YtidjcjeiigjmaaiHkC
import Derived.Test.YtidjcjeiigjmaaiHkS
import Derived.WalkKit
import Derived.ProofKit
import Derived.Below
import Derived.WalkSpells
namespace Go.Proofs.Ytidjcjeiigjmaai
open Go.ChangeShapes Go.WideShapes Go.ChangeAt Go.RowKit

theorem irOf {w : World} {base : Nat} {v : Value} {l : List Int} (h : w.ownsRow base 2 1 v l.length (intCells l)) : IR w v l.length (fun k => l.getD k 0) := IR.of h _ (fun k hk => by simp [intCells, List.getD, hk])
theorem irMarks {w : World} {base m n : Nat} {v : Value} (h : w.ownsRow base 2 1 v n (marksI m n)) : IR w v n (fun k => ((m + k : Nat) : Int)) := IR.of h _ (fun k hk => marksI_at m n k hk)

set_option maxHeartbeats 1000000 in
theorem eqIntsResult (c : Int) (v1 v2 : Value) (n : Nat) (f : Nat → Int) (w : World) (h1 : IR w v1 n f) (h2 : IR w v2 n f) (hn : n ≤ 1048576) :
    Calls Try.prog 28 #[.agg #[.int .i64 c, v1], .agg #[.int .i64 c, v2]] w fun e w' => e = .returned (.bool true) ∧ Below w.heap.size w w' := by
  have hN : ∀ o1 o2, Below w.heap.size w ((w.alloc o1).alloc o2) := fun o1 o2 => ((Below.refl _ _).alloc (Nat.le_refl _) _).alloc (by simp) _
  go_enter Try.func28, Try.ntmps28
  go_wp2_with fail
  refine (eqInt64S v1 v2 n f _ (h1.below (hN _ _)) (h2.below (hN _ _)) hn).mono ?_; rintro e w1 ⟨rfl, q, rfl⟩
  go_wp2_with fail
  go_ret
  exact ⟨rfl, below_drewN' (hN _ _) _⟩

set_option maxHeartbeats 1000000 in
theorem markIntsResult (lo hi : Nat) (c : Int) (v : Value) (n m : Nat) (xs : List Value) (w : World) (hm : m + n ≤ 4194304) (h1 : w.ownsRow lo 2 1 v n xs) (b1 : ∀ j, v.ownBlock = some j → j < hi) :
    Calls Try.prog 31 #[.agg #[.int .i64 c, v], .int .i64 m] w fun e w' => e = .returned (.int .i64 ((m + n : Nat) : Int)) ∧
      w'.ownsRow lo 2 1 v n (marksI m n) ∧ Fr lo hi w w' := by
  go_enter Try.func31, Try.ntmps31
  go_wp2_with fail
  refine (markInt64S lo v n m xs _ hm (h1.alloc _)).mono ?_; rintro e w1 ⟨rfl, p1, g1⟩
  have hF1 : Fr lo hi w w1 := (Fr.ofAlloc _ _).trans (Fr.ofGrown g1 (fun j hj => ⟨(h1.lt j hj).1, b1 j hj⟩))
  clear g1
  go_wp2_with fail
  go_ret
  exact ⟨rfl, p1, hF1⟩

set_option maxHeartbeats 1000000 in
theorem heldIntsResult (c : Int) (v : Value) (n m : Nat) (w : World) (hm : m + n ≤ 4194304) (h1 : IR w v n (fun k => ((m + k : Nat) : Int))) :
    Calls Try.prog 32 #[.agg #[.int .i64 c, v], .int .i64 m] w fun e w' => e = .returned (.int .i64 ((m + n : Nat) : Int)) ∧ Below w.heap.size w w' := by
  have q1 : ¬ ((m + n : Nat) : Int) < 0 := by omega
  have H1 := fun W h => heldInt64S v n m W hm h
  have hB : ∀ o, Below w.heap.size w (w.alloc o) := fun o => (Below.refl _ _).alloc (Nat.le_refl _) _
  obtain ⟨M, hM⟩ : ∃ M : Int, ((m + n : Nat) : Int) = M := ⟨_, rfl⟩
  rw [hM] at H1 q1
  have HM : Hid (((m + n : Nat) : Int) = M) := hM
  clear hM
  go_enter Try.func32, Try.ntmps32
  go_wp2_with fail
  refine (H1 _ (h1.below (hB _))).mono ?_; rintro e w1 ⟨rfl, q, rfl⟩
  go_wp2_with fail
  go_ret
  exact ⟨ret_int HM.out.symm, below_drewN' (hB _) _⟩
end Go.Proofs.Ytidjcjeiigjmaai
