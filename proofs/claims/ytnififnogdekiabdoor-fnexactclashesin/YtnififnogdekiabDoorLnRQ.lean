/- The contracts of the laws' helpers over LinesResult. No statement is proved here. -/
import Derived.Test.YtnififnogdekiabDoorRows
import Derived.Test.YtnififnogdekiabDoorLemQ
import Derived.Test.YtnififnogdekiabDoorMarksQ
import Derived.Test.YtnififnogdekiabDoorHeldQ
import Derived.Test.YtnififnogdekiabDoorDTabQ
import Derived.WalkKit
import Derived.ProofKit
import Derived.Below
import Derived.WalkSpells
namespace Go.Proofs.YtnififnogdekiabDoor
open Go.ChangeShapes Go.WideShapes Go.ChangeAt Go.RowKit

set_option maxHeartbeats 800000 in
theorem eqLinesResult (c : Int) (a1 a2 : Option Addr) (k1 k2 : Nat) (ss : List ByteArray) (w : World) (h1 : SS w a1 ss) (h2 : SS w a2 ss) (hn : ss.length ≤ 1048576) :
    Calls Tryd.prog 13 #[.agg #[.int .i64 c, .slice a1 ss.length k1], .agg #[.int .i64 c, .slice a2 ss.length k2]] w fun e w' => e = .returned (.bool true) ∧ Below w.heap.size w w' := by
  go_enter Tryd.func13, Tryd.ntmps13
  go_wp2_with fail
  have hB : Below w.heap.size w ((w.alloc (.cells #[.int .i64 c, .slice a1 ss.length k1] 26)).alloc (.cells #[.int .i64 c, .slice a2 ss.length k2] 26)) := ((Below.refl _ _).alloc (Nat.le_refl _) _).alloc (by simp) _
  refine (eqStringS _ _ _ _ _ _ _ (h1.below hB) (h2.below hB) hn hn).mono ?_; rintro e w1 ⟨rfl, n1, rfl⟩
  rw [eqB_self]
  go_wp2_with fail
  go_ret
  exact ⟨rfl, below_drewN' hB n1⟩

set_option maxHeartbeats 800000 in
theorem markLinesResult (lo hi : Nat) (c : Int) (a : Option Addr) (n cap m : Nat) (xs : List Value) (w : World) (h1 : 1 ≤ m) (h2 : m + n ≤ 4194304)
    (ho : w.ownsRow lo 9 1 (.slice a n cap) n xs) (b1 : ∀ j, (Value.slice a n cap).ownBlock = some j → j < hi) :
    Calls Tryd.prog 16 #[.agg #[.int .i64 c, .slice a n cap], .int .i64 m] w fun e w' => e = .returned (.int .i64 ((m + n : Nat) : Int)) ∧
      w'.ownsRow lo 9 1 (.slice a n cap) n ((marks m n).map Value.string) ∧ Fr lo hi w w' := by
  go_enter Tryd.func16, Tryd.ntmps16
  go_wp2_with fail
  refine (markStringS lo _ _ _ _ _ _ h1 h2 (ho.alloc _)).mono ?_; rintro e w1 ⟨rfl, ho1, hg1⟩
  have hF1 : Fr lo hi w w1 := (Fr.ofAlloc _ _).trans (Fr.ofGrown hg1 (fun j hj => ⟨(ho.lt j hj).1, b1 j hj⟩))
  clear hg1
  go_wp2_with fail
  go_ret
  exact ⟨rfl, ho1, hF1⟩

theorem ssMarks {w : World} {base n cap m : Nat} {a : Option Addr} (h : w.ownsRow base 9 1 (.slice a n cap) n ((marks m n).map Value.string)) (hm : m + n ≤ 4194304) : SS w a (marks m n) := by
  have e := marks_length m n
  have h2 : w.ownsRow base 9 1 (.slice a (marks m n).length cap) (marks m n).length ((marks m n).map Value.string) := by rw [e]; exact h
  exact ownSS h2 (marks_small m n hm)

set_option maxHeartbeats 800000 in
theorem heldLinesResult (c : Int) (a : Option Addr) (n cap m : Nat) (w : World) (h1 : 1 ≤ m) (h2 : m + n ≤ 4194304) (hs : SS w a (marks m n)) :
    Calls Tryd.prog 17 #[.agg #[.int .i64 c, .slice a n cap], .int .i64 m] w fun e w' => e = .returned (.int .i64 ((m + n : Nat) : Int)) ∧ Below w.heap.size w w' := by
  have hB : ∀ o, Below w.heap.size w (w.alloc o) := fun o => (Below.refl _ _).alloc (Nat.le_refl _) _
  have hpos : ¬ ((m + n : Nat) : Int) < 0 := by omega
  go_enter Tryd.func17, Tryd.ntmps17
  go_wp2_with fail
  refine (heldStringS _ _ _ _ _ h1 h2 (hs.below (hB _))).mono ?_; rintro e w1 ⟨rfl, hb1⟩
  go_wp2_with fail
  go_ret
  exact ⟨rfl, (hB _).trans (hb1.mono (by simp))⟩
end Go.Proofs.YtnififnogdekiabDoor
