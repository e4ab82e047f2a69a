/- The contracts of the laws' helpers over CommitResult. No statement is proved here. -/
import Derived.Test.YtgidcncmicmggamGreatDoorRows
import Derived.Test.YtgidcncmicmggamGreatDoorLem
import Derived.Test.YtgidcncmicmggamGreatDoorStrs
import Derived.Test.YtgidcncmicmggamGreatDoorMarks
import Derived.Test.YtgidcncmicmggamGreatDoorHeld
import Derived.Test.YtgidcncmicmggamGreatDoorDTab
import Derived.Test.YtgidcncmicmggamGreatDoorOwn
import Derived.Test.YtgidcncmicmggamGreatDoorFr
import Derived.Test.YtgidcncmicmggamGreatDoorHkT
import Derived.Test.YtgidcncmicmggamGreatDoorCmO
import Derived.WalkKit
import Derived.ProofKit
import Derived.Below
import Derived.WalkSpells
namespace Go.Proofs.YtgidcncmicmggamGreatDoor.Dc
open Go.ChangeShapes Go.WideShapes Go.ChangeAt Go.RowKit

set_option maxRecDepth 20000 in
set_option maxHeartbeats 1000000 in
theorem eqCommitResult (r tm : Int) (t no : ByteArray) (a1 a2 : Option Addr) (k1 k2 : Nat) (ss : List ByteArray) (w : World) (h1 : SS w a1 ss) (h2 : SS w a2 ss) (hn : ss.length ≤ 1048576) :
    Calls Tryz.prog 8 #[.agg #[.int .i64 r, .string t, .slice a1 ss.length k1, .int .i64 tm, .string no], .agg #[.int .i64 r, .string t, .slice a2 ss.length k2, .int .i64 tm, .string no]] w fun e w' => e = .returned (.bool true) ∧ Below w.heap.size w w' := by
  have hE := fun W h h' => eqCommit t no tm a1 a2 k1 k2 ss W h h' hn
  go_enter Tryz.func8, Tryz.ntmps8
  go_wp2_with fail
  have hB : Below w.heap.size w ((w.alloc (.cells #[.int .i64 r, .string t, .slice a1 ss.length k1, .int .i64 tm, .string no] 26)).alloc (.cells #[.int .i64 r, .string t, .slice a2 ss.length k2, .int .i64 tm, .string no] 26)) := ((Below.refl _ _).alloc (Nat.le_refl _) _).alloc (by simp) _
  refine (hE _ (h1.below hB) (h2.below hB)).mono ?_; rintro e w1 ⟨rfl, b1⟩
  have HB : Hid (Below w.heap.size w w1) := hB.trans (b1.mono (by simp; omega))
  clear b1 hB hE
  go_wp2_with fail
  go_ret
  exact ⟨rfl, HB.out⟩
set_option maxRecDepth 20000 in
set_option maxHeartbeats 1000000 in
theorem markCommitResult (lo hi : Nat) (r tm : Int) (t no : ByteArray) (a : Option Addr) (n cap m : Nat) (xs : List Value) (w : World) (h1 : 1 ≤ m) (h2 : m + n ≤ 4194304)
    (ho : w.ownsRow lo 9 1 (.slice a n cap) n xs) (b1 : ∀ j, (Value.slice a n cap).ownBlock = some j → j < hi) :
    Calls Tryz.prog 9 #[.agg #[.int .i64 r, .string t, .slice a n cap, .int .i64 tm, .string no], .int .i64 m] w fun e w' => e = .returned (.int .i64 ((m + n : Nat) : Int)) ∧
      w'.ownsRow lo 9 1 (.slice a n cap) n ((marks m n).map Value.string) ∧ Fr lo hi w w' := by
  have hM : ∀ W, W.ownsRow lo 9 1 (.slice a n cap) n xs → Calls Tryz.prog 33 #[.agg #[.string t, .slice a n cap, .int .i64 tm, .string no], .int .i64 m] W fun e w' => e = .returned (.int .i64 ((m + n : Nat) : Int)) ∧
      w'.ownsRow lo 9 1 (.slice a n cap) n ((marks m n).map Value.string) ∧ Fr lo hi W w' := fun W hW => by
    go_enter Tryz.func33, Tryz.ntmps33
    go_wp2_with fail
    refine (markStringS lo _ _ _ _ _ _ h1 h2 (hW.alloc _)).mono ?_; rintro e w1 ⟨rfl, ho1, hg1⟩
    have hF1 : Fr lo hi W w1 := (Fr.ofAlloc _ _).trans (Fr.ofGrown hg1 (fun j hj => ⟨(hW.lt j hj).1, b1 j hj⟩))
    clear hg1
    go_wp2_with fail
    go_ret
    exact ⟨rfl, ho1, hF1⟩
  go_enter Tryz.func9, Tryz.ntmps9
  go_wp2_with fail
  refine (hM _ (ho.alloc _)).mono ?_; rintro e w1 ⟨rfl, ho1, hF⟩
  have hF1 : Fr lo hi w w1 := (Fr.ofAlloc _ _).trans hF
  clear hF hM
  go_wp2_with fail
  go_ret
  exact ⟨rfl, ho1, hF1⟩
theorem ssMarks {w : World} {base n cap m : Nat} {a : Option Addr} (h : w.ownsRow base 9 1 (.slice a n cap) n ((marks m n).map Value.string)) (hm : m + n ≤ 4194304) : SS w a (marks m n) := by
  have e := marks_length m n
  have h2 : w.ownsRow base 9 1 (.slice a (marks m n).length cap) (marks m n).length ((marks m n).map Value.string) := by rw [e]; exact h
  exact ownSS h2 (marks_small m n hm)
set_option maxRecDepth 20000 in
set_option maxHeartbeats 1000000 in
theorem heldCommitResult (r tm : Int) (t no : ByteArray) (a : Option Addr) (n cap m : Nat) (w : World) (h1 : 1 ≤ m) (h2 : m + n ≤ 4194304) (hs : SS w a (marks m n)) :
    Calls Tryz.prog 10 #[.agg #[.int .i64 r, .string t, .slice a n cap, .int .i64 tm, .string no], .int .i64 m] w fun e w' => e = .returned (.int .i64 ((m + n : Nat) : Int)) ∧ Below w.heap.size w w' := by
  have hB : ∀ (w : World) o, Below w.heap.size w (w.alloc o) := fun w o => (Below.refl _ _).alloc (Nat.le_refl _) _
  have hpos : ¬ ((m + n : Nat) : Int) < 0 := by omega
  have hH : ∀ W, SS W a (marks m n) → Calls Tryz.prog 34 #[.agg #[.string t, .slice a n cap, .int .i64 tm, .string no], .int .i64 m] W fun e w' => e = .returned (.int .i64 ((m + n : Nat) : Int)) ∧ Below W.heap.size W w' := fun W hW => by
    go_enter Tryz.func34, Tryz.ntmps34
    go_wp2_with fail
    refine (heldStringS _ _ _ _ _ h1 h2 (hW.below (hB _ _))).mono ?_; rintro e w1 ⟨rfl, hb1⟩
    go_wp2_with fail
    go_ret
    exact ⟨rfl, (hB _ _).trans (hb1.mono (by simp))⟩
  go_enter Tryz.func10, Tryz.ntmps10
  go_wp2_with fail
  refine (hH _ (hs.below (hB _ _))).mono ?_; rintro e w1 ⟨rfl, hb1⟩
  go_wp2_with fail
  go_ret
  exact ⟨rfl, (hB _ _).trans (hb1.mono (by simp))⟩
end Go.Proofs.YtgidcncmicmggamGreatDoor.Dc
