/- The contract of spec.SplitLines, and those of the laws' helpers over LinesResult. No statement is proved here. -/
import Derived.Test.YthgoimdlhgdnoafRows
import Derived.Test.YthgoimdlhgdnoafLem
import Derived.Test.YthgoimdlhgdnoafStrs
import Derived.Test.YthgoimdlhgdnoafMarks
import Derived.Test.YthgoimdlhgdnoafHeld
import Derived.Test.YthgoimdlhgdnoafTF
import Derived.Test.YthgoimdlhgdnoafSpl
import Derived.Test.YthgoimdlhgdnoafSplI
import Derived.WalkKit
import Derived.ProofKit
import Derived.Below
import Derived.WalkSpells
namespace Go.Proofs.Ythgoimdlhgdnoaf
open Go.ChangeShapes Go.WideShapes Go.ChangeAt Go.RowKit

set_option maxHeartbeats 800000 in
theorem specSplitLines (s : ByteArray) (w : World) (hs : s.size ≤ 1048576) :
    Calls Try.prog 8 #[.string s] w fun e w' => ∃ a cap, e = .returned (.agg #[.int .i64 (tf s), .slice a (splitL s).length cap]) ∧ SS w' a (splitL s) ∧ Below w.heap.size w w' := by
  have hT := fun w => specTextFault s w hs
  have hsm := lines_small s hs
  by_cases h0 : tf s = 0
  · have hJ := splitL_ok h0
    rw [hJ, h0]
    rw [h0] at hT
    go_enter Try.func8, Try.ntmps8
    go_wp2_with fail
    refine (hT _).mono ?_; rintro e w1 ⟨rfl, hb1⟩
    have S1 := hb1.size
    simp only [World.size_alloc] at S1
    go_wp2_with fail
    refine (l1Split s _ hs).mono ?_; rintro e w2 ⟨v, rfl, hown, hb2⟩
    obtain ⟨a, cap, rfl, hSS, _⟩ := SS_of_row hown rfl hsm
    have hb3 := hb1.trans (hb2.mono hb1.size)
    have f0 : w2.frozen? ⟨w.heap.size, 0, none⟩ = false := (hb3.frozen (p := ⟨w.heap.size, 0, none⟩) (by simp)).trans (by simp)
    have f1 : w2.frozen? ⟨w.heap.size, 1, none⟩ = false := (hb3.frozen (p := ⟨w.heap.size, 1, none⟩) (by simp)).trans (by simp)
    have c0 : w2.cell? ⟨w.heap.size, 0, none⟩ = some (.int .i64 0) := (hb3.cell (p := ⟨w.heap.size, 0, none⟩) (by simp)).trans (by simp)
    have c1 : w2.cell? ⟨w.heap.size, 1, none⟩ = some (.slice none 0 0) := (hb3.cell (p := ⟨w.heap.size, 1, none⟩) (by simp)).trans (by simp)
    have hbw : Below w.heap.size w w2 := ((Below.refl _ _).alloc (Nat.le_refl _) _).trans (hb3.mono (by simp))
    have hown2 : ((w2.setCell ⟨w.heap.size, 0, none⟩ (.int .i64 0)).setCell ⟨w.heap.size, 1, none⟩ (.slice a (linesOf s).length cap)).ownsRow w1.heap.size 9 1 (.slice a (linesOf s).length cap) (linesOf s).length ((linesOf s).map Value.string) :=
      ownsRow_setCell_below (ownsRow_setCell_below hown (a := ⟨w.heap.size, 0, none⟩) (by show w.heap.size < _; omega) _) (a := ⟨w.heap.size, 1, none⟩) (by show w.heap.size < _; omega) _
    obtain ⟨a', cap', he, hSS2, _⟩ := SS_of_row hown2 rfl hsm
    simp only [Value.slice.injEq, true_and] at he
    obtain ⟨rfl, rfl⟩ := he
    clear hb1 hb2 hb3 hown hown2 hSS
    go_wp2
    refine bodyPost_ret (v := .agg #[.int .i64 0, .slice a (linesOf s).length cap]) ?_ rfl ⟨a, cap, rfl, hSS2, ?_⟩
    · simp [results, Try.results8, go_sem, c0, c1]
    · exact (hbw.setCell (p := ⟨w.heap.size, 0, none⟩) (Nat.le_refl _) _).setCell (p := ⟨w.heap.size, 1, none⟩) (Nat.le_refl _) _
  · have hJ := splitL_no h0
    rw [hJ]
    have hne : (tf s != 0) = true := by simpa using h0
    obtain ⟨r, hr⟩ : ∃ r, tf s = r := ⟨_, rfl⟩
    rw [hr] at hne hT ⊢
    clear hr h0 hJ
    go_enter Try.func8, Try.ntmps8
    go_wp2_with fail
    refine (hT _).mono ?_; rintro e w1 ⟨rfl, hb1⟩
    have f0 : w1.frozen? ⟨w.heap.size, 0, none⟩ = false := (hb1.frozen (p := ⟨w.heap.size, 0, none⟩) (by simp)).trans (by simp)
    have f1 : w1.frozen? ⟨w.heap.size, 1, none⟩ = false := (hb1.frozen (p := ⟨w.heap.size, 1, none⟩) (by simp)).trans (by simp)
    have c0 : w1.cell? ⟨w.heap.size, 0, none⟩ = some (.int .i64 0) := (hb1.cell (p := ⟨w.heap.size, 0, none⟩) (by simp)).trans (by simp)
    have c1 : w1.cell? ⟨w.heap.size, 1, none⟩ = some (.slice none 0 0) := (hb1.cell (p := ⟨w.heap.size, 1, none⟩) (by simp)).trans (by simp)
    have hbw : Below w.heap.size w w1 := ((Below.refl _ _).alloc (Nat.le_refl _) _).trans (hb1.mono (by simp))
    clear hb1
    go_wp2
    refine bodyPost_ret (v := .agg #[.int .i64 r, .slice none 0 0]) ?_ rfl ⟨none, 0, rfl, ⟨fun k hk => absurd hk (Nat.not_lt_zero _), fun k hk => absurd hk (Nat.not_lt_zero _)⟩, ?_⟩
    · simp [results, Try.results8, go_sem, c0, c1]
    · exact (hbw.setCell (p := ⟨w.heap.size, 0, none⟩) (Nat.le_refl _) _).setCell (p := ⟨w.heap.size, 1, none⟩) (Nat.le_refl _) _

set_option maxHeartbeats 800000 in
theorem eqLinesResult (c : Int) (a1 a2 : Option Addr) (k1 k2 : Nat) (ss : List ByteArray) (w : World) (h1 : SS w a1 ss) (h2 : SS w a2 ss) (hn : ss.length ≤ 1048576) :
    Calls Try.prog 10 #[.agg #[.int .i64 c, .slice a1 ss.length k1], .agg #[.int .i64 c, .slice a2 ss.length k2]] w fun e w' => e = .returned (.bool true) ∧ Below w.heap.size w w' := by
  go_enter Try.func10, Try.ntmps10
  go_wp2_with fail
  have hB : Below w.heap.size w ((w.alloc (.cells #[.int .i64 c, .slice a1 ss.length k1] 26)).alloc (.cells #[.int .i64 c, .slice a2 ss.length k2] 26)) := ((Below.refl _ _).alloc (Nat.le_refl _) _).alloc (by simp) _
  refine (eqStringS _ _ _ _ _ _ _ (h1.below hB) (h2.below hB) hn hn).mono ?_; rintro e w1 ⟨rfl, n1, rfl⟩
  rw [eqB_self]
  go_wp2_with fail
  go_ret
  exact ⟨rfl, below_drewN' hB n1⟩

set_option maxHeartbeats 800000 in
theorem markLinesResult (base : Nat) (c : Int) (a : Option Addr) (n cap m : Nat) (xs : List Value) (w : World) (h1 : 1 ≤ m) (h2 : m + n ≤ 4194304)
    (ho : w.ownsRow base 9 1 (.slice a n cap) n xs) :
    Calls Try.prog 11 #[.agg #[.int .i64 c, .slice a n cap], .int .i64 m] w fun e w' => e = .returned (.int .i64 ((m + n : Nat) : Int)) ∧
      w'.ownsRow base 9 1 (.slice a n cap) n ((marks m n).map Value.string) ∧ w.grownBy w' (Value.slice a n cap).ownBlock := by
  go_enter Try.func11, Try.ntmps11
  go_wp2_with fail
  refine (markStringS base _ _ _ _ _ _ h1 h2 (ho.alloc _)).mono ?_; rintro e w1 ⟨rfl, ho1, hg1⟩
  go_wp2_with fail
  go_ret
  exact ⟨rfl, ho1, grown_trans (World.grownBy_alloc _ _ _) hg1⟩

set_option maxHeartbeats 800000 in
theorem heldLinesResult (c : Int) (a : Option Addr) (n cap m : Nat) (w : World) (h1 : 1 ≤ m) (h2 : m + n ≤ 4194304) (hs : SS w a (marks m n)) :
    Calls Try.prog 12 #[.agg #[.int .i64 c, .slice a n cap], .int .i64 m] w fun e w' => e = .returned (.int .i64 ((m + n : Nat) : Int)) ∧ Below w.heap.size w w' := by
  have hB : ∀ o, Below w.heap.size w (w.alloc o) := fun o => (Below.refl _ _).alloc (Nat.le_refl _) _
  have hpos : ¬ ((m + n : Nat) : Int) < 0 := by omega
  go_enter Try.func12, Try.ntmps12
  go_wp2_with fail
  refine (heldStringS _ _ _ _ _ h1 h2 (hs.below (hB _))).mono ?_; rintro e w1 ⟨rfl, hb1⟩
  go_wp2_with fail
  go_ret
  exact ⟨rfl, (hB _).trans (hb1.mono (by simp))⟩
end Go.Proofs.Ythgoimdlhgdnoaf
