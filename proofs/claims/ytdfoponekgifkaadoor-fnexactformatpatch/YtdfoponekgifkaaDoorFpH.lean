/- The contract of spec.l3Head: a hunk's first line. No statement is proved here. -/
import Derived.Test.YtdfoponekgifkaaDoorRows
import Derived.Test.YtdfoponekgifkaaDoorLem
import Derived.Test.YtdfoponekgifkaaDoorStrs
import Derived.Test.YtdfoponekgifkaaDoorDTab
import Derived.Test.YtdfoponekgifkaaDoorOwn
import Derived.Test.YtdfoponekgifkaaDoorFr
import Derived.Test.YtdfoponekgifkaaDoorFpS
import Derived.WalkKit
import Derived.ProofKit
import Derived.Below
import Derived.WalkSpells
import Derived.Deep.RegionLaw
import Derived.Laws.Concat
namespace Go.Proofs.YtdfoponekgifkaaDoor
open Go.ChangeShapes Go.WideShapes Go.ChangeAt Go.RowKit

/-- The first line of a hunk. -/
def headB (x0 a x1 b : Nat) : ByteArray := (((((((⟨#[64, 64, 32, 45]⟩ : ByteArray) ++ decB x0) ++ ⟨#[44]⟩) ++ decB a) ++ ⟨#[32, 43]⟩) ++ decB x1) ++ ⟨#[44]⟩) ++ decB b ++ ⟨#[32, 64, 64, 10]⟩

set_option maxRecDepth 20000 in
set_option maxHeartbeats 2000000 in
theorem l3Head (x0 x1 a b : Nat) (v : Value) (w : World) (h0 : x0 ≤ 1000) (h1 : x1 ≤ 1000) (ha : a ≤ 1000) (hb : b ≤ 1000) :
    Calls Tryd.prog 32 #[.agg #[.int .i64 (x0 : Int), .int .i64 (x1 : Int), v], .int .i64 (a : Int), .int .i64 (b : Int)] w fun e w' => e = .returned (.string (headB x0 a x1 b)) ∧ Below w.heap.size w w' := by
  have hd : ∀ n : Nat, n ≤ 1000 → ∀ w : World, Calls Tryd.prog 54 #[.int .i64 (n : Int)] w fun e w' => e = .returned (.string (decB n)) ∧ Below w.heap.size w w' := fun n hn w => l3Digits n n (Nat.le_refl _) (by omega) w
  have s0 := decB_size x0 x0 (Nat.le_refl _)
  have s1 := decB_size x1 x1 (Nat.le_refl _)
  have sa := decB_size a a (Nat.le_refl _)
  have sb := decB_size b b (Nat.le_refl _)
  unfold headB
  obtain ⟨E0, hE0⟩ : ∃ E, decB x0 = E := ⟨_, rfl⟩
  rw [hE0] at s0 ⊢
  obtain ⟨EA, hEA⟩ : ∃ E, decB a = E := ⟨_, rfl⟩
  rw [hEA] at sa ⊢
  obtain ⟨E1, hE1⟩ : ∃ E, decB x1 = E := ⟨_, rfl⟩
  rw [hE1] at s1 ⊢
  obtain ⟨EB, hEB⟩ : ∃ E, decB b = E := ⟨_, rfl⟩
  rw [hEB] at sb ⊢
  have kP1 : ¬ 9223372036854775807 < 4 + E0.size := by omega
  obtain ⟨P1, hP1⟩ : ∃ P, (⟨#[64, 64, 32, 45]⟩ : ByteArray) ++ E0 = P := ⟨_, rfl⟩
  have zP1 : P1.size ≤ 4 + E0.size := by rw [← hP1, ByteArray.size_append]; exact Nat.le_refl _
  rw [hP1]
  have kP2 : ¬ 9223372036854775807 < P1.size + 1 := by omega
  obtain ⟨P2, hP2⟩ : ∃ P, P1 ++ ⟨#[44]⟩ = P := ⟨_, rfl⟩
  have zP2 : P2.size ≤ P1.size + 1 := by rw [← hP2, ByteArray.size_append]; exact Nat.le_refl _
  rw [hP2]
  have kP3 : ¬ 9223372036854775807 < P2.size + EA.size := by omega
  obtain ⟨P3, hP3⟩ : ∃ P, P2 ++ EA = P := ⟨_, rfl⟩
  have zP3 : P3.size ≤ P2.size + EA.size := by rw [← hP3, ByteArray.size_append]; exact Nat.le_refl _
  rw [hP3]
  have kP4 : ¬ 9223372036854775807 < P3.size + 2 := by omega
  obtain ⟨P4, hP4⟩ : ∃ P, P3 ++ ⟨#[32, 43]⟩ = P := ⟨_, rfl⟩
  have zP4 : P4.size ≤ P3.size + 2 := by rw [← hP4, ByteArray.size_append]; exact Nat.le_refl _
  rw [hP4]
  have kP5 : ¬ 9223372036854775807 < P4.size + E1.size := by omega
  obtain ⟨P5, hP5⟩ : ∃ P, P4 ++ E1 = P := ⟨_, rfl⟩
  have zP5 : P5.size ≤ P4.size + E1.size := by rw [← hP5, ByteArray.size_append]; exact Nat.le_refl _
  rw [hP5]
  have kP6 : ¬ 9223372036854775807 < P5.size + 1 := by omega
  obtain ⟨P6, hP6⟩ : ∃ P, P5 ++ ⟨#[44]⟩ = P := ⟨_, rfl⟩
  have zP6 : P6.size ≤ P5.size + 1 := by rw [← hP6, ByteArray.size_append]; exact Nat.le_refl _
  rw [hP6]
  have kP7 : ¬ 9223372036854775807 < P6.size + EB.size := by omega
  obtain ⟨P7, hP7⟩ : ∃ P, P6 ++ EB = P := ⟨_, rfl⟩
  have zP7 : P7.size ≤ P6.size + EB.size := by rw [← hP7, ByteArray.size_append]; exact Nat.le_refl _
  rw [hP7]
  have kP8 : ¬ 9223372036854775807 < P7.size + 4 := by omega
  obtain ⟨P8, hP8⟩ : ∃ P, P7 ++ ⟨#[32, 64, 64, 10]⟩ = P := ⟨_, rfl⟩
  have zP8 : P8.size ≤ P7.size + 4 := by rw [← hP8, ByteArray.size_append]; exact Nat.le_refl _
  rw [hP8]
  have kc1 : ((w.alloc (.cells #[.int .i64 (x0 : Int), .int .i64 (x1 : Int), v] 44)).drew).cell? ⟨w.heap.size, 1, none⟩ = some (.int .i64 (x1 : Int)) := by show (w.alloc _).cell? _ = _; simp
  have klt : w.heap.size < ((w.alloc (.cells #[.int .i64 (x0 : Int), .int .i64 (x1 : Int), v] 44)).drew).heap.size := by show _ < (w.alloc _).heap.size; simp
  have kB : Below w.heap.size w ((w.alloc (.cells #[.int .i64 (x0 : Int), .int .i64 (x1 : Int), v] 44)).drew) := below_drew (allocBelow _ _)
  go_enter Tryd.func32, Tryd.ntmps32
  go_wp2
  go_region_with (go_at_call 54; refine (hd _ (by assumption) _).mono ?_; rintro e wn ⟨rfl, bn⟩; have kc1 := (bn.cell (p := ⟨w.heap.size, 1, none⟩) klt).trans kc1; have kB := below_step kB (Nat.le_of_lt klt) bn; have klt := Nat.lt_of_lt_of_le klt bn.size; clear bn)
  all_goals (go_wp2_with fail)
  all_goals go_ret
  all_goals exact ⟨rfl, kB⟩
end Go.Proofs.YtdfoponekgifkaaDoor
