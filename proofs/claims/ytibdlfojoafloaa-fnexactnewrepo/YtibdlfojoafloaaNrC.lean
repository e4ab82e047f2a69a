/- NewRepo of both sides; repositories without lists, compared, marked, held. No statement is proved here. -/
import Derived.Test.YtibdlfojoafloaaRows
import Derived.Test.YtibdlfojoafloaaLem
import Derived.Test.YtibdlfojoafloaaStrs
import Derived.Test.YtibdlfojoafloaaDTab
import Derived.Test.YtibdlfojoafloaaOwn
import Derived.Test.YtibdlfojoafloaaFr
import Derived.Test.YtibdlfojoafloaaHkT
import Derived.Test.YtibdlfojoafloaaIdL
import Derived.Test.YtibdlfojoafloaaNmC
import Derived.Test.YtibdlfojoafloaaShelf
import Derived.Test.YtibdlfojoafloaaWvC
import Derived.WalkKit
import Derived.ProofKit
import Derived.Below
set_option linter.unusedVariables false
namespace Go.Proofs.Ytibdlfojoafloaa.Nr
open Go.ChangeShapes Go.WideShapes Go.ChangeAt Go.RowKit
theorem zc {w w' : World} {g o : Nat} {v : Value} (b : Below w.heap.size w w') (h : w.cell? ⟨g, o, none⟩ = some v) : w'.cell? ⟨g, o, none⟩ = some v := (Fr.ofBelow (lo := 0) (hi := 0) b).cell h (.inr (Nat.zero_le _))
/-- A repository without lists. -/
def nilR (h : ByteArray) : Value := .agg #[.slice none 0 0, .slice none 0 0, .string h, .string ⟨#[]⟩, .slice none 0 0, .slice none 0 0, .slice none 0 0, .int .i64 0]
def cellsR (h : ByteArray) : List Value := [.slice none 0 0, .slice none 0 0, .string h, .string ⟨#[]⟩, .slice none 0 0, .slice none 0 0, .slice none 0 0, .int .i64 0]
def resR (c : Int) (h : ByteArray) : Value := .agg #[.int .i64 c, .string ⟨#[]⟩, .slice none 0 0, .slice none 0 0, .string h, .string ⟨#[]⟩, .slice none 0 0, .slice none 0 0, .slice none 0 0, .int .i64 0]
theorem eqObjectNil (w : World) : Calls Try.prog 71 #[.slice none 0 0, .slice none 0 0] w fun e w' => e = .returned (.bool true) ∧ w' = w := by
  go_enter Try.func71, Try.ntmps71
  go_wp2
  go_loop [5] (fun i => i = .int .i64 0) (fun _ => 0)
  case atStart => rfl
  case round =>
    subst hrel
    go_wp2
    go_ret
    exact ⟨rfl, rfl⟩
theorem markObjectNil (k : Int) (w : World) : Calls Try.prog 75 #[.slice none 0 0, .int .i64 k] w fun e w' => e = .returned (.int .i64 k) ∧ w' = w := by
  go_enter Try.func75, Try.ntmps75
  go_wp2
  go_loop [1, 5] (fun u i => u = .int .i64 k ∧ i = .int .i64 0) (fun _ _ => 0)
  case atStart => exact ⟨rfl, rfl⟩
  case round =>
    obtain ⟨rfl, rfl⟩ := hrel
    go_wp2
    go_ret
    exact ⟨rfl, rfl⟩
theorem heldObjectNil (k : Int) (w : World) : Calls Try.prog 79 #[.slice none 0 0, .int .i64 k] w fun e w' => e = .returned (.int .i64 k) ∧ w' = w := by
  go_enter Try.func79, Try.ntmps79
  go_wp2
  go_loop [1, 5] (fun u i => u = .int .i64 k ∧ i = .int .i64 0) (fun _ _ => 0)
  case atStart => exact ⟨rfl, rfl⟩
  case round =>
    obtain ⟨rfl, rfl⟩ := hrel
    go_wp2
    go_ret
    exact ⟨rfl, rfl⟩
theorem eqBranchNil (w : World) : Calls Try.prog 72 #[.slice none 0 0, .slice none 0 0] w fun e w' => e = .returned (.bool true) ∧ w' = w := by
  go_enter Try.func72, Try.ntmps72
  go_wp2
  go_loop [5] (fun i => i = .int .i64 0) (fun _ => 0)
  case atStart => rfl
  case round =>
    subst hrel
    go_wp2
    go_ret
    exact ⟨rfl, rfl⟩
theorem markBranchNil (k : Int) (w : World) : Calls Try.prog 76 #[.slice none 0 0, .int .i64 k] w fun e w' => e = .returned (.int .i64 k) ∧ w' = w := by
  go_enter Try.func76, Try.ntmps76
  go_wp2
  go_loop [1, 5] (fun u i => u = .int .i64 k ∧ i = .int .i64 0) (fun _ _ => 0)
  case atStart => exact ⟨rfl, rfl⟩
  case round =>
    obtain ⟨rfl, rfl⟩ := hrel
    go_wp2
    go_ret
    exact ⟨rfl, rfl⟩
theorem heldBranchNil (k : Int) (w : World) : Calls Try.prog 80 #[.slice none 0 0, .int .i64 k] w fun e w' => e = .returned (.int .i64 k) ∧ w' = w := by
  go_enter Try.func80, Try.ntmps80
  go_wp2
  go_loop [1, 5] (fun u i => u = .int .i64 k ∧ i = .int .i64 0) (fun _ _ => 0)
  case atStart => exact ⟨rfl, rfl⟩
  case round =>
    obtain ⟨rfl, rfl⟩ := hrel
    go_wp2
    go_ret
    exact ⟨rfl, rfl⟩
theorem eqEntryNil (w : World) : Calls Try.prog 73 #[.slice none 0 0, .slice none 0 0] w fun e w' => e = .returned (.bool true) ∧ w' = w := by
  go_enter Try.func73, Try.ntmps73
  go_wp2
  go_loop [5] (fun i => i = .int .i64 0) (fun _ => 0)
  case atStart => rfl
  case round =>
    subst hrel
    go_wp2
    go_ret
    exact ⟨rfl, rfl⟩
theorem markEntryNil (k : Int) (w : World) : Calls Try.prog 77 #[.slice none 0 0, .int .i64 k] w fun e w' => e = .returned (.int .i64 k) ∧ w' = w := by
  go_enter Try.func77, Try.ntmps77
  go_wp2
  go_loop [1, 5] (fun u i => u = .int .i64 k ∧ i = .int .i64 0) (fun _ _ => 0)
  case atStart => exact ⟨rfl, rfl⟩
  case round =>
    obtain ⟨rfl, rfl⟩ := hrel
    go_wp2
    go_ret
    exact ⟨rfl, rfl⟩
theorem heldEntryNil (k : Int) (w : World) : Calls Try.prog 81 #[.slice none 0 0, .int .i64 k] w fun e w' => e = .returned (.int .i64 k) ∧ w' = w := by
  go_enter Try.func81, Try.ntmps81
  go_wp2
  go_loop [1, 5] (fun u i => u = .int .i64 k ∧ i = .int .i64 0) (fun _ _ => 0)
  case atStart => exact ⟨rfl, rfl⟩
  case round =>
    obtain ⟨rfl, rfl⟩ := hrel
    go_wp2
    go_ret
    exact ⟨rfl, rfl⟩
theorem eqWorkNil (w : World) : Calls Try.prog 74 #[.slice none 0 0, .slice none 0 0] w fun e w' => e = .returned (.bool true) ∧ w' = w := by
  go_enter Try.func74, Try.ntmps74
  go_wp2
  go_loop [5] (fun i => i = .int .i64 0) (fun _ => 0)
  case atStart => rfl
  case round =>
    subst hrel
    go_wp2
    go_ret
    exact ⟨rfl, rfl⟩
theorem markWorkNil (k : Int) (w : World) : Calls Try.prog 78 #[.slice none 0 0, .int .i64 k] w fun e w' => e = .returned (.int .i64 k) ∧ w' = w := by
  go_enter Try.func78, Try.ntmps78
  go_wp2
  go_loop [1, 5] (fun u i => u = .int .i64 k ∧ i = .int .i64 0) (fun _ _ => 0)
  case atStart => exact ⟨rfl, rfl⟩
  case round =>
    obtain ⟨rfl, rfl⟩ := hrel
    go_wp2
    go_ret
    exact ⟨rfl, rfl⟩
theorem heldWorkNil (k : Int) (w : World) : Calls Try.prog 82 #[.slice none 0 0, .int .i64 k] w fun e w' => e = .returned (.int .i64 k) ∧ w' = w := by
  go_enter Try.func82, Try.ntmps82
  go_wp2
  go_loop [1, 5] (fun u i => u = .int .i64 k ∧ i = .int .i64 0) (fun _ _ => 0)
  case atStart => exact ⟨rfl, rfl⟩
  case round =>
    obtain ⟨rfl, rfl⟩ := hrel
    go_wp2
    go_ret
    exact ⟨rfl, rfl⟩
theorem eqRuleNil (w : World) : Calls Try.prog 17 #[.slice none 0 0, .slice none 0 0] w fun e w' => e = .returned (.bool true) ∧ w' = w := by
  go_enter Try.func17, Try.ntmps17
  go_wp2
  go_loop [5] (fun i => i = .int .i64 0) (fun _ => 0)
  case atStart => rfl
  case round =>
    subst hrel
    go_wp2
    go_ret
    exact ⟨rfl, rfl⟩
theorem markRuleNil (k : Int) (w : World) : Calls Try.prog 18 #[.slice none 0 0, .int .i64 k] w fun e w' => e = .returned (.int .i64 k) ∧ w' = w := by
  go_enter Try.func18, Try.ntmps18
  go_wp2
  go_loop [1, 5] (fun u i => u = .int .i64 k ∧ i = .int .i64 0) (fun _ _ => 0)
  case atStart => exact ⟨rfl, rfl⟩
  case round =>
    obtain ⟨rfl, rfl⟩ := hrel
    go_wp2
    go_ret
    exact ⟨rfl, rfl⟩
theorem heldRuleNil (k : Int) (w : World) : Calls Try.prog 48 #[.slice none 0 0, .int .i64 k] w fun e w' => e = .returned (.int .i64 k) ∧ w' = w := by
  go_enter Try.func48, Try.ntmps48
  go_wp2
  go_loop [1, 5] (fun u i => u = .int .i64 k ∧ i = .int .i64 0) (fun _ _ => 0)
  case atStart => exact ⟨rfl, rfl⟩
  case round =>
    obtain ⟨rfl, rfl⟩ := hrel
    go_wp2
    go_ret
    exact ⟨rfl, rfl⟩

/-- The cells of a box that was made of a repository, in a world where it lies. -/
theorem eight {W : World} {b : Nat} {h : ByteArray} (r : Rs W b (cellsR h)) : W.cell? ⟨b, 0, none⟩ = some (.slice none 0 0) ∧ W.cell? ⟨b, 1, none⟩ = some (.slice none 0 0) ∧ W.cell? ⟨b, 2, none⟩ = some (.string h) ∧ W.cell? ⟨b, 3, none⟩ = some (.string ⟨#[]⟩) ∧ W.cell? ⟨b, 4, none⟩ = some (.slice none 0 0) ∧ W.cell? ⟨b, 5, none⟩ = some (.slice none 0 0) ∧ W.cell? ⟨b, 6, none⟩ = some (.slice none 0 0) ∧ W.cell? ⟨b, 7, none⟩ = some (.int .i64 0) :=
  ⟨r 0 _ rfl, r 1 _ rfl, r 2 _ rfl, r 3 _ rfl, r 4 _ rfl, r 5 _ rfl, r 6 _ rfl, r 7 _ rfl⟩
set_option maxRecDepth 20000 in
set_option maxHeartbeats 4000000 in
theorem eqRepo (h : ByteArray) (w : World) : Calls Try.prog 53 #[nilR h, nilR h] w fun e w' => e = .returned (.bool true) ∧ Below w.heap.size w w' := by
  obtain ⟨W, hW⟩ : ∃ W, (w.alloc (.cells (cellsR h).toArray 51)).alloc (.cells (cellsR h).toArray 51) = W := ⟨_, rfl⟩
  have bW : Below w.heap.size w W := by rw [← hW]; exact ((Below.refl _ _).alloc (Nat.le_refl _) _).alloc (by simp) _
  have z0 : (w.alloc (.cells (cellsR h).toArray 51)).heap.size = w.heap.size + 1 := by simp
  have r1 : Rs W (w.heap.size + 1) (cellsR h) := by rw [← hW, ← z0]; exact Rs.new _ (cellsR h).toArray _
  have r0 : Rs W w.heap.size (cellsR h) := by rw [← hW]; exact fun j v hj => zc (allocBelow _ _) (Rs.new w (cellsR h).toArray _ j v hj)
  obtain ⟨a0, a1, a2, a3, a4, a5, a6, a7⟩ := eight r0
  obtain ⟨b0, b1, b2, b3, b4, b5, b6, b7⟩ := eight r1
  have hh : (h.toList != h.toList) = false := by simp
  clear r0 r1 z0
  unfold cellsR at hW
  unfold nilR
  go_enter Try.func53, Try.ntmps53
  go_wp2_with fail
  clear hW
  refine (eqObjectNil _).mono ?_; rintro e w1 ⟨rfl, rfl⟩
  go_wp2_with fail
  refine (eqBranchNil _).mono ?_; rintro e w1 ⟨rfl, rfl⟩
  go_wp2_with fail
  refine (eqEntryNil _).mono ?_; rintro e w1 ⟨rfl, rfl⟩
  go_wp2_with fail
  refine (eqWorkNil _).mono ?_; rintro e w1 ⟨rfl, rfl⟩
  go_wp2_with fail
  refine (eqRuleNil _).mono ?_; rintro e w1 ⟨rfl, rfl⟩
  go_wp2
  go_ret
  exact ⟨rfl, bW⟩
set_option maxRecDepth 20000 in
set_option maxHeartbeats 4000000 in
theorem markRepo (h : ByteArray) (k : Int) (hk : 0 ≤ k) (w : World) : Calls Try.prog 54 #[nilR h, .int .i64 k] w fun e w' => e = .returned (.int .i64 k) ∧ Below w.heap.size w w' := by
  obtain ⟨W, hW⟩ : ∃ W, w.alloc (.cells (cellsR h).toArray 51) = W := ⟨_, rfl⟩
  have bW : Below w.heap.size w W := by rw [← hW]; exact allocBelow _ _
  have r0 : Rs W w.heap.size (cellsR h) := by rw [← hW]; exact Rs.new w (cellsR h).toArray _
  obtain ⟨a0, a1, a2, a3, a4, a5, a6, a7⟩ := eight r0
  have hk0 : ¬ k < 0 := by omega
  clear r0
  unfold cellsR at hW
  unfold nilR
  go_enter Try.func54, Try.ntmps54
  go_wp2_with fail
  clear hW
  refine (markObjectNil _ _).mono ?_; rintro e w1 ⟨rfl, rfl⟩
  go_wp2_with fail
  refine (markBranchNil _ _).mono ?_; rintro e w1 ⟨rfl, rfl⟩
  go_wp2_with fail
  refine (markEntryNil _ _).mono ?_; rintro e w1 ⟨rfl, rfl⟩
  go_wp2_with fail
  refine (markWorkNil _ _).mono ?_; rintro e w1 ⟨rfl, rfl⟩
  go_wp2_with fail
  refine (markRuleNil _ _).mono ?_; rintro e w1 ⟨rfl, rfl⟩
  go_wp2
  go_ret
  exact ⟨rfl, bW⟩
set_option maxRecDepth 20000 in
set_option maxHeartbeats 4000000 in
theorem heldRepo (h : ByteArray) (k : Int) (hk : 0 ≤ k) (w : World) : Calls Try.prog 55 #[nilR h, .int .i64 k] w fun e w' => e = .returned (.int .i64 k) ∧ Below w.heap.size w w' := by
  obtain ⟨W, hW⟩ : ∃ W, w.alloc (.cells (cellsR h).toArray 51) = W := ⟨_, rfl⟩
  have bW : Below w.heap.size w W := by rw [← hW]; exact allocBelow _ _
  have r0 : Rs W w.heap.size (cellsR h) := by rw [← hW]; exact Rs.new w (cellsR h).toArray _
  obtain ⟨a0, a1, a2, a3, a4, a5, a6, a7⟩ := eight r0
  have hk0 : ¬ k < 0 := by omega
  clear r0
  unfold cellsR at hW
  unfold nilR
  go_enter Try.func55, Try.ntmps55
  go_wp2_with fail
  clear hW
  refine (heldObjectNil _ _).mono ?_; rintro e w1 ⟨rfl, rfl⟩
  go_wp2_with fail
  refine (heldBranchNil _ _).mono ?_; rintro e w1 ⟨rfl, rfl⟩
  go_wp2_with fail
  refine (heldEntryNil _ _).mono ?_; rintro e w1 ⟨rfl, rfl⟩
  go_wp2_with fail
  refine (heldWorkNil _ _).mono ?_; rintro e w1 ⟨rfl, rfl⟩
  go_wp2_with fail
  refine (heldRuleNil _ _).mono ?_; rintro e w1 ⟨rfl, rfl⟩
  go_wp2
  go_ret
  exact ⟨rfl, bW⟩

/-- The cells of an answer. -/
def cellsQ (c : Int) (h : ByteArray) : List Value := [.int .i64 c, .string ⟨#[]⟩, .slice none 0 0, .slice none 0 0, .string h, .string ⟨#[]⟩, .slice none 0 0, .slice none 0 0, .slice none 0 0, .int .i64 0]
theorem ten {W : World} {b : Nat} {c : Int} {h : ByteArray} (r : Rs W b (cellsQ c h)) : W.cell? ⟨b, 0, none⟩ = some (.int .i64 c) ∧ W.cell? ⟨b, 1, none⟩ = some (.string ⟨#[]⟩) ∧ W.cell? ⟨b, 2, none⟩ = some (.slice none 0 0) ∧ W.cell? ⟨b, 3, none⟩ = some (.slice none 0 0) ∧ W.cell? ⟨b, 4, none⟩ = some (.string h) ∧ W.cell? ⟨b, 5, none⟩ = some (.string ⟨#[]⟩) ∧ W.cell? ⟨b, 6, none⟩ = some (.slice none 0 0) ∧ W.cell? ⟨b, 7, none⟩ = some (.slice none 0 0) ∧ W.cell? ⟨b, 8, none⟩ = some (.slice none 0 0) ∧ W.cell? ⟨b, 9, none⟩ = some (.int .i64 0) :=
  ⟨r 0 _ rfl, r 1 _ rfl, r 2 _ rfl, r 3 _ rfl, r 4 _ rfl, r 5 _ rfl, r 6 _ rfl, r 7 _ rfl, r 8 _ rfl, r 9 _ rfl⟩
set_option maxRecDepth 20000 in
set_option maxHeartbeats 4000000 in
theorem eqRepoResult (c : Int) (h : ByteArray) (w : World) : Calls Try.prog 24 #[resR c h, resR c h] w fun e w' => e = .returned (.bool true) ∧ Below w.heap.size w w' := by
  obtain ⟨W, hW⟩ : ∃ W, (w.alloc (.cells (cellsQ c h).toArray 53)).alloc (.cells (cellsQ c h).toArray 53) = W := ⟨_, rfl⟩
  have bW : Below w.heap.size w W := by rw [← hW]; exact ((Below.refl _ _).alloc (Nat.le_refl _) _).alloc (by simp) _
  have z0 : (w.alloc (.cells (cellsQ c h).toArray 53)).heap.size = w.heap.size + 1 := by simp
  have r1 : Rs W (w.heap.size + 1) (cellsQ c h) := by rw [← hW, ← z0]; exact Rs.new _ (cellsQ c h).toArray _
  have r0 : Rs W w.heap.size (cellsQ c h) := by rw [← hW]; exact fun j v hj => zc (allocBelow _ _) (Rs.new w (cellsQ c h).toArray _ j v hj)
  obtain ⟨a0, a1, a2, a3, a4, a5, a6, a7, a8, a9⟩ := ten r0
  obtain ⟨b0, b1, b2, b3, b4, b5, b6, b7, b8, b9⟩ := ten r1
  have hc : (c != c) = false := by simp
  have hE := fun W => eqRepo h W
  clear r0 r1 z0
  unfold cellsQ at hW
  unfold resR
  unfold nilR at hE
  go_enter Try.func24, Try.ntmps24
  go_wp2_with fail
  clear hW
  refine (hE _).mono ?_; rintro e w1 ⟨rfl, b1⟩
  have B1 := bW.trans (b1.mono bW.size)
  clear bW b1
  go_wp2
  go_ret
  exact ⟨rfl, B1⟩
set_option maxRecDepth 20000 in
set_option maxHeartbeats 4000000 in
theorem markRepoResult (c : Int) (h : ByteArray) (k : Int) (hk : 0 ≤ k) (w : World) : Calls Try.prog 25 #[resR c h, .int .i64 k] w fun e w' => e = .returned (.int .i64 k) ∧ Below w.heap.size w w' := by
  obtain ⟨W, hW⟩ : ∃ W, w.alloc (.cells (cellsQ c h).toArray 53) = W := ⟨_, rfl⟩
  have bW : Below w.heap.size w W := by rw [← hW]; exact allocBelow _ _
  have r0 : Rs W w.heap.size (cellsQ c h) := by rw [← hW]; exact Rs.new w (cellsQ c h).toArray _
  obtain ⟨a0, a1, a2, a3, a4, a5, a6, a7, a8, a9⟩ := ten r0
  have hk0 : ¬ k < 0 := by omega
  have hE := fun W => markRepo h k hk W
  clear r0
  unfold cellsQ at hW
  unfold resR
  unfold nilR at hE
  go_enter Try.func25, Try.ntmps25
  go_wp2_with fail
  clear hW
  refine (hE _).mono ?_; rintro e w1 ⟨rfl, b1⟩
  have B1 := bW.trans (b1.mono bW.size)
  clear bW b1
  go_wp2
  go_ret
  exact ⟨rfl, B1⟩
set_option maxRecDepth 20000 in
set_option maxHeartbeats 4000000 in
theorem heldRepoResult (c : Int) (h : ByteArray) (k : Int) (hk : 0 ≤ k) (w : World) : Calls Try.prog 26 #[resR c h, .int .i64 k] w fun e w' => e = .returned (.int .i64 k) ∧ Below w.heap.size w w' := by
  obtain ⟨W, hW⟩ : ∃ W, w.alloc (.cells (cellsQ c h).toArray 53) = W := ⟨_, rfl⟩
  have bW : Below w.heap.size w W := by rw [← hW]; exact allocBelow _ _
  have r0 : Rs W w.heap.size (cellsQ c h) := by rw [← hW]; exact Rs.new w (cellsQ c h).toArray _
  obtain ⟨a0, a1, a2, a3, a4, a5, a6, a7, a8, a9⟩ := ten r0
  have hk0 : ¬ k < 0 := by omega
  have hE := fun W => heldRepo h k hk W
  clear r0
  unfold cellsQ at hW
  unfold resR
  unfold nilR at hE
  go_enter Try.func26, Try.ntmps26
  go_wp2_with fail
  clear hW
  refine (hE _).mono ?_; rintro e w1 ⟨rfl, b1⟩
  have B1 := bW.trans (b1.mono bW.size)
  clear bW b1
  go_wp2
  go_ret
  exact ⟨rfl, B1⟩

end Go.Proofs.Ytibdlfojoafloaa.Nr
