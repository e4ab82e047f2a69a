/- NewRepo of both sides; the answer. No statement is proved here. -/
import Derived.Test.YtibdlfojoafloaaRows
import Derived.Test.YtibdlfojoafloaaLem
import Derived.Test.YtibdlfojoafloaaStrs
import Derived.Test.YtibdlfojoafloaaDTab
import Derived.Test.YtibdlfojoafloaaOwn
import Derived.Test.YtibdlfojoafloaaFr
import Derived.Test.YtibdlfojoafloaaHkT
import Derived.Test.YtibdlfojoafloaaIdL
import Derived.Test.YtibdlfojoafloaaNmC
import Derived.Test.YtibdlfojoafloaaShelf
import Derived.Test.YtibdlfojoafloaaWvC
import Derived.Test.YtibdlfojoafloaaNrC
import Derived.WalkKit
import Derived.ProofKit
import Derived.Below
set_option linter.unusedVariables false
namespace Go.Proofs.Ytibdlfojoafloaa.Nr
open Go.ChangeShapes Go.WideShapes Go.ChangeAt Go.RowKit

theorem loadR {W : World} {b : Nat} {c : Int} {h : ByteArray} (RF : Rf W b (cellsQ c h)) : (loadVar 53 ⟨b, 0, none⟩).run Try.prog W = .ok (resR c h) W := by
  have hl : (loadCells ⟨b, 0, none⟩ 10).run Try.prog W = .ok (cellsQ c h).toArray W := run_loadCells_list (P := Try.prog) W ⟨b, 0, none⟩ (cellsQ c h) (fun j v hj => by rw [add_plain, Nat.zero_add]; exact RF.at_ j v hj)
  have ha : ∀ W, (isAgg 53).run Try.prog W = .ok true W := fun W => by kernel_rfl
  have hz : ∀ W, (sizeOf 53).run Try.prog W = .ok 10 W := fun W => by kernel_rfl
  simp [loadVar, ha, hz, hl]
  rfl
def nrH (s : ByteArray) : ByteArray := if nf s = 0 then s else ⟨#[]⟩
set_option maxRecDepth 20000 in
set_option maxHeartbeats 4000000 in
theorem l14Bad (r : Int) (w : World) : Calls Try.prog 50 #[.int .i64 r] w fun e w' => e = .returned (resR r ⟨#[]⟩) ∧ Below w.heap.size w w' := by
  obtain ⟨b, hb⟩ : ∃ b, w.heap.size = b := ⟨_, rfl⟩
  obtain ⟨W1, hW1⟩ : ∃ W, w.alloc (.cells (cellsQ 0 ⟨#[]⟩).toArray 53) = W := ⟨_, rfl⟩
  have b1 : Below b w W1 := by rw [← hW1, ← hb]; exact allocBelow _ _
  have r1 : Rf W1 b (cellsQ 0 ⟨#[]⟩) := by rw [← hW1, ← hb]; exact Rf.new w (cellsQ 0 ⟨#[]⟩).toArray _
  have z1 : W1.heap.size = b + 1 := by rw [← hW1, ← hb]; simp
  unfold cellsQ at hW1
  · go_enter Try.func50, Try.ntmps50
    have d0 := r1.at_ 0 _ rfl
    have f0 := r1.fz 0
    have d1 := r1.at_ 1 _ rfl
    have f1 := r1.fz 1
    have d2 := r1.at_ 2 _ rfl
    have f2 := r1.fz 2
    have d3 := r1.at_ 3 _ rfl
    have f3 := r1.fz 3
    have d4 := r1.at_ 4 _ rfl
    have f4 := r1.fz 4
    have d5 := r1.at_ 5 _ rfl
    have f5 := r1.fz 5
    have d6 := r1.at_ 6 _ rfl
    have f6 := r1.fz 6
    have d7 := r1.at_ 7 _ rfl
    have f7 := r1.fz 7
    have d8 := r1.at_ 8 _ rfl
    have f8 := r1.fz 8
    have d9 := r1.at_ 9 _ rfl
    have f9 := r1.fz 9
    go_wp2
    have RF : Rf ((((((((((W1.setCell ⟨b, 0, none⟩ (.int .i64 r)).setCell ⟨b, 1, none⟩ (.string ⟨#[]⟩)).setCell ⟨b, 2, none⟩ (.slice none 0 0)).setCell ⟨b, 3, none⟩ (.slice none 0 0)).setCell ⟨b, 4, none⟩ (.string ⟨#[]⟩)).setCell ⟨b, 5, none⟩ (.string ⟨#[]⟩)).setCell ⟨b, 6, none⟩ (.slice none 0 0)).setCell ⟨b, 7, none⟩ (.slice none 0 0)).setCell ⟨b, 8, none⟩ (.slice none 0 0)).setCell ⟨b, 9, none⟩ (.int .i64 0)) b (cellsQ r ⟨#[]⟩) := ((((((((((r1.set (o := 0) (by simp [cellsQ]) (.int .i64 r)).set (o := 1) (by simp [cellsQ]) (.string ⟨#[]⟩)).set (o := 2) (by simp [cellsQ]) (.slice none 0 0)).set (o := 3) (by simp [cellsQ]) (.slice none 0 0)).set (o := 4) (by simp [cellsQ]) (.string ⟨#[]⟩)).set (o := 5) (by simp [cellsQ]) (.string ⟨#[]⟩)).set (o := 6) (by simp [cellsQ]) (.slice none 0 0)).set (o := 7) (by simp [cellsQ]) (.slice none 0 0)).set (o := 8) (by simp [cellsQ]) (.slice none 0 0)).set (o := 9) (by simp [cellsQ]) (.int .i64 0))
    have BF : Below b w ((((((((((W1.setCell ⟨b, 0, none⟩ (.int .i64 r)).setCell ⟨b, 1, none⟩ (.string ⟨#[]⟩)).setCell ⟨b, 2, none⟩ (.slice none 0 0)).setCell ⟨b, 3, none⟩ (.slice none 0 0)).setCell ⟨b, 4, none⟩ (.string ⟨#[]⟩)).setCell ⟨b, 5, none⟩ (.string ⟨#[]⟩)).setCell ⟨b, 6, none⟩ (.slice none 0 0)).setCell ⟨b, 7, none⟩ (.slice none 0 0)).setCell ⟨b, 8, none⟩ (.slice none 0 0)).setCell ⟨b, 9, none⟩ (.int .i64 0)) := ((((((((((b1.setCell (p := ⟨b, 0, none⟩) (Nat.le_refl _) _).setCell (p := ⟨b, 1, none⟩) (Nat.le_refl _) _).setCell (p := ⟨b, 2, none⟩) (Nat.le_refl _) _).setCell (p := ⟨b, 3, none⟩) (Nat.le_refl _) _).setCell (p := ⟨b, 4, none⟩) (Nat.le_refl _) _).setCell (p := ⟨b, 5, none⟩) (Nat.le_refl _) _).setCell (p := ⟨b, 6, none⟩) (Nat.le_refl _) _).setCell (p := ⟨b, 7, none⟩) (Nat.le_refl _) _).setCell (p := ⟨b, 8, none⟩) (Nat.le_refl _) _).setCell (p := ⟨b, 9, none⟩) (Nat.le_refl _) _)
    obtain ⟨WF, hWF⟩ : ∃ W, ((((((((((W1.setCell ⟨b, 0, none⟩ (.int .i64 r)).setCell ⟨b, 1, none⟩ (.string ⟨#[]⟩)).setCell ⟨b, 2, none⟩ (.slice none 0 0)).setCell ⟨b, 3, none⟩ (.slice none 0 0)).setCell ⟨b, 4, none⟩ (.string ⟨#[]⟩)).setCell ⟨b, 5, none⟩ (.string ⟨#[]⟩)).setCell ⟨b, 6, none⟩ (.slice none 0 0)).setCell ⟨b, 7, none⟩ (.slice none 0 0)).setCell ⟨b, 8, none⟩ (.slice none 0 0)).setCell ⟨b, 9, none⟩ (.int .i64 0)) = W := ⟨_, rfl⟩
    rw [hWF] at RF BF ⊢
    clear hWF
    refine bodyPost_ret (v := resR r ⟨#[]⟩) (by simp [results, Try.results50, asAddr, loadR RF]) rfl ?_
    exact ⟨rfl, by rw [hb]; exact BF⟩

set_option maxRecDepth 20000 in
set_option maxHeartbeats 4000000 in
theorem specNewRepo (s : ByteArray) (w : World) : Calls Try.prog 22 #[.string s] w fun e w' => e = .returned (resR (nf s) (nrH s)) ∧ Below w.heap.size w w' := by
  have hS := fun W => specNameFault s W
  obtain ⟨b, hb⟩ : ∃ b, w.heap.size = b := ⟨_, rfl⟩
  obtain ⟨W1, hW1⟩ : ∃ W, w.alloc (.cells (cellsQ 0 ⟨#[]⟩).toArray 53) = W := ⟨_, rfl⟩
  have b1 : Below b w W1 := by rw [← hW1, ← hb]; exact allocBelow _ _
  have r1 : Rf W1 b (cellsQ 0 ⟨#[]⟩) := by rw [← hW1, ← hb]; exact Rf.new w (cellsQ 0 ⟨#[]⟩).toArray _
  have z1 : W1.heap.size = b + 1 := by rw [← hW1, ← hb]; simp
  unfold cellsQ at hW1
  by_cases h0 : nf s = 0
  · have e : nrH s = s := if_pos h0
    rw [e, h0]
    rw [h0] at hS
    clear e h0
    have d0 := r1.at_ 0 _ rfl
    have f0 := r1.fz 0
    have d1 := r1.at_ 1 _ rfl
    have f1 := r1.fz 1
    have d2 := r1.at_ 2 _ rfl
    have f2 := r1.fz 2
    have d3 := r1.at_ 3 _ rfl
    have f3 := r1.fz 3
    have d4 := r1.at_ 4 _ rfl
    have f4 := r1.fz 4
    have d5 := r1.at_ 5 _ rfl
    have f5 := r1.fz 5
    have d6 := r1.at_ 6 _ rfl
    have f6 := r1.fz 6
    have d7 := r1.at_ 7 _ rfl
    have f7 := r1.fz 7
    have d8 := r1.at_ 8 _ rfl
    have f8 := r1.fz 8
    have d9 := r1.at_ 9 _ rfl
    have f9 := r1.fz 9
    go_enter Try.func22, Try.ntmps22
    go_wp2_with fail
    refine (hS _).mono ?_; rintro e W1 ⟨rfl, rfl⟩
    go_wp2
    have RF : Rf ((((((((((W1.setCell ⟨b, 0, none⟩ (.int .i64 (0))).setCell ⟨b, 1, none⟩ (.string ⟨#[]⟩)).setCell ⟨b, 2, none⟩ (.slice none 0 0)).setCell ⟨b, 3, none⟩ (.slice none 0 0)).setCell ⟨b, 4, none⟩ (.string s)).setCell ⟨b, 5, none⟩ (.string ⟨#[]⟩)).setCell ⟨b, 6, none⟩ (.slice none 0 0)).setCell ⟨b, 7, none⟩ (.slice none 0 0)).setCell ⟨b, 8, none⟩ (.slice none 0 0)).setCell ⟨b, 9, none⟩ (.int .i64 0)) b (cellsQ 0 s) := ((((((((((r1.set (o := 0) (by simp [cellsQ]) (.int .i64 (0))).set (o := 1) (by simp [cellsQ]) (.string ⟨#[]⟩)).set (o := 2) (by simp [cellsQ]) (.slice none 0 0)).set (o := 3) (by simp [cellsQ]) (.slice none 0 0)).set (o := 4) (by simp [cellsQ]) (.string s)).set (o := 5) (by simp [cellsQ]) (.string ⟨#[]⟩)).set (o := 6) (by simp [cellsQ]) (.slice none 0 0)).set (o := 7) (by simp [cellsQ]) (.slice none 0 0)).set (o := 8) (by simp [cellsQ]) (.slice none 0 0)).set (o := 9) (by simp [cellsQ]) (.int .i64 0))
    have BF : Below b w ((((((((((W1.setCell ⟨b, 0, none⟩ (.int .i64 (0))).setCell ⟨b, 1, none⟩ (.string ⟨#[]⟩)).setCell ⟨b, 2, none⟩ (.slice none 0 0)).setCell ⟨b, 3, none⟩ (.slice none 0 0)).setCell ⟨b, 4, none⟩ (.string s)).setCell ⟨b, 5, none⟩ (.string ⟨#[]⟩)).setCell ⟨b, 6, none⟩ (.slice none 0 0)).setCell ⟨b, 7, none⟩ (.slice none 0 0)).setCell ⟨b, 8, none⟩ (.slice none 0 0)).setCell ⟨b, 9, none⟩ (.int .i64 0)) := ((((((((((b1.setCell (p := ⟨b, 0, none⟩) (Nat.le_refl _) _).setCell (p := ⟨b, 1, none⟩) (Nat.le_refl _) _).setCell (p := ⟨b, 2, none⟩) (Nat.le_refl _) _).setCell (p := ⟨b, 3, none⟩) (Nat.le_refl _) _).setCell (p := ⟨b, 4, none⟩) (Nat.le_refl _) _).setCell (p := ⟨b, 5, none⟩) (Nat.le_refl _) _).setCell (p := ⟨b, 6, none⟩) (Nat.le_refl _) _).setCell (p := ⟨b, 7, none⟩) (Nat.le_refl _) _).setCell (p := ⟨b, 8, none⟩) (Nat.le_refl _) _).setCell (p := ⟨b, 9, none⟩) (Nat.le_refl _) _)
    obtain ⟨WF, hWF⟩ : ∃ W, ((((((((((W1.setCell ⟨b, 0, none⟩ (.int .i64 (0))).setCell ⟨b, 1, none⟩ (.string ⟨#[]⟩)).setCell ⟨b, 2, none⟩ (.slice none 0 0)).setCell ⟨b, 3, none⟩ (.slice none 0 0)).setCell ⟨b, 4, none⟩ (.string s)).setCell ⟨b, 5, none⟩ (.string ⟨#[]⟩)).setCell ⟨b, 6, none⟩ (.slice none 0 0)).setCell ⟨b, 7, none⟩ (.slice none 0 0)).setCell ⟨b, 8, none⟩ (.slice none 0 0)).setCell ⟨b, 9, none⟩ (.int .i64 0)) = W := ⟨_, rfl⟩
    rw [hWF] at RF BF ⊢
    clear hWF
    refine bodyPost_ret (v := resR 0 s) (by simp [results, Try.results22, asAddr, loadR RF]) rfl ?_
    exact ⟨rfl, by rw [hb]; exact BF⟩
  · have e : nrH s = ⟨#[]⟩ := if_neg h0
    rw [e]
    have q : (nf s != 0) = true := by simpa using h0
    generalize nf s = r at hS q ⊢
    have hB := fun W => l14Bad r W
    unfold resR at hB
    go_enter Try.func22, Try.ntmps22
    go_wp2_with fail
    refine (hS _).mono ?_; rintro e W1 ⟨rfl, rfl⟩
    go_wp2_with fail
    clear hW1
    refine (hB _).mono ?_; rintro e w2 ⟨rfl, b2⟩
    have B2 : Below b w w2 := b1.trans (b2.mono (by omega))
    have r2 := r1.below (by omega) b2
    have R2 := r2
    have d0 := r2.at_ 0 _ rfl
    have f0 := r2.fz 0
    have d1 := r2.at_ 1 _ rfl
    have f1 := r2.fz 1
    have d2 := r2.at_ 2 _ rfl
    have f2 := r2.fz 2
    have d3 := r2.at_ 3 _ rfl
    have f3 := r2.fz 3
    have d4 := r2.at_ 4 _ rfl
    have f4 := r2.fz 4
    have d5 := r2.at_ 5 _ rfl
    have f5 := r2.fz 5
    have d6 := r2.at_ 6 _ rfl
    have f6 := r2.fz 6
    have d7 := r2.at_ 7 _ rfl
    have f7 := r2.fz 7
    have d8 := r2.at_ 8 _ rfl
    have f8 := r2.fz 8
    have d9 := r2.at_ 9 _ rfl
    have f9 := r2.fz 9
    clear b2 r2
    go_wp2
    have RF : Rf ((((((((((w2.setCell ⟨b, 0, none⟩ (.int .i64 r)).setCell ⟨b, 1, none⟩ (.string ⟨#[]⟩)).setCell ⟨b, 2, none⟩ (.slice none 0 0)).setCell ⟨b, 3, none⟩ (.slice none 0 0)).setCell ⟨b, 4, none⟩ (.string ⟨#[]⟩)).setCell ⟨b, 5, none⟩ (.string ⟨#[]⟩)).setCell ⟨b, 6, none⟩ (.slice none 0 0)).setCell ⟨b, 7, none⟩ (.slice none 0 0)).setCell ⟨b, 8, none⟩ (.slice none 0 0)).setCell ⟨b, 9, none⟩ (.int .i64 0)) b (cellsQ r ⟨#[]⟩) := ((((((((((R2.set (o := 0) (by simp [cellsQ]) (.int .i64 r)).set (o := 1) (by simp [cellsQ]) (.string ⟨#[]⟩)).set (o := 2) (by simp [cellsQ]) (.slice none 0 0)).set (o := 3) (by simp [cellsQ]) (.slice none 0 0)).set (o := 4) (by simp [cellsQ]) (.string ⟨#[]⟩)).set (o := 5) (by simp [cellsQ]) (.string ⟨#[]⟩)).set (o := 6) (by simp [cellsQ]) (.slice none 0 0)).set (o := 7) (by simp [cellsQ]) (.slice none 0 0)).set (o := 8) (by simp [cellsQ]) (.slice none 0 0)).set (o := 9) (by simp [cellsQ]) (.int .i64 0))
    have BF : Below b w ((((((((((w2.setCell ⟨b, 0, none⟩ (.int .i64 r)).setCell ⟨b, 1, none⟩ (.string ⟨#[]⟩)).setCell ⟨b, 2, none⟩ (.slice none 0 0)).setCell ⟨b, 3, none⟩ (.slice none 0 0)).setCell ⟨b, 4, none⟩ (.string ⟨#[]⟩)).setCell ⟨b, 5, none⟩ (.string ⟨#[]⟩)).setCell ⟨b, 6, none⟩ (.slice none 0 0)).setCell ⟨b, 7, none⟩ (.slice none 0 0)).setCell ⟨b, 8, none⟩ (.slice none 0 0)).setCell ⟨b, 9, none⟩ (.int .i64 0)) := ((((((((((B2.setCell (p := ⟨b, 0, none⟩) (Nat.le_refl _) _).setCell (p := ⟨b, 1, none⟩) (Nat.le_refl _) _).setCell (p := ⟨b, 2, none⟩) (Nat.le_refl _) _).setCell (p := ⟨b, 3, none⟩) (Nat.le_refl _) _).setCell (p := ⟨b, 4, none⟩) (Nat.le_refl _) _).setCell (p := ⟨b, 5, none⟩) (Nat.le_refl _) _).setCell (p := ⟨b, 6, none⟩) (Nat.le_refl _) _).setCell (p := ⟨b, 7, none⟩) (Nat.le_refl _) _).setCell (p := ⟨b, 8, none⟩) (Nat.le_refl _) _).setCell (p := ⟨b, 9, none⟩) (Nat.le_refl _) _)
    obtain ⟨WF, hWF⟩ : ∃ W, ((((((((((w2.setCell ⟨b, 0, none⟩ (.int .i64 r)).setCell ⟨b, 1, none⟩ (.string ⟨#[]⟩)).setCell ⟨b, 2, none⟩ (.slice none 0 0)).setCell ⟨b, 3, none⟩ (.slice none 0 0)).setCell ⟨b, 4, none⟩ (.string ⟨#[]⟩)).setCell ⟨b, 5, none⟩ (.string ⟨#[]⟩)).setCell ⟨b, 6, none⟩ (.slice none 0 0)).setCell ⟨b, 7, none⟩ (.slice none 0 0)).setCell ⟨b, 8, none⟩ (.slice none 0 0)).setCell ⟨b, 9, none⟩ (.int .i64 0)) = W := ⟨_, rfl⟩
    rw [hWF] at RF BF ⊢
    clear hWF
    refine bodyPost_ret (v := resR r ⟨#[]⟩) (by simp [results, Try.results22, asAddr, loadR RF]) rfl ?_
    exact ⟨rfl, by rw [hb]; exact BF⟩

set_option maxRecDepth 20000 in
set_option maxHeartbeats 4000000 in
theorem implNewRepo (s : ByteArray) (w : World) (hs : s.size ≤ 1048576) : Calls Try.prog 23 #[.string s] w fun e w' => e = .returned (resR (nf s) (nrH s)) ∧ Below w.heap.size w w' := by
  have hS := fun W => implNameFault s W
  obtain ⟨b, hb⟩ : ∃ b, w.heap.size = b := ⟨_, rfl⟩
  obtain ⟨W1, hW1⟩ : ∃ W, w.alloc (.cells (cellsQ 0 ⟨#[]⟩).toArray 53) = W := ⟨_, rfl⟩
  have b1 : Below b w W1 := by rw [← hW1, ← hb]; exact allocBelow _ _
  have r1 : Rf W1 b (cellsQ 0 ⟨#[]⟩) := by rw [← hW1, ← hb]; exact Rf.new w (cellsQ 0 ⟨#[]⟩).toArray _
  have z1 : W1.heap.size = b + 1 := by rw [← hW1, ← hb]; simp
  unfold cellsQ at hW1
  by_cases h0 : nf s = 0
  · have e : nrH s = s := if_pos h0
    rw [e, h0]
    rw [h0] at hS
    clear e h0
    go_enter Try.func23, Try.ntmps23
    go_wp2_with fail
    refine (hS _).mono ?_; rintro e W1 ⟨rfl, rfl⟩
    go_wp2_with fail
    clear hW1
    refine (cloneS s _ (by omega)).mono ?_; rintro e w2 ⟨rfl, b2⟩
    have B2 : Below b w w2 := b1.trans (b2.mono (by omega))
    have r2 := r1.below (by omega) b2
    have R2 := r2
    have d0 := r2.at_ 0 _ rfl
    have f0 := r2.fz 0
    have d1 := r2.at_ 1 _ rfl
    have f1 := r2.fz 1
    have d2 := r2.at_ 2 _ rfl
    have f2 := r2.fz 2
    have d3 := r2.at_ 3 _ rfl
    have f3 := r2.fz 3
    have d4 := r2.at_ 4 _ rfl
    have f4 := r2.fz 4
    have d5 := r2.at_ 5 _ rfl
    have f5 := r2.fz 5
    have d6 := r2.at_ 6 _ rfl
    have f6 := r2.fz 6
    have d7 := r2.at_ 7 _ rfl
    have f7 := r2.fz 7
    have d8 := r2.at_ 8 _ rfl
    have f8 := r2.fz 8
    have d9 := r2.at_ 9 _ rfl
    have f9 := r2.fz 9
    clear b2 r2
    go_wp2
    have RF : Rf ((((((((((w2.setCell ⟨b, 0, none⟩ (.int .i64 (0))).setCell ⟨b, 1, none⟩ (.string ⟨#[]⟩)).setCell ⟨b, 2, none⟩ (.slice none 0 0)).setCell ⟨b, 3, none⟩ (.slice none 0 0)).setCell ⟨b, 4, none⟩ (.string s)).setCell ⟨b, 5, none⟩ (.string ⟨#[]⟩)).setCell ⟨b, 6, none⟩ (.slice none 0 0)).setCell ⟨b, 7, none⟩ (.slice none 0 0)).setCell ⟨b, 8, none⟩ (.slice none 0 0)).setCell ⟨b, 9, none⟩ (.int .i64 0)) b (cellsQ 0 s) := ((((((((((R2.set (o := 0) (by simp [cellsQ]) (.int .i64 (0))).set (o := 1) (by simp [cellsQ]) (.string ⟨#[]⟩)).set (o := 2) (by simp [cellsQ]) (.slice none 0 0)).set (o := 3) (by simp [cellsQ]) (.slice none 0 0)).set (o := 4) (by simp [cellsQ]) (.string s)).set (o := 5) (by simp [cellsQ]) (.string ⟨#[]⟩)).set (o := 6) (by simp [cellsQ]) (.slice none 0 0)).set (o := 7) (by simp [cellsQ]) (.slice none 0 0)).set (o := 8) (by simp [cellsQ]) (.slice none 0 0)).set (o := 9) (by simp [cellsQ]) (.int .i64 0))
    have BF : Below b w ((((((((((w2.setCell ⟨b, 0, none⟩ (.int .i64 (0))).setCell ⟨b, 1, none⟩ (.string ⟨#[]⟩)).setCell ⟨b, 2, none⟩ (.slice none 0 0)).setCell ⟨b, 3, none⟩ (.slice none 0 0)).setCell ⟨b, 4, none⟩ (.string s)).setCell ⟨b, 5, none⟩ (.string ⟨#[]⟩)).setCell ⟨b, 6, none⟩ (.slice none 0 0)).setCell ⟨b, 7, none⟩ (.slice none 0 0)).setCell ⟨b, 8, none⟩ (.slice none 0 0)).setCell ⟨b, 9, none⟩ (.int .i64 0)) := ((((((((((B2.setCell (p := ⟨b, 0, none⟩) (Nat.le_refl _) _).setCell (p := ⟨b, 1, none⟩) (Nat.le_refl _) _).setCell (p := ⟨b, 2, none⟩) (Nat.le_refl _) _).setCell (p := ⟨b, 3, none⟩) (Nat.le_refl _) _).setCell (p := ⟨b, 4, none⟩) (Nat.le_refl _) _).setCell (p := ⟨b, 5, none⟩) (Nat.le_refl _) _).setCell (p := ⟨b, 6, none⟩) (Nat.le_refl _) _).setCell (p := ⟨b, 7, none⟩) (Nat.le_refl _) _).setCell (p := ⟨b, 8, none⟩) (Nat.le_refl _) _).setCell (p := ⟨b, 9, none⟩) (Nat.le_refl _) _)
    obtain ⟨WF, hWF⟩ : ∃ W, ((((((((((w2.setCell ⟨b, 0, none⟩ (.int .i64 (0))).setCell ⟨b, 1, none⟩ (.string ⟨#[]⟩)).setCell ⟨b, 2, none⟩ (.slice none 0 0)).setCell ⟨b, 3, none⟩ (.slice none 0 0)).setCell ⟨b, 4, none⟩ (.string s)).setCell ⟨b, 5, none⟩ (.string ⟨#[]⟩)).setCell ⟨b, 6, none⟩ (.slice none 0 0)).setCell ⟨b, 7, none⟩ (.slice none 0 0)).setCell ⟨b, 8, none⟩ (.slice none 0 0)).setCell ⟨b, 9, none⟩ (.int .i64 0)) = W := ⟨_, rfl⟩
    rw [hWF] at RF BF ⊢
    clear hWF
    refine bodyPost_ret (v := resR 0 s) (by simp [results, Try.results23, asAddr, loadR RF]) rfl ?_
    exact ⟨rfl, by rw [hb]; exact BF⟩
  · have e : nrH s = ⟨#[]⟩ := if_neg h0
    rw [e]
    have q : (nf s != 0) = true := by simpa using h0
    generalize nf s = r at hS q ⊢
    have d0 := r1.at_ 0 _ rfl
    have f0 := r1.fz 0
    have d1 := r1.at_ 1 _ rfl
    have f1 := r1.fz 1
    have d2 := r1.at_ 2 _ rfl
    have f2 := r1.fz 2
    have d3 := r1.at_ 3 _ rfl
    have f3 := r1.fz 3
    have d4 := r1.at_ 4 _ rfl
    have f4 := r1.fz 4
    have d5 := r1.at_ 5 _ rfl
    have f5 := r1.fz 5
    have d6 := r1.at_ 6 _ rfl
    have f6 := r1.fz 6
    have d7 := r1.at_ 7 _ rfl
    have f7 := r1.fz 7
    have d8 := r1.at_ 8 _ rfl
    have f8 := r1.fz 8
    have d9 := r1.at_ 9 _ rfl
    have f9 := r1.fz 9
    go_enter Try.func23, Try.ntmps23
    go_wp2_with fail
    refine (hS _).mono ?_; rintro e W1 ⟨rfl, rfl⟩
    go_wp2
    have RF : Rf ((((((((((W1.setCell ⟨b, 0, none⟩ (.int .i64 r)).setCell ⟨b, 1, none⟩ (.string ⟨#[]⟩)).setCell ⟨b, 2, none⟩ (.slice none 0 0)).setCell ⟨b, 3, none⟩ (.slice none 0 0)).setCell ⟨b, 4, none⟩ (.string ⟨#[]⟩)).setCell ⟨b, 5, none⟩ (.string ⟨#[]⟩)).setCell ⟨b, 6, none⟩ (.slice none 0 0)).setCell ⟨b, 7, none⟩ (.slice none 0 0)).setCell ⟨b, 8, none⟩ (.slice none 0 0)).setCell ⟨b, 9, none⟩ (.int .i64 0)) b (cellsQ r ⟨#[]⟩) := ((((((((((r1.set (o := 0) (by simp [cellsQ]) (.int .i64 r)).set (o := 1) (by simp [cellsQ]) (.string ⟨#[]⟩)).set (o := 2) (by simp [cellsQ]) (.slice none 0 0)).set (o := 3) (by simp [cellsQ]) (.slice none 0 0)).set (o := 4) (by simp [cellsQ]) (.string ⟨#[]⟩)).set (o := 5) (by simp [cellsQ]) (.string ⟨#[]⟩)).set (o := 6) (by simp [cellsQ]) (.slice none 0 0)).set (o := 7) (by simp [cellsQ]) (.slice none 0 0)).set (o := 8) (by simp [cellsQ]) (.slice none 0 0)).set (o := 9) (by simp [cellsQ]) (.int .i64 0))
    have BF : Below b w ((((((((((W1.setCell ⟨b, 0, none⟩ (.int .i64 r)).setCell ⟨b, 1, none⟩ (.string ⟨#[]⟩)).setCell ⟨b, 2, none⟩ (.slice none 0 0)).setCell ⟨b, 3, none⟩ (.slice none 0 0)).setCell ⟨b, 4, none⟩ (.string ⟨#[]⟩)).setCell ⟨b, 5, none⟩ (.string ⟨#[]⟩)).setCell ⟨b, 6, none⟩ (.slice none 0 0)).setCell ⟨b, 7, none⟩ (.slice none 0 0)).setCell ⟨b, 8, none⟩ (.slice none 0 0)).setCell ⟨b, 9, none⟩ (.int .i64 0)) := ((((((((((b1.setCell (p := ⟨b, 0, none⟩) (Nat.le_refl _) _).setCell (p := ⟨b, 1, none⟩) (Nat.le_refl _) _).setCell (p := ⟨b, 2, none⟩) (Nat.le_refl _) _).setCell (p := ⟨b, 3, none⟩) (Nat.le_refl _) _).setCell (p := ⟨b, 4, none⟩) (Nat.le_refl _) _).setCell (p := ⟨b, 5, none⟩) (Nat.le_refl _) _).setCell (p := ⟨b, 6, none⟩) (Nat.le_refl _) _).setCell (p := ⟨b, 7, none⟩) (Nat.le_refl _) _).setCell (p := ⟨b, 8, none⟩) (Nat.le_refl _) _).setCell (p := ⟨b, 9, none⟩) (Nat.le_refl _) _)
    obtain ⟨WF, hWF⟩ : ∃ W, ((((((((((W1.setCell ⟨b, 0, none⟩ (.int .i64 r)).setCell ⟨b, 1, none⟩ (.string ⟨#[]⟩)).setCell ⟨b, 2, none⟩ (.slice none 0 0)).setCell ⟨b, 3, none⟩ (.slice none 0 0)).setCell ⟨b, 4, none⟩ (.string ⟨#[]⟩)).setCell ⟨b, 5, none⟩ (.string ⟨#[]⟩)).setCell ⟨b, 6, none⟩ (.slice none 0 0)).setCell ⟨b, 7, none⟩ (.slice none 0 0)).setCell ⟨b, 8, none⟩ (.slice none 0 0)).setCell ⟨b, 9, none⟩ (.int .i64 0)) = W := ⟨_, rfl⟩
    rw [hWF] at RF BF ⊢
    clear hWF
    refine bodyPost_ret (v := resR r ⟨#[]⟩) (by simp [results, Try.results23, asAddr, loadR RF]) rfl ?_
    exact ⟨rfl, by rw [hb]; exact BF⟩
end Go.Proofs.Ytibdlfojoafloaa.Nr
