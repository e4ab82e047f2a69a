/- Proved: at every text FnExactNewRepo returns true (NewRepo answers as its specification, field by field, with memory of its own). No condition: FnExactNewRepoSaid itself. -/
import Derived.Test.YtibdlfojoafloaaRows
import Derived.Test.YtibdlfojoafloaaLem
import Derived.Test.YtibdlfojoafloaaStrs
import Derived.Test.YtibdlfojoafloaaDTab
import Derived.Test.YtibdlfojoafloaaOwn
import Derived.Test.YtibdlfojoafloaaFr
import Derived.Test.YtibdlfojoafloaaHkT
import Derived.Test.YtibdlfojoafloaaIdL
import Derived.Test.YtibdlfojoafloaaNmC
import Derived.Test.YtibdlfojoafloaaNrC
import Derived.Test.YtibdlfojoafloaaNrD
import Derived.WalkKit
import Derived.ProofKit
import Derived.OpenShut
import Derived.ShutString
import Derived.Below
import Derived.Deep.CutRange
namespace Go.Proofs.Ytibdlfojoafloaa.NrLaw
open Go.ChangeShapes Go.WideShapes Go.ChangeAt Go.RowKit
open Go.ChangeMaps (open_string shut_string)
open Go.Proofs.Ytibdlfojoafloaa.Nr
theorem rsB {w w' : World} {g : Nat} {l : List Value} (b : Below w.heap.size w w') (h : Rs w g l) : Rs w' g l := fun j v hj => zc b (h j v hj)
theorem rsS1 {w : World} {g q o : Nat} {u : Value} {l : List Value} (n : g ≠ q) (h : Rs w g l) : Rs (w.setCell ⟨q, o, none⟩ u) g l := fun j v hj => (World.cell?_of_block (heap_setCell_other w ⟨q, o, none⟩ g u n)).trans (h j v hj)
theorem rsS {w : World} {g q : Nat} {u0 u1 u2 u3 u4 u5 u6 u7 u8 u9 : Value} {l : List Value} (n : g ≠ q) (h : Rs w g l) : Rs ((((((((((w.setCell ⟨q, 0, none⟩ u0).setCell ⟨q, 1, none⟩ u1).setCell ⟨q, 2, none⟩ u2).setCell ⟨q, 3, none⟩ u3).setCell ⟨q, 4, none⟩ u4).setCell ⟨q, 5, none⟩ u5).setCell ⟨q, 6, none⟩ u6).setCell ⟨q, 7, none⟩ u7).setCell ⟨q, 8, none⟩ u8).setCell ⟨q, 9, none⟩ u9) g l :=
  rsS1 n (rsS1 n (rsS1 n (rsS1 n (rsS1 n (rsS1 n (rsS1 n (rsS1 n (rsS1 n (rsS1 n h)))))))))
set_option maxRecDepth 20000 in
set_option maxHeartbeats 4000000 in
theorem walk (a0 : ByteArray) (_w0 : a0.size ≤ maxLen) (w : World) :
    Calls Try.prog 6 #[.string a0] w fun e w' => e = .returned (.bool true) ∧ Below w.heap.size w w' := by
  by_cases hbig : (1048576 : Int) < (a0.size : Int)
  · go_enter Try.func6, Try.ntmps6
    go_wp2
    go_ret
    exact ⟨rfl, Below.refl _ _⟩
  · have hS := fun W => specNewRepo a0 W
    have hI := fun W => implNewRepo a0 W (by omega)
    generalize nf a0 = c at hS hI
    generalize nrH a0 = h at hS hI
    have hE := fun W => eqRepoResult c h W
    have hM := fun W => markRepoResult c h 1 (by omega) W
    have hH := fun W => heldRepoResult c h 1 (by omega) W
    unfold resR at hS hI hE hM hH
    go_enter Try.func6, Try.ntmps6
    go_wp2_with fail
    refine (hS _).mono ?_; rintro e w0 ⟨rfl, b0⟩
    have B0 := b0
    clear b0
    obtain ⟨p, hp⟩ : ∃ q, w0.heap.size = q := ⟨_, rfl⟩
    obtain ⟨W1, hW1⟩ : ∃ W, w0.alloc (.cells (cellsQ 0 ⟨#[]⟩).toArray 53) = W := ⟨_, rfl⟩
    have xW1 : Below p w0 W1 := by rw [← hW1, ← hp]; exact allocBelow _ _
    have RW1 : Rf W1 p (cellsQ 0 ⟨#[]⟩) := by rw [← hW1, ← hp]; exact Rf.new w0 (cellsQ 0 ⟨#[]⟩).toArray _
    have B1 : Below w.heap.size w W1 := B0.trans (xW1.mono (by rw [← hp]; exact B0.size))
    have d0 := RW1.at_ 0 _ rfl
    have f0 := RW1.fz 0
    have d1 := RW1.at_ 1 _ rfl
    have f1 := RW1.fz 1
    have d2 := RW1.at_ 2 _ rfl
    have f2 := RW1.fz 2
    have d3 := RW1.at_ 3 _ rfl
    have f3 := RW1.fz 3
    have d4 := RW1.at_ 4 _ rfl
    have f4 := RW1.fz 4
    have d5 := RW1.at_ 5 _ rfl
    have f5 := RW1.fz 5
    have d6 := RW1.at_ 6 _ rfl
    have f6 := RW1.fz 6
    have d7 := RW1.at_ 7 _ rfl
    have f7 := RW1.fz 7
    have d8 := RW1.at_ 8 _ rfl
    have f8 := RW1.fz 8
    have d9 := RW1.at_ 9 _ rfl
    have f9 := RW1.fz 9
    unfold cellsQ at hW1
    have lp : w.heap.size ≤ p := by rw [← hp]; exact B0.size
    go_upto_region 4 with fail
    clear hp B0
    clear d0 f0 d1 f1 d2 f2 d3 f3 d4 f4 d5 f5 d6 f6 d7 f7 d8 f8 d9 f9 hW1 xW1
    have RF : Rf ((((((((((W1.setCell ⟨p, 0, none⟩ (.int .i64 c)).setCell ⟨p, 1, none⟩ (.string ⟨#[]⟩)).setCell ⟨p, 2, none⟩ (.slice none 0 0)).setCell ⟨p, 3, none⟩ (.slice none 0 0)).setCell ⟨p, 4, none⟩ (.string h)).setCell ⟨p, 5, none⟩ (.string ⟨#[]⟩)).setCell ⟨p, 6, none⟩ (.slice none 0 0)).setCell ⟨p, 7, none⟩ (.slice none 0 0)).setCell ⟨p, 8, none⟩ (.slice none 0 0)).setCell ⟨p, 9, none⟩ (.int .i64 0)) p (cellsQ c h) := ((((((((((RW1.set (o := 0) (by simp [cellsQ]) (.int .i64 c)).set (o := 1) (by simp [cellsQ]) (.string ⟨#[]⟩)).set (o := 2) (by simp [cellsQ]) (.slice none 0 0)).set (o := 3) (by simp [cellsQ]) (.slice none 0 0)).set (o := 4) (by simp [cellsQ]) (.string h)).set (o := 5) (by simp [cellsQ]) (.string ⟨#[]⟩)).set (o := 6) (by simp [cellsQ]) (.slice none 0 0)).set (o := 7) (by simp [cellsQ]) (.slice none 0 0)).set (o := 8) (by simp [cellsQ]) (.slice none 0 0)).set (o := 9) (by simp [cellsQ]) (.int .i64 0))
    have C1 : Below w.heap.size w ((((((((((W1.setCell ⟨p, 0, none⟩ (.int .i64 c)).setCell ⟨p, 1, none⟩ (.string ⟨#[]⟩)).setCell ⟨p, 2, none⟩ (.slice none 0 0)).setCell ⟨p, 3, none⟩ (.slice none 0 0)).setCell ⟨p, 4, none⟩ (.string h)).setCell ⟨p, 5, none⟩ (.string ⟨#[]⟩)).setCell ⟨p, 6, none⟩ (.slice none 0 0)).setCell ⟨p, 7, none⟩ (.slice none 0 0)).setCell ⟨p, 8, none⟩ (.slice none 0 0)).setCell ⟨p, 9, none⟩ (.int .i64 0)) := ((((((((((B1.setCell (p := ⟨p, 0, none⟩) lp _).setCell (p := ⟨p, 1, none⟩) lp _).setCell (p := ⟨p, 2, none⟩) lp _).setCell (p := ⟨p, 3, none⟩) lp _).setCell (p := ⟨p, 4, none⟩) lp _).setCell (p := ⟨p, 5, none⟩) lp _).setCell (p := ⟨p, 6, none⟩) lp _).setCell (p := ⟨p, 7, none⟩) lp _).setCell (p := ⟨p, 8, none⟩) lp _).setCell (p := ⟨p, 9, none⟩) lp _)
    obtain ⟨V1, hV1⟩ : ∃ W, ((((((((((W1.setCell ⟨p, 0, none⟩ (.int .i64 c)).setCell ⟨p, 1, none⟩ (.string ⟨#[]⟩)).setCell ⟨p, 2, none⟩ (.slice none 0 0)).setCell ⟨p, 3, none⟩ (.slice none 0 0)).setCell ⟨p, 4, none⟩ (.string h)).setCell ⟨p, 5, none⟩ (.string ⟨#[]⟩)).setCell ⟨p, 6, none⟩ (.slice none 0 0)).setCell ⟨p, 7, none⟩ (.slice none 0 0)).setCell ⟨p, 8, none⟩ (.slice none 0 0)).setCell ⟨p, 9, none⟩ (.int .i64 0)) = W := ⟨_, rfl⟩
    rw [hV1] at RF C1  ⊢
    have P : Rs V1 p (cellsQ c h) := fun j v hj => RF.at_ j v hj
    clear hV1 RF RW1 B1
    go_wp2_with fail
    refine (hI _).mono ?_; rintro e w2 ⟨rfl, b0⟩
    have B2 := C1.trans (b0.mono C1.size)
    replace P := rsB b0 P
    clear b0 C1
    have zp : p < w2.heap.size := cellLt (P 0 _ rfl)
    obtain ⟨q, hq⟩ : ∃ q, w2.heap.size = q := ⟨_, rfl⟩
    obtain ⟨W3, hW3⟩ : ∃ W, w2.alloc (.cells (cellsQ 0 ⟨#[]⟩).toArray 53) = W := ⟨_, rfl⟩
    have xW3 : Below q w2 W3 := by rw [← hW3, ← hq]; exact allocBelow _ _
    have RW3 : Rf W3 q (cellsQ 0 ⟨#[]⟩) := by rw [← hW3, ← hq]; exact Rf.new w2 (cellsQ 0 ⟨#[]⟩).toArray _
    have B3 : Below w.heap.size w W3 := B2.trans (xW3.mono (by rw [← hq]; exact B2.size))
    replace P := rsB (by rw [hq]; exact xW3) P
    have d0 := RW3.at_ 0 _ rfl
    have f0 := RW3.fz 0
    have d1 := RW3.at_ 1 _ rfl
    have f1 := RW3.fz 1
    have d2 := RW3.at_ 2 _ rfl
    have f2 := RW3.fz 2
    have d3 := RW3.at_ 3 _ rfl
    have f3 := RW3.fz 3
    have d4 := RW3.at_ 4 _ rfl
    have f4 := RW3.fz 4
    have d5 := RW3.at_ 5 _ rfl
    have f5 := RW3.fz 5
    have d6 := RW3.at_ 6 _ rfl
    have f6 := RW3.fz 6
    have d7 := RW3.at_ 7 _ rfl
    have f7 := RW3.fz 7
    have d8 := RW3.at_ 8 _ rfl
    have f8 := RW3.fz 8
    have d9 := RW3.at_ 9 _ rfl
    have f9 := RW3.fz 9
    unfold cellsQ at hW3
    have lq : w.heap.size ≤ q := by rw [← hq]; exact B2.size
    have nP_q : p ≠ q := by omega
    go_upto_region 5 with fail
    clear hq B2 zp
    clear d0 f0 d1 f1 d2 f2 d3 f3 d4 f4 d5 f5 d6 f6 d7 f7 d8 f8 d9 f9 hW3 xW3
    have RF : Rf ((((((((((W3.setCell ⟨q, 0, none⟩ (.int .i64 c)).setCell ⟨q, 1, none⟩ (.string ⟨#[]⟩)).setCell ⟨q, 2, none⟩ (.slice none 0 0)).setCell ⟨q, 3, none⟩ (.slice none 0 0)).setCell ⟨q, 4, none⟩ (.string h)).setCell ⟨q, 5, none⟩ (.string ⟨#[]⟩)).setCell ⟨q, 6, none⟩ (.slice none 0 0)).setCell ⟨q, 7, none⟩ (.slice none 0 0)).setCell ⟨q, 8, none⟩ (.slice none 0 0)).setCell ⟨q, 9, none⟩ (.int .i64 0)) q (cellsQ c h) := ((((((((((RW3.set (o := 0) (by simp [cellsQ]) (.int .i64 c)).set (o := 1) (by simp [cellsQ]) (.string ⟨#[]⟩)).set (o := 2) (by simp [cellsQ]) (.slice none 0 0)).set (o := 3) (by simp [cellsQ]) (.slice none 0 0)).set (o := 4) (by simp [cellsQ]) (.string h)).set (o := 5) (by simp [cellsQ]) (.string ⟨#[]⟩)).set (o := 6) (by simp [cellsQ]) (.slice none 0 0)).set (o := 7) (by simp [cellsQ]) (.slice none 0 0)).set (o := 8) (by simp [cellsQ]) (.slice none 0 0)).set (o := 9) (by simp [cellsQ]) (.int .i64 0))
    have C3 : Below w.heap.size w ((((((((((W3.setCell ⟨q, 0, none⟩ (.int .i64 c)).setCell ⟨q, 1, none⟩ (.string ⟨#[]⟩)).setCell ⟨q, 2, none⟩ (.slice none 0 0)).setCell ⟨q, 3, none⟩ (.slice none 0 0)).setCell ⟨q, 4, none⟩ (.string h)).setCell ⟨q, 5, none⟩ (.string ⟨#[]⟩)).setCell ⟨q, 6, none⟩ (.slice none 0 0)).setCell ⟨q, 7, none⟩ (.slice none 0 0)).setCell ⟨q, 8, none⟩ (.slice none 0 0)).setCell ⟨q, 9, none⟩ (.int .i64 0)) := ((((((((((B3.setCell (p := ⟨q, 0, none⟩) lq _).setCell (p := ⟨q, 1, none⟩) lq _).setCell (p := ⟨q, 2, none⟩) lq _).setCell (p := ⟨q, 3, none⟩) lq _).setCell (p := ⟨q, 4, none⟩) lq _).setCell (p := ⟨q, 5, none⟩) lq _).setCell (p := ⟨q, 6, none⟩) lq _).setCell (p := ⟨q, 7, none⟩) lq _).setCell (p := ⟨q, 8, none⟩) lq _).setCell (p := ⟨q, 9, none⟩) lq _)
    replace P : Rs ((((((((((W3.setCell ⟨q, 0, none⟩ (.int .i64 c)).setCell ⟨q, 1, none⟩ (.string ⟨#[]⟩)).setCell ⟨q, 2, none⟩ (.slice none 0 0)).setCell ⟨q, 3, none⟩ (.slice none 0 0)).setCell ⟨q, 4, none⟩ (.string h)).setCell ⟨q, 5, none⟩ (.string ⟨#[]⟩)).setCell ⟨q, 6, none⟩ (.slice none 0 0)).setCell ⟨q, 7, none⟩ (.slice none 0 0)).setCell ⟨q, 8, none⟩ (.slice none 0 0)).setCell ⟨q, 9, none⟩ (.int .i64 0)) _ (cellsQ c h) := rsS nP_q P
    obtain ⟨V3, hV3⟩ : ∃ W, ((((((((((W3.setCell ⟨q, 0, none⟩ (.int .i64 c)).setCell ⟨q, 1, none⟩ (.string ⟨#[]⟩)).setCell ⟨q, 2, none⟩ (.slice none 0 0)).setCell ⟨q, 3, none⟩ (.slice none 0 0)).setCell ⟨q, 4, none⟩ (.string h)).setCell ⟨q, 5, none⟩ (.string ⟨#[]⟩)).setCell ⟨q, 6, none⟩ (.slice none 0 0)).setCell ⟨q, 7, none⟩ (.slice none 0 0)).setCell ⟨q, 8, none⟩ (.slice none 0 0)).setCell ⟨q, 9, none⟩ (.int .i64 0)) = W := ⟨_, rfl⟩
    rw [hV3] at RF C3 P ⊢
    have Q : Rs V3 q (cellsQ c h) := fun j v hj => RF.at_ j v hj
    clear hV3 RF RW3 B3
    obtain ⟨x0, x1, x2, x3, x4, x5, x6, x7, x8, x9⟩ := ten P
    obtain ⟨y0, y1, y2, y3, y4, y5, y6, y7, y8, y9⟩ := ten Q
    go_wp2_with fail
    clear x0 x1 x2 x3 x4 x5 x6 x7 x8 x9
    clear y0 y1 y2 y3 y4 y5 y6 y7 y8 y9
    refine (hE _).mono ?_; rintro e w4 ⟨rfl, b0⟩
    have B4 := C3.trans (b0.mono C3.size)
    replace P := rsB b0 P
    replace Q := rsB b0 Q
    clear b0 C3
    obtain ⟨y0, y1, y2, y3, y4, y5, y6, y7, y8, y9⟩ := ten Q
    go_wp2_with fail
    clear y0 y1 y2 y3 y4 y5 y6 y7 y8 y9
    refine (hM _).mono ?_; rintro e w5 ⟨rfl, b0⟩
    have B5 := B4.trans (b0.mono B4.size)
    replace P := rsB b0 P
    replace Q := rsB b0 Q
    clear b0 B4
    obtain ⟨y0, y1, y2, y3, y4, y5, y6, y7, y8, y9⟩ := ten Q
    go_wp2_with fail
    clear y0 y1 y2 y3 y4 y5 y6 y7 y8 y9
    refine (hH _).mono ?_; rintro e w6 ⟨rfl, b0⟩
    have B6 := B5.trans (b0.mono B5.size)
    replace P := rsB b0 P
    replace Q := rsB b0 Q
    clear b0 B5
    go_wp2_with fail
    refine (hI _).mono ?_; rintro e w7 ⟨rfl, b0⟩
    have B7 := B6.trans (b0.mono B6.size)
    replace P := rsB b0 P
    replace Q := rsB b0 Q
    clear b0 B6
    have zp : p < w7.heap.size := cellLt (P 0 _ rfl)
    have zq : q < w7.heap.size := cellLt (Q 0 _ rfl)
    obtain ⟨r, hr⟩ : ∃ q, w7.heap.size = q := ⟨_, rfl⟩
    obtain ⟨W8, hW8⟩ : ∃ W, w7.alloc (.cells (cellsQ 0 ⟨#[]⟩).toArray 53) = W := ⟨_, rfl⟩
    have xW8 : Below r w7 W8 := by rw [← hW8, ← hr]; exact allocBelow _ _
    have RW8 : Rf W8 r (cellsQ 0 ⟨#[]⟩) := by rw [← hW8, ← hr]; exact Rf.new w7 (cellsQ 0 ⟨#[]⟩).toArray _
    have B8 : Below w.heap.size w W8 := B7.trans (xW8.mono (by rw [← hr]; exact B7.size))
    replace P := rsB (by rw [hr]; exact xW8) P
    replace Q := rsB (by rw [hr]; exact xW8) Q
    have d0 := RW8.at_ 0 _ rfl
    have f0 := RW8.fz 0
    have d1 := RW8.at_ 1 _ rfl
    have f1 := RW8.fz 1
    have d2 := RW8.at_ 2 _ rfl
    have f2 := RW8.fz 2
    have d3 := RW8.at_ 3 _ rfl
    have f3 := RW8.fz 3
    have d4 := RW8.at_ 4 _ rfl
    have f4 := RW8.fz 4
    have d5 := RW8.at_ 5 _ rfl
    have f5 := RW8.fz 5
    have d6 := RW8.at_ 6 _ rfl
    have f6 := RW8.fz 6
    have d7 := RW8.at_ 7 _ rfl
    have f7 := RW8.fz 7
    have d8 := RW8.at_ 8 _ rfl
    have f8 := RW8.fz 8
    have d9 := RW8.at_ 9 _ rfl
    have f9 := RW8.fz 9
    unfold cellsQ at hW8
    have lr : w.heap.size ≤ r := by rw [← hr]; exact B7.size
    have nP_r : p ≠ r := by omega
    have nQ_r : q ≠ r := by omega
    go_upto_region 16 with fail
    clear hr B7 zp zq
    clear d0 f0 d1 f1 d2 f2 d3 f3 d4 f4 d5 f5 d6 f6 d7 f7 d8 f8 d9 f9 hW8 xW8
    have RF : Rf ((((((((((W8.setCell ⟨r, 0, none⟩ (.int .i64 c)).setCell ⟨r, 1, none⟩ (.string ⟨#[]⟩)).setCell ⟨r, 2, none⟩ (.slice none 0 0)).setCell ⟨r, 3, none⟩ (.slice none 0 0)).setCell ⟨r, 4, none⟩ (.string h)).setCell ⟨r, 5, none⟩ (.string ⟨#[]⟩)).setCell ⟨r, 6, none⟩ (.slice none 0 0)).setCell ⟨r, 7, none⟩ (.slice none 0 0)).setCell ⟨r, 8, none⟩ (.slice none 0 0)).setCell ⟨r, 9, none⟩ (.int .i64 0)) r (cellsQ c h) := ((((((((((RW8.set (o := 0) (by simp [cellsQ]) (.int .i64 c)).set (o := 1) (by simp [cellsQ]) (.string ⟨#[]⟩)).set (o := 2) (by simp [cellsQ]) (.slice none 0 0)).set (o := 3) (by simp [cellsQ]) (.slice none 0 0)).set (o := 4) (by simp [cellsQ]) (.string h)).set (o := 5) (by simp [cellsQ]) (.string ⟨#[]⟩)).set (o := 6) (by simp [cellsQ]) (.slice none 0 0)).set (o := 7) (by simp [cellsQ]) (.slice none 0 0)).set (o := 8) (by simp [cellsQ]) (.slice none 0 0)).set (o := 9) (by simp [cellsQ]) (.int .i64 0))
    have C8 : Below w.heap.size w ((((((((((W8.setCell ⟨r, 0, none⟩ (.int .i64 c)).setCell ⟨r, 1, none⟩ (.string ⟨#[]⟩)).setCell ⟨r, 2, none⟩ (.slice none 0 0)).setCell ⟨r, 3, none⟩ (.slice none 0 0)).setCell ⟨r, 4, none⟩ (.string h)).setCell ⟨r, 5, none⟩ (.string ⟨#[]⟩)).setCell ⟨r, 6, none⟩ (.slice none 0 0)).setCell ⟨r, 7, none⟩ (.slice none 0 0)).setCell ⟨r, 8, none⟩ (.slice none 0 0)).setCell ⟨r, 9, none⟩ (.int .i64 0)) := ((((((((((B8.setCell (p := ⟨r, 0, none⟩) lr _).setCell (p := ⟨r, 1, none⟩) lr _).setCell (p := ⟨r, 2, none⟩) lr _).setCell (p := ⟨r, 3, none⟩) lr _).setCell (p := ⟨r, 4, none⟩) lr _).setCell (p := ⟨r, 5, none⟩) lr _).setCell (p := ⟨r, 6, none⟩) lr _).setCell (p := ⟨r, 7, none⟩) lr _).setCell (p := ⟨r, 8, none⟩) lr _).setCell (p := ⟨r, 9, none⟩) lr _)
    replace P : Rs ((((((((((W8.setCell ⟨r, 0, none⟩ (.int .i64 c)).setCell ⟨r, 1, none⟩ (.string ⟨#[]⟩)).setCell ⟨r, 2, none⟩ (.slice none 0 0)).setCell ⟨r, 3, none⟩ (.slice none 0 0)).setCell ⟨r, 4, none⟩ (.string h)).setCell ⟨r, 5, none⟩ (.string ⟨#[]⟩)).setCell ⟨r, 6, none⟩ (.slice none 0 0)).setCell ⟨r, 7, none⟩ (.slice none 0 0)).setCell ⟨r, 8, none⟩ (.slice none 0 0)).setCell ⟨r, 9, none⟩ (.int .i64 0)) _ (cellsQ c h) := rsS nP_r P
    replace Q : Rs ((((((((((W8.setCell ⟨r, 0, none⟩ (.int .i64 c)).setCell ⟨r, 1, none⟩ (.string ⟨#[]⟩)).setCell ⟨r, 2, none⟩ (.slice none 0 0)).setCell ⟨r, 3, none⟩ (.slice none 0 0)).setCell ⟨r, 4, none⟩ (.string h)).setCell ⟨r, 5, none⟩ (.string ⟨#[]⟩)).setCell ⟨r, 6, none⟩ (.slice none 0 0)).setCell ⟨r, 7, none⟩ (.slice none 0 0)).setCell ⟨r, 8, none⟩ (.slice none 0 0)).setCell ⟨r, 9, none⟩ (.int .i64 0)) _ (cellsQ c h) := rsS nQ_r Q
    obtain ⟨V8, hV8⟩ : ∃ W, ((((((((((W8.setCell ⟨r, 0, none⟩ (.int .i64 c)).setCell ⟨r, 1, none⟩ (.string ⟨#[]⟩)).setCell ⟨r, 2, none⟩ (.slice none 0 0)).setCell ⟨r, 3, none⟩ (.slice none 0 0)).setCell ⟨r, 4, none⟩ (.string h)).setCell ⟨r, 5, none⟩ (.string ⟨#[]⟩)).setCell ⟨r, 6, none⟩ (.slice none 0 0)).setCell ⟨r, 7, none⟩ (.slice none 0 0)).setCell ⟨r, 8, none⟩ (.slice none 0 0)).setCell ⟨r, 9, none⟩ (.int .i64 0)) = W := ⟨_, rfl⟩
    rw [hV8] at RF C8 P Q ⊢
    have T : Rs V8 r (cellsQ c h) := fun j v hj => RF.at_ j v hj
    clear hV8 RF RW8 B8
    obtain ⟨x0, x1, x2, x3, x4, x5, x6, x7, x8, x9⟩ := ten P
    obtain ⟨y0, y1, y2, y3, y4, y5, y6, y7, y8, y9⟩ := ten T
    go_wp2_with fail
    clear x0 x1 x2 x3 x4 x5 x6 x7 x8 x9
    clear y0 y1 y2 y3 y4 y5 y6 y7 y8 y9
    refine (hE _).mono ?_; rintro e w9 ⟨rfl, b0⟩
    have B9 := C8.trans (b0.mono C8.size)
    replace Q := rsB b0 Q
    clear b0 C8
    obtain ⟨y0, y1, y2, y3, y4, y5, y6, y7, y8, y9⟩ := ten Q
    go_wp2_with fail
    clear y0 y1 y2 y3 y4 y5 y6 y7 y8 y9
    refine (hH _).mono ?_; rintro e wA ⟨rfl, bA⟩
    have BA := B9.trans (bA.mono B9.size)
    clear bA B9 Q
    go_wp2
    go_ret
    exact ⟨rfl, BA⟩

set_option linter.unusedVariables false
theorem laidOut : laidOutB Try.prog = true := by kernel_rfl
theorem own : ownKnob Try.prog.godebug = none := by kernel_rfl
set_option maxRecDepth 100000 in
theorem lifted (os : Os) (started : os.Started) (H : Type) (enc : TypeId × Value → H) :
    ReturnsInHanded {} Try.checked os 6 .any (Rows.fnExactNewRepoSpec.pre6 enc Try.prog Try.f6 Rows.fnExactNewRepoRow.domain false) (Rows.fnExactNewRepoSpec.post enc Try.prog Try.f6 false true false false) := by
  refine returnsInHanded_of_change (C := Try.checked) own started (by kernel_rfl) Try.func6
    (ChangeSpec.witness6 (enc := enc) (C := Try.checked) false ⟨#[], #[.string ByteArray.empty], []⟩ 8 (by kernel_rfl) (by kernel_rfl) (by kernel_rfl) (by kernel_rfl)) ?_
  intro W base args ds gs before hval0 hW hcnd _
  have hval : ∀ (j : Nat) t v, Try.f6.params[j]? = some t → args[j]? = some v → Value.okWide Try.prog W .any base t v := hval0
  have hW' := hW
  obtain ⟨p, q, hA0, hV, rfl, hfz, hnd⟩ := hW
  have hA : DataW.TrodAll enc Try.prog W 0 (fun _ => true) true Try.f6.params.toList args.toList ds p := hA0
  rw [Try.params6] at hA hval
  obtain ⟨v0, vs0, d0, ds0, p0, q0, hargs, rfl, rfl, h0, r0⟩ := trodAll_cons hA
  obtain ⟨rfl, rfl, rfl⟩ := trodAll_nil r0
  obtain rfl : args = #[v0] := by cases args; simp_all
  obtain ⟨rfl, rfl⟩ := trodVars_none hV
  obtain ⟨a0, rfl, rfl, rfl, w0⟩ := open_string Try.underlying9 (hval 0 9 v0 rfl rfl) h0
  clear hA0 hval0
  simp only [List.append_nil] at hW'
  refine (walk a0 w0 W).mono fun e W' ⟨he, bel⟩ => ?_
  subst he
  exact ⟨_, rfl, _, _, _, [], _, [], hW', trodAll_mk1 (shut_bool Try.underlying4 _), (trodAll_cons_mk (shut_string Try.underlying9 w0) trodAll_mk0), rfl, bel.frame _, fun h => by cases h⟩

theorem over : Rows.fnExactNewRepoRow.holds Try.pinned (OpenSpec.ofChange Rows.fnExactNewRepoSpec) :=
  OpenClaim.holds_of_wide 6 Try.f6 rfl rfl rfl rfl rfl rfl rfl ⟨rfl, rfl, rfl, rfl, rfl⟩ rfl rfl rfl rfl rfl (by kernel_rfl) Try.func6 (by kernel_rfl)
    (of_decide_eq_true (by kernel_rfl)) (by unfold Func.isWrapper; first | (rw [if_pos (by decide +kernel)]; kernel_rfl) | (rw [if_neg (by decide +kernel)]; exact ⟨rfl, rfl⟩))
    (fun os started H enc _ => lifted os started H enc)

theorem proved : Rows.FnExactNewRepoSaid := over
end Go.Proofs.Ytibdlfojoafloaa.NrLaw
namespace Go.Proofs.Ytibdlfojoafloaa
theorem fnExactNewRepo_proved : Rows.FnExactNewRepoSaid := NrLaw.proved
end Go.Proofs.Ytibdlfojoafloaa
