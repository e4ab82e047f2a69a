/- The contracts of next and between (places and lists of three sides). No statement is proved here. -/
import Derived.Test.YtcfnkndbhpdfnaaGreatDoorSTabQ
import Derived.Test.YtcfnkndbhpdfnaaGreatDoorFmCQ
import Derived.Deep.CutRange
import Derived.WalkMore
import Derived.Deep.LoopGhost
namespace Go.Proofs.YtcfnkndbhpdfnaaGreatDoor
open Go.ChangeShapes Go.WideShapes Go.ChangeAt Go.RowKit
def nxTo (a b c : Nat) (k : Nat) : List Value := [.int .i64 (if 0 < k then (a : Int) + 1 else (a : Int)), .int .i64 (if 1 < k then (b : Int) + 1 else (b : Int)), .int .i64 (if 2 < k then (c : Int) + 1 else (c : Int))]
set_option maxRecDepth 20000 in
set_option maxHeartbeats 2000000 in
theorem nextC (a b c : Nat) (w : World) (ha : a <= 1048576) (hb : b <= 1048576) (hc : c <= 1048576) :
  Calls Tryz.prog 174 #[.agg #[.int .i64 a, .int .i64 b, .int .i64 c]] w fun e w' => e = .returned (.agg #[.int .i64 ((a + 1 : Nat) : Int), .int .i64 ((b + 1 : Nat) : Int), .int .i64 ((c + 1 : Nat) : Int)]) /\ Below w.heap.size w w' := by
 obtain ⟨W0, hW0⟩ : ∃ W, w.alloc (.cells #[.int .i64 a, .int .i64 b, .int .i64 c] 219) = W := ⟨_, rfl⟩
 have B0 : Below w.heap.size w W0 := by rw [<- hW0]; exact allocBelow _ _
 have f0 : Rf W0 w.heap.size [.int .i64 a, .int .i64 b, .int .i64 c] := by rw [<- hW0]; exact Rf.new _ _ _
 have z0 : W0.heap.size = w.heap.size + 1 := by rw [<- hW0]; simp
 obtain ⟨W1, hW1⟩ : ∃ W, W0.alloc (.cells #[.int .i64 0, .int .i64 0, .int .i64 0] 219) = W := ⟨_, rfl⟩
 have f1 : Rf W1 (w.heap.size + 1) [.int .i64 0, .int .i64 0, .int .i64 0] := by rw [<- hW1, <- z0]; exact Rf.new _ _ _
 have b1 : Below W0.heap.size W0 W1 := by rw [<- hW1]; exact allocBelow _ _
 replace f0 := f0.below (by omega) b1
 have B1 : Below w.heap.size w W1 := B0.trans (b1.mono (by omega))
 clear B0 b1
 go_enter Tryz.func174, Tryz.ntmps174
 go_wp2
 go_loopw [3, 4] (fun _ i wr => ∃ k : Nat, k <= 3 /\ i = .int .i64 k /\ Rf wr w.heap.size (nxTo a b c k) /\ Rf wr (w.heap.size + 1) [.int .i64 0, .int .i64 0, .int .i64 0] /\ Below w.heap.size w wr) (fun _ i _ => 3 - (intOf i).toNat)
 case atStart => exact ⟨0, by omega, rfl, f0, f1, B1⟩
 case round =>
  clear f0 f1 B1 hW1 hW0
  obtain ⟨k, hk, rfl, hf, hg, hbl⟩ := hrel
  have g0 := hf.fz 0
  have g1 := hf.fz 1
  have g2 := hf.fz 2
  by_cases hlt : k < 3
  ·have hk3 : k = 0 \/ k = 1 \/ k = 2 := by omega
   rcases hk3 with rfl | rfl | rfl
   ·have d : wr.cell? ⟨w.heap.size, 0, none⟩ = some (.int .i64 (a : Int)) := hf.at_ 0 _ rfl
    have HF : Hid (Rf (wr.setCell ⟨w.heap.size, 0, none⟩ (.int .i64 ((a : Int) + 1))) w.heap.size (nxTo a b c 1)) := hf.set (o := 0) (by simp [nxTo]) _
    have HG : Hid (Rf (wr.setCell ⟨w.heap.size, 0, none⟩ (.int .i64 ((a : Int) + 1))) (w.heap.size + 1) [.int .i64 0, .int .i64 0, .int .i64 0]) := hg.other (by omega) _
    have HB : Hid (Below w.heap.size w (wr.setCell ⟨w.heap.size, 0, none⟩ (.int .i64 ((a : Int) + 1)))) := hbl.setCell (p := ⟨w.heap.size, 0, none⟩) (Nat.le_refl _) _
    clear hf hg hbl
    go_wp2
    go_roundw
    case rel => exact ⟨1, by omega, rfl, HF.out, HG.out, HB.out⟩
    case measure => simp [intOf]
   ·have d : wr.cell? ⟨w.heap.size, 1, none⟩ = some (.int .i64 (b : Int)) := hf.at_ 1 _ rfl
    have HF : Hid (Rf (wr.setCell ⟨w.heap.size, 1, none⟩ (.int .i64 ((b : Int) + 1))) w.heap.size (nxTo a b c 2)) := hf.set (o := 1) (by simp [nxTo]) _
    have HG : Hid (Rf (wr.setCell ⟨w.heap.size, 1, none⟩ (.int .i64 ((b : Int) + 1))) (w.heap.size + 1) [.int .i64 0, .int .i64 0, .int .i64 0]) := hg.other (by omega) _
    have HB : Hid (Below w.heap.size w (wr.setCell ⟨w.heap.size, 1, none⟩ (.int .i64 ((b : Int) + 1)))) := hbl.setCell (p := ⟨w.heap.size, 1, none⟩) (Nat.le_refl _) _
    clear hf hg hbl
    go_wp2
    go_roundw
    case rel => exact ⟨2, by omega, rfl, HF.out, HG.out, HB.out⟩
    case measure => simp [intOf]
   ·have d : wr.cell? ⟨w.heap.size, 2, none⟩ = some (.int .i64 (c : Int)) := hf.at_ 2 _ rfl
    have HF : Hid (Rf (wr.setCell ⟨w.heap.size, 2, none⟩ (.int .i64 ((c : Int) + 1))) w.heap.size (nxTo a b c 3)) := hf.set (o := 2) (by simp [nxTo]) _
    have HG : Hid (Rf (wr.setCell ⟨w.heap.size, 2, none⟩ (.int .i64 ((c : Int) + 1))) (w.heap.size + 1) [.int .i64 0, .int .i64 0, .int .i64 0]) := hg.other (by omega) _
    have HB : Hid (Below w.heap.size w (wr.setCell ⟨w.heap.size, 2, none⟩ (.int .i64 ((c : Int) + 1)))) := hbl.setCell (p := ⟨w.heap.size, 2, none⟩) (Nat.le_refl _) _
    clear hf hg hbl
    go_wp2
    go_roundw
    case rel => exact ⟨3, by omega, rfl, HF.out, HG.out, HB.out⟩
    case measure => simp [intOf]
  ·obtain rfl : k = 3 := by omega
   have d0 : wr.cell? ⟨w.heap.size, 0, none⟩ = some (.int .i64 ((a : Int) + 1)) := hf.at_ 0 _ rfl
   have d1 : wr.cell? ⟨w.heap.size, 1, none⟩ = some (.int .i64 ((b : Int) + 1)) := hf.at_ 1 _ rfl
   have d2 : wr.cell? ⟨w.heap.size, 2, none⟩ = some (.int .i64 ((c : Int) + 1)) := hf.at_ 2 _ rfl
   have e0 := hg.at_ 0 _ rfl
   have e1 := hg.at_ 1 _ rfl
   have e2 := hg.at_ 2 _ rfl
   have v0 := hg.fz 0
   have v1 := hg.fz 1
   have v2 := hg.fz 2
   have HB : Hid (Below w.heap.size w (((wr.setCell ⟨w.heap.size + 1, 0, none⟩ (.int .i64 ((a : Int) + 1))).setCell ⟨w.heap.size + 1, 1, none⟩ (.int .i64 ((b : Int) + 1))).setCell ⟨w.heap.size + 1, 2, none⟩ (.int .i64 ((c : Int) + 1)))) :=
    ((hbl.setCell (p := ⟨w.heap.size + 1, 0, none⟩) (by show _ <= w.heap.size + 1; omega) _).setCell (p := ⟨w.heap.size + 1, 1, none⟩) (by show _ <= w.heap.size + 1; omega) _).setCell (p := ⟨w.heap.size + 1, 2, none⟩) (by show _ <= w.heap.size + 1; omega) _
   clear hf hg hbl
   go_wp2
   refine bodyPost_ret (v := .agg #[.int .i64 ((a : Int) + 1), .int .i64 ((b : Int) + 1), .int .i64 ((c : Int) + 1)]) (by simp [results, Tryz.results174, go_sem, e0, e1, e2]) rfl ?_
   exact ⟨rfl, HB.out⟩
def segA (a : Option Addr) (c f : Nat) : Option Addr := if c = f then a else a.map (·.add f)
def segV (a : Option Addr) (c f t : Nat) : Value := .slice (segA a c f) (t - f) (c - f)
def btTo (a1 a2 a3 : Option Addr) (n1 n2 n3 c1 c2 c3 f1 f2 f3 t1 t2 t3 k : Nat) : List Value :=
 [if 0 < k then segV a1 c1 f1 t1 else .slice a1 n1 c1, if 1 < k then segV a2 c2 f2 t2 else .slice a2 n2 c2, if 2 < k then segV a3 c3 f3 t3 else .slice a3 n3 c3]
set_option maxRecDepth 20000 in
set_option maxHeartbeats 4000000 in
theorem betweenC (a1 a2 a3 : Option Addr) (n1 n2 n3 c1 c2 c3 f1 f2 f3 t1 t2 t3 : Nat) (w : World) (u1 : f1 <= t1) (u2 : f2 <= t2) (u3 : f3 <= t3) (x1 : t1 <= n1) (x2 : t2 <= n2) (x3 : t3 <= n3) (y1 : n1 <= c1) (y2 : n2 <= c2) (y3 : n3 <= c3) :
  Calls Tryz.prog 176 #[.agg #[.slice a1 n1 c1, .slice a2 n2 c2, .slice a3 n3 c3], .agg #[.int .i64 f1, .int .i64 f2, .int .i64 f3], .agg #[.int .i64 t1, .int .i64 t2, .int .i64 t3]] w fun e w' => e = .returned (.agg #[segV a1 c1 f1 t1, segV a2 c2 f2 t2, segV a3 c3 f3 t3]) /\ Below w.heap.size w w' := by
 obtain ⟨W0, hW0⟩ : ∃ W, w.alloc (.cells #[.slice a1 n1 c1, .slice a2 n2 c2, .slice a3 n3 c3] 194) = W := ⟨_, rfl⟩
 have B0 : Below w.heap.size w W0 := by rw [<- hW0]; exact allocBelow _ _
 have r0 : Rf W0 w.heap.size [.slice a1 n1 c1, .slice a2 n2 c2, .slice a3 n3 c3] := by rw [<- hW0]; exact Rf.new _ _ _
 have z0 : W0.heap.size = w.heap.size + 1 := by rw [<- hW0]; simp
 obtain ⟨W1, hW1⟩ : ∃ W, W0.alloc (.cells #[.int .i64 f1, .int .i64 f2, .int .i64 f3] 219) = W := ⟨_, rfl⟩
 have r1 : Rf W1 (w.heap.size + 1) [.int .i64 f1, .int .i64 f2, .int .i64 f3] := by rw [<- hW1, <- z0]; exact Rf.new _ _ _
 have b1 : Below W0.heap.size W0 W1 := by rw [<- hW1]; exact allocBelow _ _
 have z1 : W1.heap.size = w.heap.size + 1 + 1 := by rw [<- hW1]; simp [z0]
 obtain ⟨W2, hW2⟩ : ∃ W, W1.alloc (.cells #[.int .i64 t1, .int .i64 t2, .int .i64 t3] 219) = W := ⟨_, rfl⟩
 have r2 : Rf W2 (w.heap.size + 1 + 1) [.int .i64 t1, .int .i64 t2, .int .i64 t3] := by rw [<- hW2, <- z1]; exact Rf.new _ _ _
 have b2 : Below W1.heap.size W1 W2 := by rw [<- hW2]; exact allocBelow _ _
 have z2 : W2.heap.size = w.heap.size + 1 + 1 + 1 := by rw [<- hW2]; simp [z1]
 obtain ⟨W3, hW3⟩ : ∃ W, W2.alloc (.cells #[.slice none 0 0, .slice none 0 0, .slice none 0 0] 194) = W := ⟨_, rfl⟩
 have r3 : Rf W3 (w.heap.size + 1 + 1 + 1) [.slice none 0 0, .slice none 0 0, .slice none 0 0] := by rw [<- hW3, <- z2]; exact Rf.new _ _ _
 have b3 : Below W2.heap.size W2 W3 := by rw [<- hW3]; exact allocBelow _ _
 replace r2 := r2.below (by omega) b3
 replace r1 := (r1.below (by omega) b2).below (by omega) b3
 replace r0 := ((r0.below (by omega) b1).below (by omega) b2).below (by omega) b3
 have B3 : Below w.heap.size w W3 := ((B0.trans (b1.mono (by omega))).trans (b2.mono (by omega))).trans (b3.mono (by omega))
 have p0 := r0.at_ 0 _ rfl
 have p1 := r0.at_ 1 _ rfl
 have p2 := r0.at_ 2 _ rfl
 clear B0 b1 b2 b3
 have i0 : ∀ w, (Instr.index 194 (.agg #[.slice a1 n1 c1, .slice a2 n2 c2, .slice a3 n3 c3]) (.int .i64 0)).run Tryz.prog w = .ok (.slice a1 n1 c1) w := fun _ => by kernel_rfl
 have i1 : ∀ w, (Instr.index 194 (.agg #[.slice a1 n1 c1, .slice a2 n2 c2, .slice a3 n3 c3]) (.int .i64 1)).run Tryz.prog w = .ok (.slice a2 n2 c2) w := fun _ => by kernel_rfl
 have i2 : ∀ w, (Instr.index 194 (.agg #[.slice a1 n1 c1, .slice a2 n2 c2, .slice a3 n3 c3]) (.int .i64 2)).run Tryz.prog w = .ok (.slice a3 n3 c3) w := fun _ => by kernel_rfl
 go_enter Tryz.func176, Tryz.ntmps176
 go_wp2
 go_loopw [7, 8, 10] (fun _ _ i wr => ∃ k : Nat, k <= 3 /\ i = .int .i64 k /\ Rf wr w.heap.size (btTo a1 a2 a3 n1 n2 n3 c1 c2 c3 f1 f2 f3 t1 t2 t3 k) /\ Rf wr (w.heap.size + 1) [.int .i64 f1, .int .i64 f2, .int .i64 f3] /\ Rf wr (w.heap.size + 1 + 1) [.int .i64 t1, .int .i64 t2, .int .i64 t3] /\ Rf wr (w.heap.size + 1 + 1 + 1) [.slice none 0 0, .slice none 0 0, .slice none 0 0] /\ Below w.heap.size w wr) (fun _ _ i _ => 3 - (intOf i).toNat)
 case atStart => exact ⟨0, by omega, rfl, r0, r1, r2, r3, B3⟩
 case round =>
  clear r0 r1 r2 r3 p0 p1 p2 B3 hW0 hW1 hW2 hW3
  obtain ⟨k, hk, rfl, hf, hg, ht, hr, hbl⟩ := hrel
  have g0 := hf.fz 0
  have g1 := hf.fz 1
  have g2 := hf.fz 2
  by_cases hlt : k < 3
  ·have hk3 : k = 0 \/ k = 1 \/ k = 2 := by omega
   rcases hk3 with rfl | rfl | rfl
   ·have d := hf.at_ 0 _ rfl
    have eF := hg.at_ 0 _ rfl
    have eT := ht.at_ 0 _ rfl
    obtain ⟨A, hV⟩ : ∃ A, (if c1 = f1 then a1 else Option.map (fun x => x.add f1) a1) = A := ⟨_, rfl⟩
    have HF : Hid (Rf (wr.setCell ⟨w.heap.size, 0, none⟩ (.slice A (t1 - f1) (c1 - f1))) w.heap.size (btTo a1 a2 a3 n1 n2 n3 c1 c2 c3 f1 f2 f3 t1 t2 t3 1)) := by rw [<- hV]; exact hf.set (o := 0) (by simp [btTo]) _
    have HG : Hid (Rf (wr.setCell ⟨w.heap.size, 0, none⟩ (.slice A (t1 - f1) (c1 - f1))) (w.heap.size + 1) [.int .i64 f1, .int .i64 f2, .int .i64 f3]) := hg.other (by omega) _
    have HT : Hid (Rf (wr.setCell ⟨w.heap.size, 0, none⟩ (.slice A (t1 - f1) (c1 - f1))) (w.heap.size + 1 + 1) [.int .i64 t1, .int .i64 t2, .int .i64 t3]) := ht.other (by omega) _
    have HR : Hid (Rf (wr.setCell ⟨w.heap.size, 0, none⟩ (.slice A (t1 - f1) (c1 - f1))) (w.heap.size + 1 + 1 + 1) [.slice none 0 0, .slice none 0 0, .slice none 0 0]) := hr.other (by omega) _
    have HB : Hid (Below w.heap.size w (wr.setCell ⟨w.heap.size, 0, none⟩ (.slice A (t1 - f1) (c1 - f1)))) := hbl.setCell (p := ⟨w.heap.size, 0, none⟩) (Nat.le_refl _) _
    have htc : t1 <= c1 := Nat.le_trans x1 y1
    clear hf hg ht hr hbl
    go_wp2
    go_region
    go_wp2
    go_roundw
    case rel => exact ⟨1, by omega, rfl, ⟨HF.out.at_, HF.out.fz⟩, ⟨HG.out.at_, HG.out.fz⟩, ⟨HT.out.at_, HT.out.fz⟩, ⟨HR.out.at_, HR.out.fz⟩, by first | exact HB.out | exact below_drew HB.out⟩
    case measure => simp [intOf]
   ·have d := hf.at_ 1 _ rfl
    have eF := hg.at_ 1 _ rfl
    have eT := ht.at_ 1 _ rfl
    obtain ⟨A, hV⟩ : ∃ A, (if c2 = f2 then a2 else Option.map (fun x => x.add f2) a2) = A := ⟨_, rfl⟩
    have HF : Hid (Rf (wr.setCell ⟨w.heap.size, 1, none⟩ (.slice A (t2 - f2) (c2 - f2))) w.heap.size (btTo a1 a2 a3 n1 n2 n3 c1 c2 c3 f1 f2 f3 t1 t2 t3 2)) := by rw [<- hV]; exact hf.set (o := 1) (by simp [btTo]) _
    have HG : Hid (Rf (wr.setCell ⟨w.heap.size, 1, none⟩ (.slice A (t2 - f2) (c2 - f2))) (w.heap.size + 1) [.int .i64 f1, .int .i64 f2, .int .i64 f3]) := hg.other (by omega) _
    have HT : Hid (Rf (wr.setCell ⟨w.heap.size, 1, none⟩ (.slice A (t2 - f2) (c2 - f2))) (w.heap.size + 1 + 1) [.int .i64 t1, .int .i64 t2, .int .i64 t3]) := ht.other (by omega) _
    have HR : Hid (Rf (wr.setCell ⟨w.heap.size, 1, none⟩ (.slice A (t2 - f2) (c2 - f2))) (w.heap.size + 1 + 1 + 1) [.slice none 0 0, .slice none 0 0, .slice none 0 0]) := hr.other (by omega) _
    have HB : Hid (Below w.heap.size w (wr.setCell ⟨w.heap.size, 1, none⟩ (.slice A (t2 - f2) (c2 - f2)))) := hbl.setCell (p := ⟨w.heap.size, 1, none⟩) (Nat.le_refl _) _
    have htc : t2 <= c2 := Nat.le_trans x2 y2
    clear hf hg ht hr hbl
    go_wp2
    go_region
    go_wp2
    go_roundw
    case rel => exact ⟨2, by omega, rfl, ⟨HF.out.at_, HF.out.fz⟩, ⟨HG.out.at_, HG.out.fz⟩, ⟨HT.out.at_, HT.out.fz⟩, ⟨HR.out.at_, HR.out.fz⟩, by first | exact HB.out | exact below_drew HB.out⟩
    case measure => simp [intOf]
   ·have d := hf.at_ 2 _ rfl
    have eF := hg.at_ 2 _ rfl
    have eT := ht.at_ 2 _ rfl
    obtain ⟨A, hV⟩ : ∃ A, (if c3 = f3 then a3 else Option.map (fun x => x.add f3) a3) = A := ⟨_, rfl⟩
    have HF : Hid (Rf (wr.setCell ⟨w.heap.size, 2, none⟩ (.slice A (t3 - f3) (c3 - f3))) w.heap.size (btTo a1 a2 a3 n1 n2 n3 c1 c2 c3 f1 f2 f3 t1 t2 t3 3)) := by rw [<- hV]; exact hf.set (o := 2) (by simp [btTo]) _
    have HG : Hid (Rf (wr.setCell ⟨w.heap.size, 2, none⟩ (.slice A (t3 - f3) (c3 - f3))) (w.heap.size + 1) [.int .i64 f1, .int .i64 f2, .int .i64 f3]) := hg.other (by omega) _
    have HT : Hid (Rf (wr.setCell ⟨w.heap.size, 2, none⟩ (.slice A (t3 - f3) (c3 - f3))) (w.heap.size + 1 + 1) [.int .i64 t1, .int .i64 t2, .int .i64 t3]) := ht.other (by omega) _
    have HR : Hid (Rf (wr.setCell ⟨w.heap.size, 2, none⟩ (.slice A (t3 - f3) (c3 - f3))) (w.heap.size + 1 + 1 + 1) [.slice none 0 0, .slice none 0 0, .slice none 0 0]) := hr.other (by omega) _
    have HB : Hid (Below w.heap.size w (wr.setCell ⟨w.heap.size, 2, none⟩ (.slice A (t3 - f3) (c3 - f3)))) := hbl.setCell (p := ⟨w.heap.size, 2, none⟩) (Nat.le_refl _) _
    have htc : t3 <= c3 := Nat.le_trans x3 y3
    clear hf hg ht hr hbl
    go_wp2
    go_region
    go_wp2
    go_roundw
    case rel => exact ⟨3, by omega, rfl, ⟨HF.out.at_, HF.out.fz⟩, ⟨HG.out.at_, HG.out.fz⟩, ⟨HT.out.at_, HT.out.fz⟩, ⟨HR.out.at_, HR.out.fz⟩, by first | exact HB.out | exact below_drew HB.out⟩
    case measure => simp [intOf]
  ·obtain rfl : k = 3 := by omega
   obtain ⟨V1, hV1⟩ : ∃ V, segV a1 c1 f1 t1 = V := ⟨_, rfl⟩
   obtain ⟨V2, hV2⟩ : ∃ V, segV a2 c2 f2 t2 = V := ⟨_, rfl⟩
   obtain ⟨V3, hV3⟩ : ∃ V, segV a3 c3 f3 t3 = V := ⟨_, rfl⟩
   have d0 : wr.cell? ⟨w.heap.size, 0, none⟩ = some (segV a1 c1 f1 t1) := hf.at_ 0 _ rfl
   have d1 : wr.cell? ⟨w.heap.size, 1, none⟩ = some (segV a2 c2 f2 t2) := hf.at_ 1 _ rfl
   have d2 : wr.cell? ⟨w.heap.size, 2, none⟩ = some (segV a3 c3 f3 t3) := hf.at_ 2 _ rfl
   have HV : Hid (Ending.returned (.agg #[V1, V2, V3]) = .returned (.agg #[segV a1 c1 f1 t1, segV a2 c2 f2 t2, segV a3 c3 f3 t3])) := by show _ = _; rw [hV1, hV2, hV3]
   rw [hV1] at d0
   rw [hV2] at d1
   rw [hV3] at d2
   have e0 := hr.at_ 0 _ rfl
   have e1 := hr.at_ 1 _ rfl
   have e2 := hr.at_ 2 _ rfl
   have v0 := hr.fz 0
   have v1 := hr.fz 1
   have v2 := hr.fz 2
   have HB : Hid (Below w.heap.size w (((wr.setCell ⟨w.heap.size + 1 + 1 + 1, 0, none⟩ V1).setCell ⟨w.heap.size + 1 + 1 + 1, 1, none⟩ V2).setCell ⟨w.heap.size + 1 + 1 + 1, 2, none⟩ V3)) :=
    ((hbl.setCell (p := ⟨w.heap.size + 1 + 1 + 1, 0, none⟩) (by show _ <= w.heap.size + 1 + 1 + 1; omega) _).setCell (p := ⟨w.heap.size + 1 + 1 + 1, 1, none⟩) (by show _ <= w.heap.size + 1 + 1 + 1; omega) _).setCell (p := ⟨w.heap.size + 1 + 1 + 1, 2, none⟩) (by show _ <= w.heap.size + 1 + 1 + 1; omega) _
   obtain ⟨A1, rfl⟩ : ∃ A1, V1 = .slice A1 (t1 - f1) (c1 - f1) := ⟨_, hV1.symm⟩
   obtain ⟨A2, rfl⟩ : ∃ A2, V2 = .slice A2 (t2 - f2) (c2 - f2) := ⟨_, hV2.symm⟩
   obtain ⟨A3, rfl⟩ : ∃ A3, V3 = .slice A3 (t3 - f3) (c3 - f3) := ⟨_, hV3.symm⟩
   clear hV1 hV2 hV3
   clear hf hg ht hr hbl i0 i1 i2
   go_wp2
   refine bodyPost_ret (v := .agg #[.slice A1 (t1 - f1) (c1 - f1), .slice A2 (t2 - f2) (c2 - f2), .slice A3 (t3 - f3) (c3 - f3)]) (by simp [results, Tryz.results176, go_sem, e0, e1, e2]) rfl ?_
   exact ⟨HV.out, HB.out⟩
end Go.Proofs.YtcfnkndbhpdfnaaGreatDoor
namespace Go.Proofs.YtcfnkndbhpdfnaaGreatDoor
open Go.ChangeShapes Go.WideShapes Go.ChangeAt Go.RowKit
theorem infoPlaces : (Tryz.prog.info? 219).map (fun i => (i.zero, i.size, i.bytes)) = some (some (.agg #[.int .i64 0, .int .i64 0, .int .i64 0]), 3, 24) := by kernel_rfl
def t3z : T3 := (0, 0, 0)
def cells3 (c : T3) : List Value := [.int .i64 (c.1 : Int), .int .i64 (c.2.1 : Int), .int .i64 (c.2.2 : Int)]
def t3Cells : List T3 -> List Value
 | [] => []
 | c :: l => cells3 c ++ t3Cells l
theorem t3Cells_append (l : List T3) (c : T3) : t3Cells (l ++ [c]) = t3Cells l ++ cells3 c := by
 induction l with
 | nil => simp [t3Cells]
 | cons a l ih => simp [t3Cells, ih]
theorem t3Cells_at (l : List T3) : ∀ (k j : Nat), k < l.length -> j < 3 -> (t3Cells l)[k * 3 + j]? = (cells3 (l.getD k t3z))[j]? := by
 induction l with
 | nil => intro k j h; exact absurd h (Nat.not_lt_zero _)
 | cons a l ih =>
  intro k j h hj
  have h4 : (cells3 a).length = 3 := rfl
  cases k with
  | zero =>
   rw [t3Cells, List.getElem?_append_left (by omega)]
   simp
  | succ k =>
   rw [t3Cells, List.getElem?_append_right (by omega), h4, show (k + 1) * 3 + j - 3 = k * 3 + j by omega, ih k j (by simp at h; omega) hj]
   simp
def TP (B : Nat) (w : World) (a : Option Addr) (l : List T3) : Prop :=
 ∀ k, k < l.length -> ∃ g off, a = some ⟨g, off, none⟩ /\ g < B /\ w.cell? ⟨g, off + k * 3, none⟩ = some (.int .i64 ((l.getD k t3z).1 : Int)) /\ w.cell? ⟨g, off + k * 3 + 1, none⟩ = some (.int .i64 ((l.getD k t3z).2.1 : Int)) /\ w.cell? ⟨g, off + k * 3 + 2, none⟩ = some (.int .i64 ((l.getD k t3z).2.2 : Int))
theorem TP.below {B : Nat} {w w' : World} {a : Option Addr} {l : List T3} (h : TP B w a l) (hb : Below w.heap.size w w') : TP B w' a l := fun k hk => by
 obtain ⟨g, off, e, hg, d0, d1, d2⟩ := h k hk
 have hF := Fr.ofBelow (lo := 0) (hi := 0) hb
 exact ⟨g, off, e, hg, hF.cell d0 (.inr (Nat.zero_le _)), hF.cell d1 (.inr (Nat.zero_le _)), hF.cell d2 (.inr (Nat.zero_le _))⟩
theorem TP.belowAt {B C : Nat} {w w' : World} {a : Option Addr} {l : List T3} (h : TP B w a l) (hB : B <= C) (hb : Below C w w') : TP B w' a l := fun k hk => by
 obtain ⟨g, off, e, hg, d0, d1, d2⟩ := h k hk
 have hl : g < C := by omega
 exact ⟨g, off, e, hg, (hb.cell (p := ⟨g, off + k * 3, none⟩) hl).trans d0, (hb.cell (p := ⟨g, off + k * 3 + 1, none⟩) hl).trans d1, (hb.cell (p := ⟨g, off + k * 3 + 2, none⟩) hl).trans d2⟩
theorem TP.mono {B B' : Nat} {w : World} {a : Option Addr} {l : List T3} (h : TP B w a l) (hb : B <= B') : TP B' w a l := fun k hk => by
 obtain ⟨g, off, e, hg, d⟩ := h k hk
 exact ⟨g, off, e, by omega, d⟩
theorem TP.of {w : World} {base c : Nat} {a : Option Addr} {l : List T3} (h : w.ownsRow base 219 3 (.slice a l.length c) l.length (t3Cells l)) : TP w.heap.size w a l := by
 intro k hk
 rcases h.2 with ⟨h', h0⟩ | ⟨g, cap, cur, h', _, hh, _⟩
 ·omega
 ·simp only [Value.slice.injEq] at h'
  obtain ⟨rfl, _, rfl⟩ := h'
  have hc := h.cellAt
  refine ⟨g, 0, rfl, (Array.getElem?_eq_some_iff.1 hh).1, ?_, ?_, ?_⟩
  ·rw [Nat.zero_add, hc (k * 3) (by omega)]; exact t3Cells_at l k 0 hk (by omega)
  ·rw [Nat.zero_add, hc (k * 3 + 1) (by omega)]; exact t3Cells_at l k 1 hk (by omega)
  ·rw [Nat.zero_add, hc (k * 3 + 2) (by omega)]; exact t3Cells_at l k 2 hk (by omega)
theorem getT_drop (l : List T3) (n k : Nat) : (l.drop n).getD k t3z = l.getD (n + k) t3z := by simp [List.getD]
theorem TP.seg {B : Nat} {w : World} {a : Option Addr} {l : List T3} (h : TP B w a l) (n c : Nat) (hc : l.length <= c) : TP B w (if c = n then a else a.map (·.add (n * 3))) (l.drop n) := fun k hk => by
 have hk' : n + k < l.length := by simp at hk; omega
 obtain ⟨g, off, rfl, hg, d0, d1, d2⟩ := h (n + k) hk'
 refine ⟨g, off + n * 3, ?_, hg, ?_, ?_, ?_⟩
 ·rw [if_neg (by omega), Option.map_some, add_plain]
 ·rw [getT_drop, show off + n * 3 + k * 3 = off + (n + k) * 3 by omega]; exact d0
 ·rw [getT_drop, show off + n * 3 + k * 3 = off + (n + k) * 3 by omega]; exact d1
 ·rw [getT_drop, show off + n * 3 + k * 3 = off + (n + k) * 3 by omega]; exact d2
theorem t3_drop (l : List T3) (k : Nat) (h : k < l.length) : l.drop k = l.getD k t3z :: l.drop (k + 1) := by
 rw [List.drop_eq_getElem_cons h]; simp [List.getD, h]
theorem mat_drop (l : List (Nat × Nat)) (k : Nat) (h : k < l.length) : l.drop k = l.getD k (0, 0) :: l.drop (k + 1) := by
 rw [List.drop_eq_getElem_cons h]; simp [List.getD, h]
theorem t3Nil (w : World) (base : Nat) : w.ownsRow base 219 3 (.slice none 0 0) 0 [] := ⟨rfl, .inl ⟨rfl, rfl⟩⟩
theorem ownMono3 {w : World} {base b : Nat} {e : TypeId} {v : Value} {n : Nat} {xs : List Value} (h : w.ownsRow base e 3 v n xs) (hb : b <= base) : w.ownsRow b e 3 v n xs := by
 refine ⟨h.1, ?_⟩
 rcases h.2 with h' | ⟨g, cap, cur, h1, h2, h3⟩
 ·exact .inl h'
 ·exact .inr ⟨g, cap, cur, h1, by omega, h3⟩
def RPk (B : Nat) (w : World) (b1 b2 : Option Addr) (E : List (Nat × Nat)) : Prop :=
 ∀ k, k < E.length -> ∃ g1 g2, b1 = some ⟨g1, 0, none⟩ /\ b2 = some ⟨g2, 0, none⟩ /\ g1 < B /\ g2 < B /\ w.cell? ⟨g1, k, none⟩ = some (.int .i64 ((E.getD k (0, 0)).1 : Int)) /\ w.cell? ⟨g2, k, none⟩ = some (.int .i64 ((E.getD k (0, 0)).2 : Int))
theorem RPk.belowAt {B C : Nat} {w w' : World} {b1 b2 : Option Addr} {E : List (Nat × Nat)} (h : RPk B w b1 b2 E) (hB : B <= C) (hb : Below C w w') : RPk B w' b1 b2 E := fun k hk => by
 obtain ⟨g1, g2, e1, e2, l1, l2, d1, d2⟩ := h k hk
 have q1 : g1 < C := by omega
 have q2 : g2 < C := by omega
 exact ⟨g1, g2, e1, e2, l1, l2, (hb.cell (p := ⟨g1, k, none⟩) q1).trans d1, (hb.cell (p := ⟨g2, k, none⟩) q2).trans d2⟩
theorem Pr.toRPk {base : Nat} {w : World} {v1 v2 : Value} {E : List (Nat × Nat)} (h : Pr base w v1 v2 E) : ∃ b1 c1 b2 c2, v1 = .slice b1 E.length c1 /\ v2 = .slice b2 E.length c2 /\ RPk w.heap.size w b1 b2 E := by
 by_cases hE : 0 < E.length
 ·obtain ⟨g1, c1, g2, c2, e1, e2, hB⟩ := h.toEB hE
  exact ⟨_, c1, _, c2, e1, e2, fun k hk => ⟨g1, g2, rfl, rfl, hB.l1, hB.l2, hB.c1 k hk, hB.c2 k hk⟩⟩
 ·obtain ⟨b1, c1, e1⟩ := shapeS h.o1
  obtain ⟨b2, c2, e2⟩ := shapeS h.o2
  exact ⟨b1, c1, b2, c2, e1, e2, fun k hk => absurd hk (by omega)⟩
def KeptPost (w : World) (l : List T3) (e : Ending) (w' : World) : Prop := ∃ v, e = .returned v /\ w'.ownsRow w.heap.size 219 3 v l.length (t3Cells l) /\ Below w.heap.size w w'
theorem keep3_len (xs ys : List (Nat × Nat)) : (keep3 xs ys).length <= xs.length := by
 have key : ∀ (n : Nat) (xs ys : List (Nat × Nat)), xs.length + ys.length <= n -> (keep3 xs ys).length <= xs.length := by
  intro n
  induction n with
  | zero => intro xs ys h; have e : xs = [] := List.length_eq_zero_iff.1 (by omega); subst e; rw [keep3_nil_left]; simp
  | succ n ih =>
   intro xs ys h
   cases xs with
   | nil => rw [keep3_nil_left]; simp
   | cons p xs =>
    cases ys with
    | nil => rw [keep3_nil_right]; simp
    | cons r ys =>
     obtain ⟨p, q⟩ := p
     obtain ⟨r, s⟩ := r
     simp only [List.length_cons] at h
     rcases Nat.lt_trichotomy p r with hl | rfl | hl
     ·rw [keep3_lt _ _ hl]; have := ih xs ((r, s) :: ys) (by simp; omega); simp only [List.length_cons]; omega
     ·rw [keep3_eq]; have := ih xs ys (by omega); simp only [List.length_cons]; omega
     ·rw [keep3_gt _ _ hl]; exact ih ((p, q) :: xs) ys (by simp; omega)
 exact key _ xs ys (Nat.le_refl _)
set_option maxRecDepth 20000 in
set_option maxHeartbeats 4000000 in
theorem keptPlaces (a1 a2 a3 : Option Addr) (c1 c2 c3 : Nat) (x1 x2 x3 : List ByteArray) (w : World) (h1 : SS w a1 x1) (h2 : SS w a2 x2) (h3 : SS w a3 x3) (n1 : x1.length <= 100) (n2 : x2.length <= 100) (n3 : x3.length <= 100) :
  Calls Tryz.prog 158 #[.agg #[.slice a1 x1.length c1, .slice a2 x2.length c2, .slice a3 x3.length c3]] w fun e w' => KeptPost w (keep3 (mat x1 x2 0 0) (mat x1 x3 0 0)) e w' := by
 obtain ⟨i1, hi', hy0, hy1, hy2⟩ := info_parts infoPlaces
 have hA := fun W p q => matchedPlaces a1 a2 c1 c2 x1 x2 W p q n1 n2
 have hB := fun W p q => matchedPlaces a1 a3 c1 c3 x1 x3 W p q n1 n3
 have hml := mat_length x1 x2 _ 0 0 (Nat.le_refl _)
 have hcl := (comAt_le x1 x2 0 0).1
 have hM : (mat x1 x2 0 0).length <= 100 := by omega
 have hml2 := mat_length x1 x3 _ 0 0 (Nat.le_refl _)
 have hcl2 := (comAt_le x1 x3 0 0).1
 have hM2 : (mat x1 x3 0 0).length <= 100 := by omega
 clear hml hcl hml2 hcl2
 generalize mat x1 x2 0 0 = M1 at hA hM ⊢
 generalize mat x1 x3 0 0 = M2 at hB hM2 ⊢
 have HK0 : Hid (([] : List T3) ++ keep3 (M1.drop 0) (M2.drop 0) = keep3 M1 M2) := rfl
 obtain ⟨KL, hKL⟩ : ∃ KL, keep3 M1 M2 = KL := ⟨_, rfl⟩
 rw [hKL] at HK0 ⊢
 have HLn : Hid (KL.length <= 100) := by show _ <= _; rw [<- hKL]; have := keep3_len M1 M2; omega
 clear hKL
 obtain ⟨W0, hW0⟩ : ∃ W, w.alloc (.cells #[.slice a1 x1.length c1, .slice a2 x2.length c2, .slice a3 x3.length c3] 194) = W := ⟨_, rfl⟩
 have B0 : Below w.heap.size w W0 := by rw [<- hW0]; exact allocBelow _ _
 have r0 : Rs W0 w.heap.size [.slice a1 x1.length c1, .slice a2 x2.length c2, .slice a3 x3.length c3] := by rw [<- hW0]; exact Rs.new _ _ _
 have S1 := h1.toB.below B0
 have S2 := h2.toB.below B0
 have S3 := h3.toB.below B0
 have s0 := B0.size
 have p0 := r0 0 _ rfl
 have p1 := r0 1 _ rfl
 clear h1 h2 h3
 go_enter Tryz.func158, Tryz.ntmps158
 go_wp2_with fail
 refine (hA _ (S1.toSS s0) (S2.toSS s0)).mono ?_; rintro e w1 ⟨v1, v2, rfl, hP, b1⟩
 have s1 := b1.size
 have F1 := Fr.ofBelow (lo := 0) (hi := 0) b1
 have q0 := F1.cell p0 (.inr (Nat.zero_le _))
 have q2 := F1.cell (r0 2 _ rfl) (.inr (Nat.zero_le _))
 have T1 := S1.below b1
 have T3' := S3.below b1
 have B1 := below_step B0 s0 b1
 clear hA S1 S2 S3 B0 p0 p1 r0 F1 hW0
 go_wp2_with fail
 refine (hB _ (T1.toSS (by omega)) (T3'.toSS (by omega))).mono ?_; rintro e w2 ⟨v3, v4, rfl, hQ, b2⟩
 have s2 := b2.size
 have B2 := below_step B1 (by omega) b2
 obtain ⟨g1, d1, g2, d2, rfl, rfl, R1⟩ := (hP.below b2).toRPk
 obtain ⟨g3, d3, g4, d4, rfl, rfl, R2⟩ := hQ.toRPk
 clear hB T1 T3' B1 hP hQ b1 b2 q0 q2
 go_wp2
 go_loopw [7, 8, 9] (fun v vi vj wr => ∃ (i j : Nat) (l : List T3), i <= M1.length /\ j <= M2.length /\ vi = .int .i64 (i : Int) /\ vj = .int .i64 (j : Int) /\ l.length <= i /\ Hid (l ++ keep3 (M1.drop i) (M2.drop j) = KL) /\ wr.ownsRow w2.heap.size 219 3 v l.length (t3Cells l) /\ Below w2.heap.size w2 wr) (fun _ vi vj _ => (M1.length - (intOf vi).toNat) + (M2.length - (intOf vj).toNat))
 case atStart => exact ⟨0, 0, [], Nat.zero_le _, Nat.zero_le _, rfl, rfl, Nat.zero_le _, HK0, t3Nil _ _, Below.refl _ _⟩
 case round =>
  clear HK0
  obtain ⟨i, j, l, hi, hj, rfl, rfl, hl, hL, hown, hbel⟩ := hrel
  have hsz := hbel.size
  by_cases hlt : i < M1.length
  ·have qi : (i : Int) < (M1.length : Int) := by omega
   by_cases hlt2 : j < M2.length
   ·have qj : (j : Int) < (M2.length : Int) := by omega
    obtain ⟨k1, k2, rfl, rfl, l1, l2, m1, m2⟩ := R1.belowAt (Nat.le_refl _) hbel i hlt
    obtain ⟨k3, k4, rfl, rfl, l3, l4, m3, m4⟩ := R2.belowAt (Nat.le_refl _) hbel j hlt2
    have hd1 := mat_drop M1 i hlt
    have hd2 := mat_drop M2 j hlt2
    obtain ⟨C, hC⟩ : ∃ C, M1.getD i (0, 0) = C := ⟨_, rfl⟩
    obtain ⟨D, hD⟩ : ∃ D, M2.getD j (0, 0) = D := ⟨_, rfl⟩
    obtain ⟨P, Q⟩ := C
    obtain ⟨R, T⟩ := D
    rw [hC] at m1 m2 hd1
    rw [hD] at m3 m4 hd2
    simp only [] at m1 m2 m3 m4
    have hL' := hL.out
    rw [hd1, hd2] at hL'
    have HLT : P < R -> Hid (l ++ keep3 (M1.drop (i + 1)) (M2.drop j) = KL) := fun h => by show _ = _; rw [<- hL', keep3_lt _ _ h, hd2]
    have HGT : R < P -> Hid (l ++ keep3 (M1.drop i) (M2.drop (j + 1)) = KL) := fun h => by show _ = _; rw [<- hL', keep3_gt _ _ h, hd1]
    have HEQ : P = R -> Hid ((l ++ [(P, Q, T)]) ++ keep3 (M1.drop (i + 1)) (M2.drop (j + 1)) = KL) := fun h => by show _ = _; subst h; rw [<- hL', keep3_eq, List.append_assoc]; rfl
    clear hL hL' hd1 hd2 hC hD
    rcases Nat.lt_trichotomy P R with hlt3 | heq | hgt
    ·have HN := HLT hlt3
     have qq : (P : Int) < (R : Int) := by omega
     clear HLT HGT HEQ
     go_wp2
     go_region
     go_wp2
     go_roundw
     case rel => exact ⟨i + 1, j, l, by omega, hj, by first | rfl | go_num, rfl, by omega, HN, by first | exact hown | exact hown.drew | exact hown.drewN _ | exact hown.drew.drew, by first | exact hbel | exact below_drew hbel | exact below_drewN' hbel _ | exact below_drew (below_drew hbel)⟩
     case measure => first | (simp [intOf]; omega) | simp [intOf]
    ·have HN := HEQ heq
     clear HLT HGT HEQ
     subst heq
     have qq : ¬ (P : Int) < (P : Int) := by omega
     have qr := qq
     have hvo : ∀ j, u7.ownBlock = some j -> w2.heap.size <= j := fun j hj => (hown.lt j hj).1
     go_wp2
     go_region
     go_wp2
     go_region
     go_upto_region 6 with fail
     obtain ⟨V, hV⟩ : ∃ V, wr.drew.drew = V := ⟨_, rfl⟩
     have ownV : V.ownsRow w2.heap.size 219 3 u7 l.length (t3Cells l) := by rw [<- hV]; exact hown.drew.drew
     have belV : Below w2.heap.size w2 V := by rw [<- hV]; exact below_drew (below_drew hbel)
     have m1V : V.cell? ⟨k1, i, none⟩ = some (.int .i64 (P : Int)) := by rw [<- hV]; exact m1
     have m2V : V.cell? ⟨k2, i, none⟩ = some (.int .i64 (Q : Int)) := by rw [<- hV]; exact m2
     have m4V : V.cell? ⟨k4, j, none⟩ = some (.int .i64 (T : Int)) := by rw [<- hV]; exact m4
     have szV := belV.size
     rw [hV]
     clear hV m1 m2 m3 m4 hown hbel qq qr
     go_region_law (refine step_append_own rfl (.tmp 36) (.tmp 50) 199 rfl w2.heap.size 219 i1 (.agg #[.int .i64 0, .int .i64 0, .int .i64 0]) 3 24 Tryz.underlying199 hi' hy0 hy1 hy2 rfl (by decide) _ _ _ rfl ((ownV.alloc _).drew) ⟨V.heap.size, 0, none⟩ 1 1 [.int .i64 (P : Int), .int .i64 (Q : Int), .int .i64 (T : Int)] rfl rfl (newsRs (w := (V.alloc (.cells #[.int .i64 (P : Int), .int .i64 (Q : Int), .int .i64 (T : Int)] 219)).drew) (Rs.new V #[.int .i64 (P : Int), .int .i64 (Q : Int), .int .i64 (T : Int)] 219)) (by simp [Value.oneCell']) (by unfold maxLen; omega) (by omega) (by show _ <= (V.alloc _).heap.size; simp; omega) ?_; intro v' W4 p4 g4)
     all_goals
      have z4 : (V.alloc (.cells #[.int .i64 (P : Int), .int .i64 (Q : Int), .int .i64 (T : Int)] 219)).heap.size <= W4.heap.size := g4.size
      simp only [World.size_alloc] at z4
      have m5 := g4.cell (show ((V.alloc (.cells #[.int .i64 (P : Int), .int .i64 (Q : Int), .int .i64 (T : Int)] 219)).drew).cell? ⟨k1, i, none⟩ = some (.int .i64 (P : Int)) from (grownAlloc V _).cell m1V (by simp)) (fun e => by have t1 : w2.heap.size <= k1 := hvo k1 e.symm; omega)
      have HO : Hid (W4.ownsRow w2.heap.size 219 3 v' (l ++ [(P, Q, T)]).length (t3Cells (l ++ [(P, Q, T)]))) := by
       show World.ownsRow _ _ _ _ _ _ _
       rw [t3Cells_append, List.length_append]
       exact p4
      have HB2 : Hid (Below w2.heap.size w2 W4) := ((belV.alloc (by omega) _).drew).grown g4 (by show _ <= (V.alloc _).heap.size; simp; omega) (fun k hk => hvo k hk)
      clear p4 g4 z4 ownV belV hvo m1V m2V m4V m5
      go_wp2
      go_roundw
      case rel => exact ⟨i + 1, j + 1, _, by omega, by omega, by first | rfl | go_num, by first | rfl | go_num, by simp; omega, HN, HO.out, HB2.out⟩
      case measure => first | (simp [intOf]; omega) | simp [intOf]
    ·have HN := HGT hgt
     have qq : ¬ (P : Int) < (R : Int) := by omega
     have qr : (R : Int) < (P : Int) := by omega
     clear HLT HGT HEQ
     go_wp2
     go_region
     go_wp2
     go_region
     go_wp2
     go_roundw
     case rel => exact ⟨i, j + 1, l, hi, by omega, rfl, by first | rfl | go_num, by omega, HN, by first | exact hown | exact hown.drew | exact hown.drewN _ | exact hown.drew.drew, by first | exact hbel | exact below_drew hbel | exact below_drewN' hbel _ | exact below_drew (below_drew hbel)⟩
     case measure => first | (simp [intOf]; omega) | simp [intOf]
   ·have qj : ¬ (j : Int) < (M2.length : Int) := by omega
    have HE : Hid (l = KL) := by
     have := hL.out
     rw [show M2.drop j = [] from List.drop_of_length_le (by omega), keep3_nil_right, List.append_nil] at this
     exact this
    have HF : Hid (KeptPost w KL (.returned u7) wr) := by
     show KeptPost _ _ _ _
     rw [<- HE.out]
     exact ⟨u7, rfl, ownMono3 hown (by omega), below_step B2 (by omega) hbel⟩
    clear hL hown hbel HE
    go_wp2
    go_ret
    exact HF.out
  ·have qi : ¬ (i : Int) < (M1.length : Int) := by omega
   have HE : Hid (l = KL) := by
    have := hL.out
    rw [show M1.drop i = [] from List.drop_of_length_le (by omega), keep3_nil_left, List.append_nil] at this
    exact this
   have HF : Hid (KeptPost w KL (.returned u7) wr) := by
    show KeptPost _ _ _ _
    rw [<- HE.out]
    exact ⟨u7, rfl, ownMono3 hown (by omega), below_step B2 (by omega) hbel⟩
   clear hL hown hbel HE
   go_wp2
   go_ret
   exact HF.out
end Go.Proofs.YtcfnkndbhpdfnaaGreatDoor
namespace Go.Proofs.YtcfnkndbhpdfnaaGreatDoor
open Go.ChangeShapes Go.WideShapes Go.ChangeAt Go.RowKit
def T3s (l : List T3) : Prop := ∀ p ∈ l, p.1 <= 1048576 /\ p.2.1 <= 1048576 /\ p.2.2 <= 1048576
theorem t3_mem (l : List T3) (k : Nat) (hk : k < l.length) : l.getD k t3z ∈ l := by
 rw [List.getD, List.getElem?_eq_getElem hk]; exact List.getElem_mem hk
theorem bneTK {a b : Int} (h : a = b) : (a != b) = false := by simp [h]
theorem bneFK {a b : Int} (h : ¬ a = b) : (a != b) = true := by simp [h]
theorem tog_step {L : List T3} {k n : Nat} (hk : k < L.length) (h : n = k + tog (L.getD (k - 1) t3z) (L.drop k)) (e : L.getD k t3z = nx (L.getD (k - 1) t3z)) : n = (k + 1) + tog (L.getD (k + 1 - 1) t3z) (L.drop (k + 1)) := by
 rw [t3_drop L k hk, e, tog_yes] at h
 rw [Nat.add_sub_cancel, e]
 omega
theorem tog_stop {L : List T3} {k n : Nat} (hk : k < L.length) (h : n = k + tog (L.getD (k - 1) t3z) (L.drop k)) (e : ¬ L.getD k t3z = nx (L.getD (k - 1) t3z)) : n = k := by
 rw [t3_drop L k hk, tog_no _ e] at h
 omega
set_option maxRecDepth 20000 in
set_option maxHeartbeats 4000000 in
theorem keptTogether (a : Option Addr) (c : Nat) (p : T3) (r L : List T3) (hL : L = p :: r) (w : World) (h : TP w.heap.size w a L) (hs : T3s L) (hn : L.length <= 1048576) :
  Calls Tryz.prog 173 #[.slice a L.length c] w fun e w' => e = .returned (.int .i64 ((tog p r + 1 : Nat) : Int)) /\ Below w.heap.size w w' := by
 have H0 : Hid (tog p r + 1 = 1 + tog (L.getD (1 - 1) t3z) (L.drop 1)) := by show _ = _; rw [hL]; simp only [List.drop_succ_cons, List.drop_zero, Nat.sub_self, List.getD_cons_zero]; omega
 obtain ⟨R, hR⟩ : ∃ R, tog p r + 1 = R := ⟨_, rfl⟩
 rw [hR] at H0 ⊢
 have hlen : 1 <= L.length := by rw [hL]; simp
 clear hR hL
 go_enter Tryz.func173, Tryz.ntmps173
 go_wp2
 go_step3
 go_wp2
 go_step3
 go_wp2
 go_loopw [3, 4, 5, 6] (fun i _ _ _ wr => ∃ k : Nat, 1 <= k /\ k <= L.length /\ i = .int .i64 k /\ Below w.heap.size w wr /\ Hid (R = k + tog (L.getD (k - 1) t3z) (L.drop k))) (fun i _ _ _ _ => L.length - (intOf i).toNat)
 case atStart => exact ⟨1, Nat.le_refl _, hlen, rfl, Below.refl _ _, H0⟩
 case round =>
  obtain ⟨k, hk1, hk, rfl, hbel, h0⟩ := hrel
  clear H0
  have hsz := hbel.size
  by_cases hlt : k < L.length
  ·have q : (k : Int) < (L.length : Int) := by omega
   have hstep := fun e => tog_step hlt h0.out e
   have hstop := fun e => tog_stop hlt h0.out e
   have hmp := hs _ (t3_mem L (k - 1) (by omega))
   obtain ⟨g, off, e, hg, d0, d1, d2⟩ := h.below hbel (k - 1) (by omega)
   obtain ⟨g', off', e', hg', f0, f1, f2⟩ := h.below hbel k hlt
   rw [e] at e'
   simp only [Option.some.injEq, Addr.mk.injEq] at e'
   obtain ⟨rfl, rfl, _⟩ := e'
   subst e
   have hk0 : ((k - 1 : Nat) : Int) = (k : Int) - 1 := by omega
   obtain ⟨X, hX⟩ : ∃ X, L.getD (k - 1) t3z = X := ⟨_, rfl⟩
   obtain ⟨Y, hY⟩ : ∃ Y, L.getD k t3z = Y := ⟨_, rfl⟩
   obtain ⟨x0, x1, x2⟩ := X
   obtain ⟨y0, y1, y2⟩ := Y
   rw [hX] at d0 d1 d2 hmp hstep hstop
   rw [hY] at f0 f1 f2 hstep hstop
   simp only [] at d0 d1 d2 f0 f1 f2 hmp
   have hN := fun W => nextC x0 x1 x2 W hmp.1 hmp.2.1 hmp.2.2
   obtain ⟨K, hK⟩ : ∃ K, k - 1 = K := ⟨_, rfl⟩
   rw [hK] at d0 d1 d2 hk0
   have hKi : (k : Int) - 1 = (K : Int) := by omega
   have hKl : K < L.length := by omega
   clear hX hY h0 hk0
   go_wp2_with fail
   refine (hN _).mono ?_; rintro e w2 ⟨rfl, b2⟩
   obtain ⟨V, hV⟩ : ∃ V, w2.alloc (.cells #[.int .i64 ((x0 : Int) + 1), .int .i64 ((x1 : Int) + 1), .int .i64 ((x2 : Int) + 1)] 219) = V := ⟨_, rfl⟩
   have bV : Below w2.heap.size w2 V := by rw [<- hV]; exact allocBelow _ _
   have rV : Rs V w2.heap.size [.int .i64 ((x0 : Int) + 1), .int .i64 ((x1 : Int) + 1), .int .i64 ((x2 : Int) + 1)] := by rw [<- hV]; exact Rs.new _ _ _
   have n0 := rV 0 _ rfl
   have n1 := rV 1 _ rfl
   have n2 := rV 2 _ rfl
   have b3 : Below wr.heap.size wr V := b2.trans (bV.mono b2.size)
   have hF := Fr.ofBelow (lo := 0) (hi := 0) b3
   have m0 := hF.cell f0 (.inr (Nat.zero_le _))
   have m1 := hF.cell f1 (.inr (Nat.zero_le _))
   have m2 := hF.cell f2 (.inr (Nat.zero_le _))
   have HB := below_step hbel hsz b3
   clear hN b2 bV b3 rV hF d0 d1 d2 f0 f1 f2 hbel hsz
   have i0 : ∀ w, (Instr.index 219 (.agg #[.int .i64 (y0 : Int), .int .i64 (y1 : Int), .int .i64 (y2 : Int)]) (.int .i64 0)).run Tryz.prog w = .ok (.int .i64 (y0 : Int)) w := fun _ => by kernel_rfl
   have i1 : ∀ w, (Instr.index 219 (.agg #[.int .i64 (y0 : Int), .int .i64 (y1 : Int), .int .i64 (y2 : Int)]) (.int .i64 1)).run Tryz.prog w = .ok (.int .i64 (y1 : Int)) w := fun _ => by kernel_rfl
   have i2 : ∀ w, (Instr.index 219 (.agg #[.int .i64 (y0 : Int), .int .i64 (y1 : Int), .int .i64 (y2 : Int)]) (.int .i64 2)).run Tryz.prog w = .ok (.int .i64 (y2 : Int)) w := fun _ => by kernel_rfl
   go_wp2
   obtain ⟨V0, hV0⟩ : ∃ V0, V = V0 := ⟨_, rfl⟩
   go_loopw [5, 6, 23] (fun _ _ i wr => ∃ j : Nat, j <= 3 /\ i = .int .i64 j /\ wr = V0 /\ Hid ((0 < j -> y0 = x0 + 1) /\ (1 < j -> y1 = x1 + 1) /\ (2 < j -> y2 = x2 + 1))) (fun _ _ i _ => 3 - (intOf i).toNat)
   case atStart => exact ⟨0, by omega, rfl, hV0, ⟨fun h => absurd h (by omega), fun h => absurd h (by omega), fun h => absurd h (by omega)⟩⟩
   case round =>
    subst hV0
    obtain ⟨j, hj, rfl, rfl, hc⟩ := hrel
    by_cases hj3 : j < 3
    ·have hjj : j = 0 \/ j = 1 \/ j = 2 := by omega
     rcases hjj with rfl | rfl | rfl
     ·by_cases he : y0 = x0 + 1
      ·have qe : ((y0 : Int) != ((x0 : Int) + 1)) = false := bneTK (by omega)
       have HC : Hid ((0 < 1 -> y0 = x0 + 1) /\ (1 < 1 -> y1 = x1 + 1) /\ (2 < 1 -> y2 = x2 + 1)) := ⟨fun _ => he, fun h => absurd h (by omega), fun h => absurd h (by omega)⟩
       clear hstep hstop hc he
       go_wp2
       go_roundw
       case rel => exact ⟨1, by omega, rfl, by trivial, HC⟩
       case measure => simp [intOf]
      ·have qe : ((y0 : Int) != ((x0 : Int) + 1)) = true := bneFK (by omega)
       have HE : Hid (R = k) := hstop (fun e => he (by have := congrArg (fun t => t.1) e; exact this))
       clear hstep hstop hc he
       go_wp2
       try rw [Exit.noGoto_ret]
       go_ret
       exact ⟨ret_int (by rw [HE.out]), HB⟩
     ·by_cases he : y1 = x1 + 1
      ·have qe : ((y1 : Int) != ((x1 : Int) + 1)) = false := bneTK (by omega)
       have HC : Hid ((0 < 2 -> y0 = x0 + 1) /\ (1 < 2 -> y1 = x1 + 1) /\ (2 < 2 -> y2 = x2 + 1)) := ⟨fun _ => hc.out.1 (by omega), fun h => he, fun h => absurd h (by omega)⟩
       clear hstep hstop hc he
       go_wp2
       go_roundw
       case rel => exact ⟨2, by omega, rfl, by trivial, HC⟩
       case measure => simp [intOf]
      ·have qe : ((y1 : Int) != ((x1 : Int) + 1)) = true := bneFK (by omega)
       have HE : Hid (R = k) := hstop (fun e => he (by have := congrArg (fun t => t.2.1) e; exact this))
       clear hstep hstop hc he
       go_wp2
       try rw [Exit.noGoto_ret]
       go_ret
       exact ⟨ret_int (by rw [HE.out]), HB⟩
     ·by_cases he : y2 = x2 + 1
      ·have qe : ((y2 : Int) != ((x2 : Int) + 1)) = false := bneTK (by omega)
       have HC : Hid ((0 < 3 -> y0 = x0 + 1) /\ (1 < 3 -> y1 = x1 + 1) /\ (2 < 3 -> y2 = x2 + 1)) := ⟨fun _ => hc.out.1 (by omega), fun h => hc.out.2.1 (by omega), fun h => he⟩
       clear hstep hstop hc he
       go_wp2
       go_roundw
       case rel => exact ⟨3, by omega, rfl, by trivial, HC⟩
       case measure => simp [intOf]
      ·have qe : ((y2 : Int) != ((x2 : Int) + 1)) = true := bneFK (by omega)
       have HE : Hid (R = k) := hstop (fun e => he (by have := congrArg (fun t => t.2.2) e; exact this))
       clear hstep hstop hc he
       go_wp2
       try rw [Exit.noGoto_ret]
       go_ret
       exact ⟨ret_int (by rw [HE.out]), HB⟩
    ·obtain rfl : j = 3 := by omega
     have HN : Hid (R = (k + 1) + tog (L.getD (k + 1 - 1) t3z) (L.drop (k + 1))) := hstep (by
      have e := hc.out
      show (y0, y1, y2) = (x0 + 1, x1 + 1, x2 + 1)
      rw [e.1 (by omega), e.2.1 (by omega), e.2.2 (by omega)])
     clear hstep hstop hc
     go_wp2
     go_roundw
     case rel => exact ⟨k + 1, by omega, by omega, by go_num, HB, HN⟩
     case measure => first | (simp [intOf]; omega) | simp [intOf]
  ·have q : ¬ (k : Int) < (L.length : Int) := by omega
   have HE : Hid (R = k) := by
    have := h0.out
    rw [show L.drop k = [] from List.drop_of_length_le (by omega), tog_nil] at this
    show _ = _
    omega
   clear h0
   go_wp2
   go_ret
   exact ⟨ret_int (by rw [HE.out]), hbel⟩
end Go.Proofs.YtcfnkndbhpdfnaaGreatDoor
