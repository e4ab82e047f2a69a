/- The contracts of next and between (places and lists of three sides). No statement is proved here. -/
import Derived.Test.YtciddfpkcdicaaaDoorRows
import Derived.Test.YtciddfpkcdicaaaDoorLemQ
import Derived.Test.YtciddfpkcdicaaaDoorDTabQ
import Derived.Test.YtciddfpkcdicaaaDoorHkTQ
import Derived.WalkKit
import Derived.ProofKit
import Derived.Below
import Derived.WalkSpells
import Derived.Deep.RegionWith
import Derived.Deep.QuietTactic
import Derived.BigQuiet
namespace Go.Proofs.YtciddfpkcdicaaaDoor
open Go.ChangeShapes Go.WideShapes Go.ChangeAt Go.RowKit

def nxTo (a b c : Nat) (k : Nat) : List Value := [.int .i64 (if 0 < k then (a : Int) + 1 else (a : Int)), .int .i64 (if 1 < k then (b : Int) + 1 else (b : Int)), .int .i64 (if 2 < k then (c : Int) + 1 else (c : Int))]
set_option maxRecDepth 20000 in
set_option maxHeartbeats 2000000 in
theorem nextC (a b c : Nat) (w : World) (ha : a ≤ 1048576) (hb : b ≤ 1048576) (hc : c ≤ 1048576) :
    Calls Tryd.prog 43 #[.agg #[.int .i64 a, .int .i64 b, .int .i64 c]] w fun e w' => e = .returned (.agg #[.int .i64 ((a + 1 : Nat) : Int), .int .i64 ((b + 1 : Nat) : Int), .int .i64 ((c + 1 : Nat) : Int)]) ∧ Below w.heap.size w w' := by
  obtain ⟨W0, hW0⟩ : ∃ W, w.alloc (.cells #[.int .i64 a, .int .i64 b, .int .i64 c] 85) = W := ⟨_, rfl⟩
  have B0 : Below w.heap.size w W0 := by rw [← hW0]; exact allocBelow _ _
  have f0 : Rf W0 w.heap.size [.int .i64 a, .int .i64 b, .int .i64 c] := by rw [← hW0]; exact Rf.new _ _ _
  have z0 : W0.heap.size = w.heap.size + 1 := by rw [← hW0]; simp
  obtain ⟨W1, hW1⟩ : ∃ W, W0.alloc (.cells #[.int .i64 0, .int .i64 0, .int .i64 0] 85) = W := ⟨_, rfl⟩
  have f1 : Rf W1 (w.heap.size + 1) [.int .i64 0, .int .i64 0, .int .i64 0] := by rw [← hW1, ← z0]; exact Rf.new _ _ _
  have b1 : Below W0.heap.size W0 W1 := by rw [← hW1]; exact allocBelow _ _
  replace f0 := f0.below (by omega) b1
  have B1 : Below w.heap.size w W1 := B0.trans (b1.mono (by omega))
  clear B0 b1
  go_enter Tryd.func43, Tryd.ntmps43
  go_wp2
  go_loopw [3, 4] (fun _ i wr => ∃ k : Nat, k ≤ 3 ∧ i = .int .i64 k ∧ Rf wr w.heap.size (nxTo a b c k) ∧ Rf wr (w.heap.size + 1) [.int .i64 0, .int .i64 0, .int .i64 0] ∧ Below w.heap.size w wr) (fun _ i _ => 3 - (intOf i).toNat)
  case atStart => exact ⟨0, by omega, rfl, f0, f1, B1⟩
  case round =>
    clear f0 f1 B1 hW1 hW0
    obtain ⟨k, hk, rfl, hf, hg, hbl⟩ := hrel
    have g0 := hf.fz 0
    have g1 := hf.fz 1
    have g2 := hf.fz 2
    by_cases hlt : k < 3
    · have hk3 : k = 0 ∨ k = 1 ∨ k = 2 := by omega
      rcases hk3 with rfl | rfl | rfl
      · have d : wr.cell? ⟨w.heap.size, 0, none⟩ = some (.int .i64 (a : Int)) := hf.at_ 0 _ rfl
        have HF : Hid (Rf (wr.setCell ⟨w.heap.size, 0, none⟩ (.int .i64 ((a : Int) + 1))) w.heap.size (nxTo a b c 1)) := hf.set (o := 0) (by simp [nxTo]) _
        have HG : Hid (Rf (wr.setCell ⟨w.heap.size, 0, none⟩ (.int .i64 ((a : Int) + 1))) (w.heap.size + 1) [.int .i64 0, .int .i64 0, .int .i64 0]) := hg.other (by omega) _
        have HB : Hid (Below w.heap.size w (wr.setCell ⟨w.heap.size, 0, none⟩ (.int .i64 ((a : Int) + 1)))) := hbl.setCell (p := ⟨w.heap.size, 0, none⟩) (Nat.le_refl _) _
        clear hf hg hbl
        go_wp2
        go_roundw
        case rel => exact ⟨1, by omega, rfl, HF.out, HG.out, HB.out⟩
        case measure => simp [intOf]
      · have d : wr.cell? ⟨w.heap.size, 1, none⟩ = some (.int .i64 (b : Int)) := hf.at_ 1 _ rfl
        have HF : Hid (Rf (wr.setCell ⟨w.heap.size, 1, none⟩ (.int .i64 ((b : Int) + 1))) w.heap.size (nxTo a b c 2)) := hf.set (o := 1) (by simp [nxTo]) _
        have HG : Hid (Rf (wr.setCell ⟨w.heap.size, 1, none⟩ (.int .i64 ((b : Int) + 1))) (w.heap.size + 1) [.int .i64 0, .int .i64 0, .int .i64 0]) := hg.other (by omega) _
        have HB : Hid (Below w.heap.size w (wr.setCell ⟨w.heap.size, 1, none⟩ (.int .i64 ((b : Int) + 1)))) := hbl.setCell (p := ⟨w.heap.size, 1, none⟩) (Nat.le_refl _) _
        clear hf hg hbl
        go_wp2
        go_roundw
        case rel => exact ⟨2, by omega, rfl, HF.out, HG.out, HB.out⟩
        case measure => simp [intOf]
      · have d : wr.cell? ⟨w.heap.size, 2, none⟩ = some (.int .i64 (c : Int)) := hf.at_ 2 _ rfl
        have HF : Hid (Rf (wr.setCell ⟨w.heap.size, 2, none⟩ (.int .i64 ((c : Int) + 1))) w.heap.size (nxTo a b c 3)) := hf.set (o := 2) (by simp [nxTo]) _
        have HG : Hid (Rf (wr.setCell ⟨w.heap.size, 2, none⟩ (.int .i64 ((c : Int) + 1))) (w.heap.size + 1) [.int .i64 0, .int .i64 0, .int .i64 0]) := hg.other (by omega) _
        have HB : Hid (Below w.heap.size w (wr.setCell ⟨w.heap.size, 2, none⟩ (.int .i64 ((c : Int) + 1)))) := hbl.setCell (p := ⟨w.heap.size, 2, none⟩) (Nat.le_refl _) _
        clear hf hg hbl
        go_wp2
        go_roundw
        case rel => exact ⟨3, by omega, rfl, HF.out, HG.out, HB.out⟩
        case measure => simp [intOf]
    · obtain rfl : k = 3 := by omega
      have d0 : wr.cell? ⟨w.heap.size, 0, none⟩ = some (.int .i64 ((a : Int) + 1)) := hf.at_ 0 _ rfl
      have d1 : wr.cell? ⟨w.heap.size, 1, none⟩ = some (.int .i64 ((b : Int) + 1)) := hf.at_ 1 _ rfl
      have d2 : wr.cell? ⟨w.heap.size, 2, none⟩ = some (.int .i64 ((c : Int) + 1)) := hf.at_ 2 _ rfl
      have e0 := hg.at_ 0 _ rfl
      have e1 := hg.at_ 1 _ rfl
      have e2 := hg.at_ 2 _ rfl
      have v0 := hg.fz 0
      have v1 := hg.fz 1
      have v2 := hg.fz 2
      have HB : Hid (Below w.heap.size w (((wr.setCell ⟨w.heap.size + 1, 0, none⟩ (.int .i64 ((a : Int) + 1))).setCell ⟨w.heap.size + 1, 1, none⟩ (.int .i64 ((b : Int) + 1))).setCell ⟨w.heap.size + 1, 2, none⟩ (.int .i64 ((c : Int) + 1)))) :=
        ((hbl.setCell (p := ⟨w.heap.size + 1, 0, none⟩) (by show _ ≤ w.heap.size + 1; omega) _).setCell (p := ⟨w.heap.size + 1, 1, none⟩) (by show _ ≤ w.heap.size + 1; omega) _).setCell (p := ⟨w.heap.size + 1, 2, none⟩) (by show _ ≤ w.heap.size + 1; omega) _
      clear hf hg hbl
      go_wp2
      refine bodyPost_ret (v := .agg #[.int .i64 ((a : Int) + 1), .int .i64 ((b : Int) + 1), .int .i64 ((c : Int) + 1)]) (by simp [results, Tryd.results43, go_sem, e0, e1, e2]) rfl ?_
      exact ⟨rfl, HB.out⟩

/-- The part of a slice between two places. -/
def segA (a : Option Addr) (c f : Nat) : Option Addr := if c = f then a else a.map (·.add f)
def segV (a : Option Addr) (c f t : Nat) : Value := .slice (segA a c f) (t - f) (c - f)
def btTo (a1 a2 a3 : Option Addr) (n1 n2 n3 c1 c2 c3 f1 f2 f3 t1 t2 t3 k : Nat) : List Value :=
  [if 0 < k then segV a1 c1 f1 t1 else .slice a1 n1 c1, if 1 < k then segV a2 c2 f2 t2 else .slice a2 n2 c2, if 2 < k then segV a3 c3 f3 t3 else .slice a3 n3 c3]
set_option maxRecDepth 20000 in
set_option maxHeartbeats 4000000 in
theorem betweenC (a1 a2 a3 : Option Addr) (n1 n2 n3 c1 c2 c3 f1 f2 f3 t1 t2 t3 : Nat) (w : World) (u1 : f1 ≤ t1) (u2 : f2 ≤ t2) (u3 : f3 ≤ t3) (x1 : t1 ≤ n1) (x2 : t2 ≤ n2) (x3 : t3 ≤ n3) (y1 : n1 ≤ c1) (y2 : n2 ≤ c2) (y3 : n3 ≤ c3) :
    Calls Tryd.prog 45 #[.agg #[.slice a1 n1 c1, .slice a2 n2 c2, .slice a3 n3 c3], .agg #[.int .i64 f1, .int .i64 f2, .int .i64 f3], .agg #[.int .i64 t1, .int .i64 t2, .int .i64 t3]] w fun e w' => e = .returned (.agg #[segV a1 c1 f1 t1, segV a2 c2 f2 t2, segV a3 c3 f3 t3]) ∧ Below w.heap.size w w' := by
  obtain ⟨W0, hW0⟩ : ∃ W, w.alloc (.cells #[.slice a1 n1 c1, .slice a2 n2 c2, .slice a3 n3 c3] 56) = W := ⟨_, rfl⟩
  have B0 : Below w.heap.size w W0 := by rw [← hW0]; exact allocBelow _ _
  have r0 : Rf W0 w.heap.size [.slice a1 n1 c1, .slice a2 n2 c2, .slice a3 n3 c3] := by rw [← hW0]; exact Rf.new _ _ _
  have z0 : W0.heap.size = w.heap.size + 1 := by rw [← hW0]; simp
  obtain ⟨W1, hW1⟩ : ∃ W, W0.alloc (.cells #[.int .i64 f1, .int .i64 f2, .int .i64 f3] 85) = W := ⟨_, rfl⟩
  have r1 : Rf W1 (w.heap.size + 1) [.int .i64 f1, .int .i64 f2, .int .i64 f3] := by rw [← hW1, ← z0]; exact Rf.new _ _ _
  have b1 : Below W0.heap.size W0 W1 := by rw [← hW1]; exact allocBelow _ _
  have z1 : W1.heap.size = w.heap.size + 1 + 1 := by rw [← hW1]; simp [z0]
  obtain ⟨W2, hW2⟩ : ∃ W, W1.alloc (.cells #[.int .i64 t1, .int .i64 t2, .int .i64 t3] 85) = W := ⟨_, rfl⟩
  have r2 : Rf W2 (w.heap.size + 1 + 1) [.int .i64 t1, .int .i64 t2, .int .i64 t3] := by rw [← hW2, ← z1]; exact Rf.new _ _ _
  have b2 : Below W1.heap.size W1 W2 := by rw [← hW2]; exact allocBelow _ _
  have z2 : W2.heap.size = w.heap.size + 1 + 1 + 1 := by rw [← hW2]; simp [z1]
  obtain ⟨W3, hW3⟩ : ∃ W, W2.alloc (.cells #[.slice none 0 0, .slice none 0 0, .slice none 0 0] 56) = W := ⟨_, rfl⟩
  have r3 : Rf W3 (w.heap.size + 1 + 1 + 1) [.slice none 0 0, .slice none 0 0, .slice none 0 0] := by rw [← hW3, ← z2]; exact Rf.new _ _ _
  have b3 : Below W2.heap.size W2 W3 := by rw [← hW3]; exact allocBelow _ _
  replace r2 := r2.below (by omega) b3
  replace r1 := (r1.below (by omega) b2).below (by omega) b3
  replace r0 := ((r0.below (by omega) b1).below (by omega) b2).below (by omega) b3
  have B3 : Below w.heap.size w W3 := ((B0.trans (b1.mono (by omega))).trans (b2.mono (by omega))).trans (b3.mono (by omega))
  have p0 := r0.at_ 0 _ rfl
  have p1 := r0.at_ 1 _ rfl
  have p2 := r0.at_ 2 _ rfl
  clear B0 b1 b2 b3
  have i0 : ∀ w, (Instr.index 56 (.agg #[.slice a1 n1 c1, .slice a2 n2 c2, .slice a3 n3 c3]) (.int .i64 0)).run Tryd.prog w = .ok (.slice a1 n1 c1) w := fun _ => by kernel_rfl
  have i1 : ∀ w, (Instr.index 56 (.agg #[.slice a1 n1 c1, .slice a2 n2 c2, .slice a3 n3 c3]) (.int .i64 1)).run Tryd.prog w = .ok (.slice a2 n2 c2) w := fun _ => by kernel_rfl
  have i2 : ∀ w, (Instr.index 56 (.agg #[.slice a1 n1 c1, .slice a2 n2 c2, .slice a3 n3 c3]) (.int .i64 2)).run Tryd.prog w = .ok (.slice a3 n3 c3) w := fun _ => by kernel_rfl
  go_enter Tryd.func45, Tryd.ntmps45
  go_wp2
  go_loopw [7, 8, 10] (fun _ _ i wr => ∃ k : Nat, k ≤ 3 ∧ i = .int .i64 k ∧ Rf wr w.heap.size (btTo a1 a2 a3 n1 n2 n3 c1 c2 c3 f1 f2 f3 t1 t2 t3 k) ∧ Rf wr (w.heap.size + 1) [.int .i64 f1, .int .i64 f2, .int .i64 f3] ∧ Rf wr (w.heap.size + 1 + 1) [.int .i64 t1, .int .i64 t2, .int .i64 t3] ∧ Rf wr (w.heap.size + 1 + 1 + 1) [.slice none 0 0, .slice none 0 0, .slice none 0 0] ∧ Below w.heap.size w wr) (fun _ _ i _ => 3 - (intOf i).toNat)
  case atStart => exact ⟨0, by omega, rfl, r0, r1, r2, r3, B3⟩
  case round =>
    clear r0 r1 r2 r3 p0 p1 p2 B3 hW0 hW1 hW2 hW3
    obtain ⟨k, hk, rfl, hf, hg, ht, hr, hbl⟩ := hrel
    have g0 := hf.fz 0
    have g1 := hf.fz 1
    have g2 := hf.fz 2
    by_cases hlt : k < 3
    · have hk3 : k = 0 ∨ k = 1 ∨ k = 2 := by omega
      rcases hk3 with rfl | rfl | rfl
      · have d := hf.at_ 0 _ rfl
        have eF := hg.at_ 0 _ rfl
        have eT := ht.at_ 0 _ rfl
        obtain ⟨A, hV⟩ : ∃ A, (if c1 = f1 then a1 else Option.map (fun x => x.add f1) a1) = A := ⟨_, rfl⟩
        have HF : Hid (Rf (wr.setCell ⟨w.heap.size, 0, none⟩ (.slice A (t1 - f1) (c1 - f1))) w.heap.size (btTo a1 a2 a3 n1 n2 n3 c1 c2 c3 f1 f2 f3 t1 t2 t3 1)) := by rw [← hV]; exact hf.set (o := 0) (by simp [btTo]) _
        have HG : Hid (Rf (wr.setCell ⟨w.heap.size, 0, none⟩ (.slice A (t1 - f1) (c1 - f1))) (w.heap.size + 1) [.int .i64 f1, .int .i64 f2, .int .i64 f3]) := hg.other (by omega) _
        have HT : Hid (Rf (wr.setCell ⟨w.heap.size, 0, none⟩ (.slice A (t1 - f1) (c1 - f1))) (w.heap.size + 1 + 1) [.int .i64 t1, .int .i64 t2, .int .i64 t3]) := ht.other (by omega) _
        have HR : Hid (Rf (wr.setCell ⟨w.heap.size, 0, none⟩ (.slice A (t1 - f1) (c1 - f1))) (w.heap.size + 1 + 1 + 1) [.slice none 0 0, .slice none 0 0, .slice none 0 0]) := hr.other (by omega) _
        have HB : Hid (Below w.heap.size w (wr.setCell ⟨w.heap.size, 0, none⟩ (.slice A (t1 - f1) (c1 - f1)))) := hbl.setCell (p := ⟨w.heap.size, 0, none⟩) (Nat.le_refl _) _
        have htc : t1 ≤ c1 := Nat.le_trans x1 y1
        clear hf hg ht hr hbl
        go_wp2
        go_region
        go_wp2
        go_roundw
        case rel => exact ⟨1, by omega, rfl, ⟨HF.out.at_, HF.out.fz⟩, ⟨HG.out.at_, HG.out.fz⟩, ⟨HT.out.at_, HT.out.fz⟩, ⟨HR.out.at_, HR.out.fz⟩, by first | exact HB.out | exact below_drew HB.out⟩
        case measure => simp [intOf]
      · have d := hf.at_ 1 _ rfl
        have eF := hg.at_ 1 _ rfl
        have eT := ht.at_ 1 _ rfl
        obtain ⟨A, hV⟩ : ∃ A, (if c2 = f2 then a2 else Option.map (fun x => x.add f2) a2) = A := ⟨_, rfl⟩
        have HF : Hid (Rf (wr.setCell ⟨w.heap.size, 1, none⟩ (.slice A (t2 - f2) (c2 - f2))) w.heap.size (btTo a1 a2 a3 n1 n2 n3 c1 c2 c3 f1 f2 f3 t1 t2 t3 2)) := by rw [← hV]; exact hf.set (o := 1) (by simp [btTo]) _
        have HG : Hid (Rf (wr.setCell ⟨w.heap.size, 1, none⟩ (.slice A (t2 - f2) (c2 - f2))) (w.heap.size + 1) [.int .i64 f1, .int .i64 f2, .int .i64 f3]) := hg.other (by omega) _
        have HT : Hid (Rf (wr.setCell ⟨w.heap.size, 1, none⟩ (.slice A (t2 - f2) (c2 - f2))) (w.heap.size + 1 + 1) [.int .i64 t1, .int .i64 t2, .int .i64 t3]) := ht.other (by omega) _
        have HR : Hid (Rf (wr.setCell ⟨w.heap.size, 1, none⟩ (.slice A (t2 - f2) (c2 - f2))) (w.heap.size + 1 + 1 + 1) [.slice none 0 0, .slice none 0 0, .slice none 0 0]) := hr.other (by omega) _
        have HB : Hid (Below w.heap.size w (wr.setCell ⟨w.heap.size, 1, none⟩ (.slice A (t2 - f2) (c2 - f2)))) := hbl.setCell (p := ⟨w.heap.size, 1, none⟩) (Nat.le_refl _) _
        have htc : t2 ≤ c2 := Nat.le_trans x2 y2
        clear hf hg ht hr hbl
        go_wp2
        go_region
        go_wp2
        go_roundw
        case rel => exact ⟨2, by omega, rfl, ⟨HF.out.at_, HF.out.fz⟩, ⟨HG.out.at_, HG.out.fz⟩, ⟨HT.out.at_, HT.out.fz⟩, ⟨HR.out.at_, HR.out.fz⟩, by first | exact HB.out | exact below_drew HB.out⟩
        case measure => simp [intOf]
      · have d := hf.at_ 2 _ rfl
        have eF := hg.at_ 2 _ rfl
        have eT := ht.at_ 2 _ rfl
        obtain ⟨A, hV⟩ : ∃ A, (if c3 = f3 then a3 else Option.map (fun x => x.add f3) a3) = A := ⟨_, rfl⟩
        have HF : Hid (Rf (wr.setCell ⟨w.heap.size, 2, none⟩ (.slice A (t3 - f3) (c3 - f3))) w.heap.size (btTo a1 a2 a3 n1 n2 n3 c1 c2 c3 f1 f2 f3 t1 t2 t3 3)) := by rw [← hV]; exact hf.set (o := 2) (by simp [btTo]) _
        have HG : Hid (Rf (wr.setCell ⟨w.heap.size, 2, none⟩ (.slice A (t3 - f3) (c3 - f3))) (w.heap.size + 1) [.int .i64 f1, .int .i64 f2, .int .i64 f3]) := hg.other (by omega) _
        have HT : Hid (Rf (wr.setCell ⟨w.heap.size, 2, none⟩ (.slice A (t3 - f3) (c3 - f3))) (w.heap.size + 1 + 1) [.int .i64 t1, .int .i64 t2, .int .i64 t3]) := ht.other (by omega) _
        have HR : Hid (Rf (wr.setCell ⟨w.heap.size, 2, none⟩ (.slice A (t3 - f3) (c3 - f3))) (w.heap.size + 1 + 1 + 1) [.slice none 0 0, .slice none 0 0, .slice none 0 0]) := hr.other (by omega) _
        have HB : Hid (Below w.heap.size w (wr.setCell ⟨w.heap.size, 2, none⟩ (.slice A (t3 - f3) (c3 - f3)))) := hbl.setCell (p := ⟨w.heap.size, 2, none⟩) (Nat.le_refl _) _
        have htc : t3 ≤ c3 := Nat.le_trans x3 y3
        clear hf hg ht hr hbl
        go_wp2
        go_region
        go_wp2
        go_roundw
        case rel => exact ⟨3, by omega, rfl, ⟨HF.out.at_, HF.out.fz⟩, ⟨HG.out.at_, HG.out.fz⟩, ⟨HT.out.at_, HT.out.fz⟩, ⟨HR.out.at_, HR.out.fz⟩, by first | exact HB.out | exact below_drew HB.out⟩
        case measure => simp [intOf]
    · obtain rfl : k = 3 := by omega
      obtain ⟨V1, hV1⟩ : ∃ V, segV a1 c1 f1 t1 = V := ⟨_, rfl⟩
      obtain ⟨V2, hV2⟩ : ∃ V, segV a2 c2 f2 t2 = V := ⟨_, rfl⟩
      obtain ⟨V3, hV3⟩ : ∃ V, segV a3 c3 f3 t3 = V := ⟨_, rfl⟩
      have d0 : wr.cell? ⟨w.heap.size, 0, none⟩ = some (segV a1 c1 f1 t1) := hf.at_ 0 _ rfl
      have d1 : wr.cell? ⟨w.heap.size, 1, none⟩ = some (segV a2 c2 f2 t2) := hf.at_ 1 _ rfl
      have d2 : wr.cell? ⟨w.heap.size, 2, none⟩ = some (segV a3 c3 f3 t3) := hf.at_ 2 _ rfl
      have HV : Hid (Ending.returned (.agg #[V1, V2, V3]) = .returned (.agg #[segV a1 c1 f1 t1, segV a2 c2 f2 t2, segV a3 c3 f3 t3])) := by show _ = _; rw [hV1, hV2, hV3]
      rw [hV1] at d0
      rw [hV2] at d1
      rw [hV3] at d2
      have e0 := hr.at_ 0 _ rfl
      have e1 := hr.at_ 1 _ rfl
      have e2 := hr.at_ 2 _ rfl
      have v0 := hr.fz 0
      have v1 := hr.fz 1
      have v2 := hr.fz 2
      have HB : Hid (Below w.heap.size w (((wr.setCell ⟨w.heap.size + 1 + 1 + 1, 0, none⟩ V1).setCell ⟨w.heap.size + 1 + 1 + 1, 1, none⟩ V2).setCell ⟨w.heap.size + 1 + 1 + 1, 2, none⟩ V3)) :=
        ((hbl.setCell (p := ⟨w.heap.size + 1 + 1 + 1, 0, none⟩) (by show _ ≤ w.heap.size + 1 + 1 + 1; omega) _).setCell (p := ⟨w.heap.size + 1 + 1 + 1, 1, none⟩) (by show _ ≤ w.heap.size + 1 + 1 + 1; omega) _).setCell (p := ⟨w.heap.size + 1 + 1 + 1, 2, none⟩) (by show _ ≤ w.heap.size + 1 + 1 + 1; omega) _
      obtain ⟨A1, rfl⟩ : ∃ A1, V1 = .slice A1 (t1 - f1) (c1 - f1) := ⟨_, hV1.symm⟩
      obtain ⟨A2, rfl⟩ : ∃ A2, V2 = .slice A2 (t2 - f2) (c2 - f2) := ⟨_, hV2.symm⟩
      obtain ⟨A3, rfl⟩ : ∃ A3, V3 = .slice A3 (t3 - f3) (c3 - f3) := ⟨_, hV3.symm⟩
      clear hV1 hV2 hV3
      clear hf hg ht hr hbl i0 i1 i2
      go_wp2
      refine bodyPost_ret (v := .agg #[.slice A1 (t1 - f1) (c1 - f1), .slice A2 (t2 - f2) (c2 - f2), .slice A3 (t3 - f3) (c3 - f3)]) (by simp [results, Tryd.results45, go_sem, e0, e1, e2]) rfl ?_
      exact ⟨HV.out, HB.out⟩
end Go.Proofs.YtciddfpkcdicaaaDoor
