/- The contracts of the laws' helpers over chunks (szChunk, toChunk, eqChunk and their lists). No statement is proved here. -/
import Derived.Test.YtbmokagmpdgidajRows
import Derived.Test.YtbmokagmpdgidajLem
import Derived.Test.YtbmokagmpdgidajStrs
import Derived.Test.YtbmokagmpdgidajLFLem
import Derived.Test.YtbmokagmpdgidajDTab
import Derived.Test.YtbmokagmpdgidajOwn
import Derived.Test.YtbmokagmpdgidajFr
import Derived.Test.YtbmokagmpdgidajIn
import Derived.Test.YtbmokagmpdgidajHkT
import Derived.Test.YtbmokagmpdgidajCkL
import Derived.Test.YtbmokagmpdgidajCkN
import Derived.WalkKit
import Derived.ProofKit
import Derived.Below
import Derived.WalkSpells
import Derived.Deep.QuietTactic
import Derived.BigQuiet
import Derived.Deep.RegionWith
import Derived.Maps.AppendAt
namespace Go.Proofs.Ytbmokagmpdgidaj
open Go.ChangeShapes Go.WideShapes Go.ChangeAt Go.RowKit

theorem left_neg {l : Int} {ss : List ByteArray} (h : left l ss < 0) : left l ss = -1 := by unfold left at h ⊢; split at h <;> simp_all

set_option maxRecDepth 20000 in
set_option maxHeartbeats 2000000 in
theorem szChunk (x0 : Int) (a1 a2 a3 : Option Addr) (c1 c2 c3 : Nat) (x1 x2 x3 : List ByteArray) (n : Int) (w : World) (h1 : SS w a1 x1) (h2 : SS w a2 x2) (h3 : SS w a3 x3) (m1 : x1.length ≤ 9223372036854775807) (m2 : x2.length ≤ 9223372036854775807) (m3 : x3.length ≤ 9223372036854775807) (hn0 : 0 ≤ n) (hn1 : n ≤ 1048576) :
    Calls Try.prog 28 #[.agg #[.int .i64 x0, .slice a1 x1.length c1, .slice a2 x2.length c2, .slice a3 x3.length c3], .int .i64 n] w fun e w' => e = .returned (.int .i64 (leftK1 n (x0, x1, x2, x3))) ∧ Below w.heap.size w w' := by
  obtain ⟨W, hW⟩ : ∃ W, w.alloc (.cells #[.int .i64 x0, .slice a1 x1.length c1, .slice a2 x2.length c2, .slice a3 x3.length c3] 48) = W := ⟨_, rfl⟩
  have hR : Rs W w.heap.size [.int .i64 x0, .slice a1 x1.length c1, .slice a2 x2.length c2, .slice a3 x3.length c3] := by rw [← hW]; exact Rs.new _ _ _
  have bW : Below w.heap.size w W := by rw [← hW]; exact allocBelow _ _
  have r1 := hR 1 _ rfl
  have r2 := hR 2 _ rfl
  have r3 := hR 3 _ rfl
  have H1 := szStringS a1 c1 x1 n W (h1.below bW) m1 hn0 hn1
  have t1 := tot_nonneg x1
  have t2 := tot_nonneg x2
  have E1 : left n x1 < 0 → leftK1 n (x0, x1, x2, x3) = -1 := fun h => leftF_stop h
  have E2 : ¬ left n x1 < 0 → left (left n x1) x2 < 0 → leftK1 n (x0, x1, x2, x3) = -1 := fun p q => by unfold leftK1; rw [leftF_go p]; exact leftF_stop q
  have E3 : ¬ left n x1 < 0 → ¬ left (left n x1) x2 < 0 → left (left (left n x1) x2) x3 < 0 → leftK1 n (x0, x1, x2, x3) = -1 := fun p q r => by unfold leftK1; rw [leftF_go p, leftF_go q]; exact leftF_stop r
  have E4 : ¬ left n x1 < 0 → ¬ left (left n x1) x2 < 0 → ¬ left (left (left n x1) x2) x3 < 0 → leftK1 n (x0, x1, x2, x3) = left (left (left n x1) x2) x3 := fun p q r => by unfold leftK1; rw [leftF_go p, leftF_go q, leftF_go r]; rfl
  have L1 : ¬ left n x1 < 0 → left n x1 ≤ 1048576 := fun p => by have := left_numsK p; omega
  have L2 : ¬ left (left n x1) x2 < 0 → left (left n x1) x2 ≤ left n x1 := fun p => by have := left_numsK p; omega
  obtain ⟨V, hV⟩ : ∃ V, leftK1 n (x0, x1, x2, x3) = V := ⟨_, rfl⟩
  rw [hV] at E1 E2 E3 E4 ⊢
  obtain ⟨M1, hM1⟩ : ∃ M, left n x1 = M := ⟨_, rfl⟩
  rw [hM1] at E1 E2 E3 E4 L1 L2 H1
  have H2 := fun p q => szStringS a2 c2 x2 M1 W (h2.below bW) m2 p q
  obtain ⟨M2, hM2⟩ : ∃ M, left M1 x2 = M := ⟨_, rfl⟩
  rw [hM2] at E2 E3 E4 L2 H2
  have H3 := fun p q => szStringS a3 c3 x3 M2 W (h3.below bW) m3 p q
  obtain ⟨M3, hM3⟩ : ∃ M, left M2 x3 = M := ⟨_, rfl⟩
  rw [hM3] at E3 E4 H3
  have N3 : M3 < 0 → M3 = -1 := fun h => by rw [← hM3] at h ⊢; exact left_neg h
  clear hV hM1 hM2 hM3 hR h1 h2 h3 t1 t2
  by_cases p1 : M1 < 0
  · have hC : Hid (V = -1) := E1 p1
    clear E1 E2 E3 E4 L1 L2 H2 H3 N3
    go_enter Try.func28, Try.ntmps28
    go_wp2_with fail
    refine H1.mono ?_; rintro e W ⟨rfl, rfl⟩
    go_wp2_with fail
    go_ret
    exact ⟨ret_int hC.out.symm, bW⟩
  have l1 := L1 p1
  replace H2 := H2 (by omega) l1
  by_cases p2 : M2 < 0
  · have hC : Hid (V = -1) := E2 p1 p2
    clear E1 E2 E3 E4 L1 L2 H3 N3
    go_enter Try.func28, Try.ntmps28
    go_wp2_with fail
    refine H1.mono ?_; rintro e W ⟨rfl, rfl⟩
    go_wp2_with fail
    refine H2.mono ?_; rintro e W ⟨rfl, rfl⟩
    go_wp2_with fail
    go_ret
    exact ⟨ret_int hC.out.symm, bW⟩
  have l2 := L2 p2
  replace H3 := H3 (by omega) (by omega)
  by_cases p3 : M3 < 0
  · have hC : Hid (V = -1) := E3 p1 p2 p3
    clear E1 E2 E3 E4 L1 L2 N3
    go_enter Try.func28, Try.ntmps28
    go_wp2_with fail
    refine H1.mono ?_; rintro e W ⟨rfl, rfl⟩
    go_wp2_with fail
    refine H2.mono ?_; rintro e W ⟨rfl, rfl⟩
    go_wp2_with fail
    refine H3.mono ?_; rintro e W ⟨rfl, rfl⟩
    go_wp2_with fail
    go_ret
    exact ⟨ret_int hC.out.symm, bW⟩
  · have hC : Hid (V = M3) := E4 p1 p2 p3
    clear E1 E2 E3 E4 L1 L2 N3
    go_enter Try.func28, Try.ntmps28
    go_wp2_with fail
    refine H1.mono ?_; rintro e W ⟨rfl, rfl⟩
    go_wp2_with fail
    refine H2.mono ?_; rintro e W ⟨rfl, rfl⟩
    go_wp2_with fail
    refine H3.mono ?_; rintro e W ⟨rfl, rfl⟩
    go_wp2_with fail
    go_ret
    exact ⟨ret_int hC.out.symm, bW⟩

set_option maxHeartbeats 1000000 in
theorem eqChunk (x0 : Int) (a1 a2 a3 b1 b2 b3 : Option Addr) (c1 c2 c3 k1 k2 k3 : Nat) (x1 x2 x3 : List ByteArray) (w : World) (h1 : SS w a1 x1) (h2 : SS w a2 x2) (h3 : SS w a3 x3) (g1 : SS w b1 x1) (g2 : SS w b2 x2) (g3 : SS w b3 x3) (n1 : x1.length ≤ 1048576) (n2 : x2.length ≤ 1048576) (n3 : x3.length ≤ 1048576) :
    Calls Try.prog 33 #[.agg #[.int .i64 x0, .slice a1 x1.length c1, .slice a2 x2.length c2, .slice a3 x3.length c3], .agg #[.int .i64 x0, .slice b1 x1.length k1, .slice b2 x2.length k2, .slice b3 x3.length k3]] w fun e w' => e = .returned (.bool true) ∧ Below w.heap.size w w' := by
  obtain ⟨W, hW⟩ : ∃ W, (w.alloc (.cells #[.int .i64 x0, .slice a1 x1.length c1, .slice a2 x2.length c2, .slice a3 x3.length c3] 53)).alloc (.cells #[.int .i64 x0, .slice b1 x1.length k1, .slice b2 x2.length k2, .slice b3 x3.length k3] 53) = W := ⟨_, rfl⟩
  have bW : Below w.heap.size w W := by rw [← hW]; exact ((Below.refl _ _).alloc (Nat.le_refl _) _).alloc (by simp) _
  have hR : Rs W w.heap.size [.int .i64 x0, .slice a1 x1.length c1, .slice a2 x2.length c2, .slice a3 x3.length c3] := by
    rw [← hW]; exact (Fr.ofAlloc (lo := 0) (hi := 0) _ _).rs (Rs.new _ _ _) (.inr (Nat.zero_le _))
  have hR' : Rs W (w.heap.size + 1) [.int .i64 x0, .slice b1 x1.length k1, .slice b2 x2.length k2, .slice b3 x3.length k3] := by
    rw [← hW]; simpa using Rs.new (w.alloc (.cells #[.int .i64 x0, .slice a1 x1.length c1, .slice a2 x2.length c2, .slice a3 x3.length c3] 53)) #[.int .i64 x0, .slice b1 x1.length k1, .slice b2 x2.length k2, .slice b3 x3.length k3] 53
  have q0 : (x0 != x0) = false := by simp
  have r0 := hR 0 _ rfl
  have r1 := hR 1 _ rfl
  have r2 := hR 2 _ rfl
  have r3 := hR 3 _ rfl
  have s0 := hR' 0 _ rfl
  have s1 := hR' 1 _ rfl
  have s2 := hR' 2 _ rfl
  have s3 := hR' 3 _ rfl
  replace h1 := h1.below bW
  replace h2 := h2.below bW
  replace h3 := h3.below bW
  replace g1 := g1.below bW
  replace g2 := g2.below bW
  replace g3 := g3.below bW
  clear hR hR'
  go_enter Try.func33, Try.ntmps33
  go_wp2_with fail
  refine (eqStringS _ _ _ _ _ _ _ h1 g1 n1 n1).mono ?_; rintro e w1 ⟨rfl, m1, rfl⟩
  rw [eqB_self]
  go_wp2_with fail
  refine (eqStringS _ _ _ _ _ _ _ (h2.drewN _) (g2.drewN _) n2 n2).mono ?_; rintro e w1 ⟨rfl, m2, rfl⟩
  rw [eqB_self]
  go_wp2_with fail
  refine (eqStringS _ _ _ _ _ _ _ (h3.drewN _) (g3.drewN _) n3 n3).mono ?_; rintro e w1 ⟨rfl, m3, rfl⟩
  rw [eqB_self]
  go_wp2_with fail
  go_ret
  exact ⟨rfl, below_drewN' bW _⟩

theorem Fr.ofSet (w : World) (b o : Nat) (v : Value) : Fr b (b + 1) w (w.setCell ⟨b, o, none⟩ v) := Fr.ofGrown (grownSet w b o v) (fun j hj => by cases hj; omega)
/-- A new chunk, each list in memory of its own. -/
def CP (x0 : Int) (x1 x2 x3 : List ByteArray) (w : World) (e : Ending) (w' : World) : Prop := ∃ g1 g2 g3, w.heap.size < g1 ∧ g1 < g2 ∧ g2 < g3 ∧ e = .returned (.agg #[.int .i64 x0, .slice (some ⟨g1, 0, none⟩) x1.length x1.length, .slice (some ⟨g2, 0, none⟩) x2.length x2.length, .slice (some ⟨g3, 0, none⟩) x3.length x3.length]) ∧
  w'.ownsRow w.heap.size 9 1 (.slice (some ⟨g1, 0, none⟩) x1.length x1.length) x1.length (x1.map Value.string) ∧ w'.ownsRow w.heap.size 9 1 (.slice (some ⟨g2, 0, none⟩) x2.length x2.length) x2.length (x2.map Value.string) ∧
  w'.ownsRow w.heap.size 9 1 (.slice (some ⟨g3, 0, none⟩) x3.length x3.length) x3.length (x3.map Value.string) ∧ Below w.heap.size w w'
theorem blkOf {g n c j : Nat} (h : (Value.slice (some ⟨g, 0, none⟩) n c).ownBlock = some j) : g = j := by simpa [Value.ownBlock] using h

set_option maxRecDepth 20000 in
set_option maxHeartbeats 4000000 in
theorem toChunk (x0 : Int) (a1 a2 a3 : Option Addr) (c1 c2 c3 : Nat) (x1 x2 x3 : List ByteArray) (w : World) (h1 : SS w a1 x1) (h2 : SS w a2 x2) (h3 : SS w a3 x3) (n1 : x1.length ≤ 1048576) (n2 : x2.length ≤ 1048576) (n3 : x3.length ≤ 1048576) :
    Calls Try.prog 30 #[.agg #[.int .i64 x0, .slice a1 x1.length c1, .slice a2 x2.length c2, .slice a3 x3.length c3]] w fun e w' => CP x0 x1 x2 x3 w e w' := by
  obtain ⟨W0, hW0⟩ : ∃ W, w.alloc (.cells #[.int .i64 x0, .slice a1 x1.length c1, .slice a2 x2.length c2, .slice a3 x3.length c3] 48) = W := ⟨_, rfl⟩
  have f0 : Rf W0 w.heap.size [.int .i64 x0, .slice a1 x1.length c1, .slice a2 x2.length c2, .slice a3 x3.length c3] := by rw [← hW0]; exact Rf.new _ _ _
  have B0 : Below w.heap.size w W0 := by rw [← hW0]; exact allocBelow _ _
  have z0 : W0.heap.size = w.heap.size + 1 := by rw [← hW0]; simp
  obtain ⟨W1, hW1⟩ : ∃ W, W0.alloc (.cells #[.int .i64 0, .slice none 0 0, .slice none 0 0, .slice none 0 0] 53) = W := ⟨_, rfl⟩
  have f1 : Rf W1 (w.heap.size + 1) [.int .i64 0, .slice none 0 0, .slice none 0 0, .slice none 0 0] := by rw [← hW1, ← z0]; exact Rf.new _ _ _
  have b1 : Below W0.heap.size W0 W1 := by rw [← hW1]; exact allocBelow _ _
  have z1 : W1.heap.size = w.heap.size + 1 + 1 := by rw [← hW1]; simp [z0]
  obtain ⟨W2, hW2⟩ : ∃ W, W1.alloc (.cells #[.int .i64 0, .slice none 0 0, .slice none 0 0, .slice none 0 0] 53) = W := ⟨_, rfl⟩
  have f2 : Rf W2 (w.heap.size + 1 + 1) [.int .i64 0, .slice none 0 0, .slice none 0 0, .slice none 0 0] := by rw [← hW2, ← z1]; exact Rf.new _ _ _
  have b2 : Below W1.heap.size W1 W2 := by rw [← hW2]; exact allocBelow _ _
  have z2 : W2.heap.size = w.heap.size + 1 + 1 + 1 := by rw [← hW2]; simp [z1]
  replace f0 := (f0.below (by omega) b1).below (by omega) b2
  replace f1 := f1.below (by omega) b2
  have B2 : Below w.heap.size w W2 := (B0.trans (b1.mono (by omega))).trans (b2.mono (by omega))
  have p0 := f0.at_ 0 _ rfl
  have p1 := f0.at_ 1 _ rfl
  have q0 := f2.at_ 0 _ rfl
  have y0 := f2.fz 0
  clear B0 b1 b2
  go_enter Try.func30, Try.ntmps30
  go_wp2_with fail
  obtain ⟨W3, hW3⟩ : ∃ W, W2.setCell ⟨w.heap.size + 1 + 1, 0, none⟩ (.int .i64 x0) = W := ⟨_, rfl⟩
  have e0 : Rf W3 w.heap.size [.int .i64 x0, .slice a1 x1.length c1, .slice a2 x2.length c2, .slice a3 x3.length c3] := by rw [← hW3]; exact f0.other (by omega) _
  have e1 : Rf W3 (w.heap.size + 1) [.int .i64 0, .slice none 0 0, .slice none 0 0, .slice none 0 0] := by rw [← hW3]; exact f1.other (by omega) _
  have e2 : Rf W3 (w.heap.size + 1 + 1) [.int .i64 x0, .slice none 0 0, .slice none 0 0, .slice none 0 0] := by rw [← hW3]; exact f2.set (by simp) _
  have B3 : Below w.heap.size w W3 := by rw [← hW3]; exact B2.setCell (p := ⟨w.heap.size + 1 + 1, 0, none⟩) (by show _ ≤ w.heap.size + 1 + 1; omega) _
  have hz : w.heap.size + 1 + 1 < W3.heap.size := by rw [← hW3]; simp [World.setCell]; omega
  rw [hW3]
  clear hW3 p0 p1 q0 y0 f0 f1 f2 hW0 hW1 hW2 z2 z1 z0 B2
  refine (toStringS _ _ _ _ (h1.below B3) n1).mono ?_; rintro e w4 ⟨rfl, o1, b4⟩
  have z4 := size_of_owns o1
  replace o1 := ownMono o1 (b := w.heap.size) (by omega)
  replace e0 := e0.below (by omega) b4
  replace e1 := e1.below (by omega) b4
  replace e2 := e2.below (by omega) b4
  have B4 := B3.trans (b4.mono B3.size)
  obtain ⟨g1, hg1⟩ : ∃ g, W3.heap.size = g := ⟨_, rfl⟩
  rw [hg1] at z4 o1 hz ⊢
  clear b4 B3 hg1
  have p2 := e0.at_ 2 _ rfl
  have q1 := e2.at_ 1 _ rfl
  have y1 := e2.fz 1
  go_wp2_with fail
  obtain ⟨W5, hW5⟩ : ∃ W, w4.setCell ⟨w.heap.size + 1 + 1, 1, none⟩ (.slice (some ⟨g1, 0, none⟩) x1.length x1.length) = W := ⟨_, rfl⟩
  have F5 : Fr (w.heap.size + 1 + 1) (w.heap.size + 1 + 1 + 1) w4 W5 := by rw [← hW5]; exact Fr.ofSet _ _ _ _
  replace e0 : Rf W5 w.heap.size [.int .i64 x0, .slice a1 x1.length c1, .slice a2 x2.length c2, .slice a3 x3.length c3] := by rw [← hW5]; exact e0.other (by omega) _
  replace e1 : Rf W5 (w.heap.size + 1) [.int .i64 0, .slice none 0 0, .slice none 0 0, .slice none 0 0] := by rw [← hW5]; exact e1.other (by omega) _
  replace e2 : Rf W5 (w.heap.size + 1 + 1) [.int .i64 x0, .slice (some ⟨g1, 0, none⟩) x1.length x1.length, .slice none 0 0, .slice none 0 0] := by rw [← hW5]; exact e2.set (by simp) _
  replace o1 := F5.own o1 (fun j hj => by have := blkOf hj; omega)
  have B5 := F5.below B4 (by omega) B4.size
  have z5 : g1 < W5.heap.size := Nat.lt_of_lt_of_le z4 F5.size
  rw [hW5]
  clear hW5 p2 q1 y1 F5 B4 z4
  refine (toStringS _ _ _ _ (h2.below B5) n2).mono ?_; rintro e w6 ⟨rfl, o2, b6⟩
  have z6 := size_of_owns o2
  replace o2 := ownMono o2 (b := w.heap.size) B5.size
  replace e0 := e0.below (by omega) b6
  replace e1 := e1.below (by omega) b6
  replace e2 := e2.below (by omega) b6
  replace o1 := (Fr.ofBelow (lo := 0) (hi := 0) b6).own o1 (fun _ _ => .inr (Nat.zero_le _))
  have B6 := B5.trans (b6.mono B5.size)
  obtain ⟨g2, hg2⟩ : ∃ g, W5.heap.size = g := ⟨_, rfl⟩
  rw [hg2] at z6 o2 z5 ⊢
  clear b6 B5 hg2
  have p3 := e0.at_ 3 _ rfl
  have q2 := e2.at_ 2 _ rfl
  have y2 := e2.fz 2
  go_wp2_with fail
  obtain ⟨W7, hW7⟩ : ∃ W, w6.setCell ⟨w.heap.size + 1 + 1, 2, none⟩ (.slice (some ⟨g2, 0, none⟩) x2.length x2.length) = W := ⟨_, rfl⟩
  have F7 : Fr (w.heap.size + 1 + 1) (w.heap.size + 1 + 1 + 1) w6 W7 := by rw [← hW7]; exact Fr.ofSet _ _ _ _
  replace e1 : Rf W7 (w.heap.size + 1) [.int .i64 0, .slice none 0 0, .slice none 0 0, .slice none 0 0] := by rw [← hW7]; exact e1.other (by omega) _
  replace e2 : Rf W7 (w.heap.size + 1 + 1) [.int .i64 x0, .slice (some ⟨g1, 0, none⟩) x1.length x1.length, .slice (some ⟨g2, 0, none⟩) x2.length x2.length, .slice none 0 0] := by rw [← hW7]; exact e2.set (by simp) _
  replace o1 := F7.own o1 (fun j hj => by have := blkOf hj; omega)
  replace o2 := F7.own o2 (fun j hj => by have := blkOf hj; omega)
  have B7 := F7.below B6 (by omega) B6.size
  have z7 : g2 < W7.heap.size := Nat.lt_of_lt_of_le z6 F7.size
  rw [hW7]
  clear hW7 p3 q2 y2 F7 B6 z6 e0
  refine (toStringS _ _ _ _ (h3.below B7) n3).mono ?_; rintro e w8 ⟨rfl, o3, b8⟩
  have z8 := size_of_owns o3
  replace o3 := ownMono o3 (b := w.heap.size) B7.size
  replace e1 := e1.below (by omega) b8
  replace e2 := e2.below (by omega) b8
  replace o1 := (Fr.ofBelow (lo := 0) (hi := 0) b8).own o1 (fun _ _ => .inr (Nat.zero_le _))
  replace o2 := (Fr.ofBelow (lo := 0) (hi := 0) b8).own o2 (fun _ _ => .inr (Nat.zero_le _))
  have B8 := B7.trans (b8.mono B7.size)
  obtain ⟨g3, hg3⟩ : ∃ g, W7.heap.size = g := ⟨_, rfl⟩
  rw [hg3] at z8 o3 z7 ⊢
  clear b8 B7 hg3
  obtain ⟨W9, hW9⟩ : ∃ W, (((((w8.setCell ⟨w.heap.size + 1 + 1, 3, none⟩ (.slice (some ⟨g3, 0, none⟩) x3.length x3.length)).setCell ⟨w.heap.size + 1, 0, none⟩ (.int .i64 x0)).setCell ⟨w.heap.size + 1, 1, none⟩ (.slice (some ⟨g1, 0, none⟩) x1.length x1.length)).setCell ⟨w.heap.size + 1, 2, none⟩ (.slice (some ⟨g2, 0, none⟩) x2.length x2.length)).setCell ⟨w.heap.size + 1, 3, none⟩ (.slice (some ⟨g3, 0, none⟩) x3.length x3.length)) = W := ⟨_, rfl⟩
  have F9 : Fr (w.heap.size + 1) (w.heap.size + 1 + 1 + 1) w8 W9 := by
    rw [← hW9]
    have G : ∀ (u : World) (b o : Nat) (v : Value), w.heap.size + 1 ≤ b → b < w.heap.size + 1 + 1 + 1 → Fr (w.heap.size + 1) (w.heap.size + 1 + 1 + 1) u (u.setCell ⟨b, o, none⟩ v) := fun u b o v p q => Fr.ofGrown (grownSet u b o v) (fun j hj => by cases hj; omega)
    exact ((((G _ _ _ _ (by omega) (by omega)).trans (G _ _ _ _ (by omega) (by omega))).trans (G _ _ _ _ (by omega) (by omega))).trans (G _ _ _ _ (by omega) (by omega))).trans (G _ _ _ _ (by omega) (by omega))
  have HW9 : Hid (_ = W9) := hW9
  replace o1 := F9.own o1 (fun j hj => by have := blkOf hj; omega)
  replace o2 := F9.own o2 (fun j hj => by have := blkOf hj; omega)
  replace o3 := F9.own o3 (fun j hj => by have := blkOf hj; omega)
  have B9 := F9.below B8 (by omega) B8.size
  have q0 := e2.at_ 0 _ rfl
  have q1 := e2.at_ 1 _ rfl
  have q2 := e2.at_ 2 _ rfl
  have q3 := e2.at_ 3 _ rfl
  have y3 := e2.fz 3
  have u0 := e1.at_ 0 _ rfl
  have u1 := e1.at_ 1 _ rfl
  have u2 := e1.at_ 2 _ rfl
  have u3 := e1.at_ 3 _ rfl
  have v0 := e1.fz 0
  have v1 := e1.fz 1
  have v2 := e1.fz 2
  have v3 := e1.fz 3
  have HE : Hid (∃ g1' g2' g3', w.heap.size < g1' ∧ g1' < g2' ∧ g2' < g3' ∧ Ending.returned (.agg #[.int .i64 x0, .slice (some ⟨g1, 0, none⟩) x1.length x1.length, .slice (some ⟨g2, 0, none⟩) x2.length x2.length, .slice (some ⟨g3, 0, none⟩) x3.length x3.length]) = .returned (.agg #[.int .i64 x0, .slice (some ⟨g1', 0, none⟩) x1.length x1.length, .slice (some ⟨g2', 0, none⟩) x2.length x2.length, .slice (some ⟨g3', 0, none⟩) x3.length x3.length]) ∧
      W9.ownsRow w.heap.size 9 1 (.slice (some ⟨g1', 0, none⟩) x1.length x1.length) x1.length (x1.map Value.string) ∧ W9.ownsRow w.heap.size 9 1 (.slice (some ⟨g2', 0, none⟩) x2.length x2.length) x2.length (x2.map Value.string) ∧
      W9.ownsRow w.heap.size 9 1 (.slice (some ⟨g3', 0, none⟩) x3.length x3.length) x3.length (x3.map Value.string) ∧ Below w.heap.size w W9) := ⟨g1, g2, g3, by omega, z5, z7, rfl, o1, o2, o3, B9⟩
  clear o1 o2 o3 B9 F9 B8 e1 e2 hW9 hz z5 z7 z8
  go_wp2
  refine bodyPost_ret (v := .agg #[.int .i64 x0, .slice (some ⟨g1, 0, none⟩) x1.length x1.length, .slice (some ⟨g2, 0, none⟩) x2.length x2.length, .slice (some ⟨g3, 0, none⟩) x3.length x3.length]) (by simp [results, Try.results30, go_sem, u0, u1, u2, u3]) rfl ?_
  rw [HW9.out]
  exact HE.out
end Go.Proofs.Ytbmokagmpdgidaj
