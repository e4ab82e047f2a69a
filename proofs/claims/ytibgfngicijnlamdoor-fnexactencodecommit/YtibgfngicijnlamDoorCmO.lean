/- szCommit, toCommit, eqCommit of the law. No statement is proved here. -/
import Derived.Test.YtibgfngicijnlamDoorRows
import Derived.Test.YtibgfngicijnlamDoorLem
import Derived.Test.YtibgfngicijnlamDoorStrs
import Derived.Test.YtibgfngicijnlamDoorDTab
import Derived.Test.YtibgfngicijnlamDoorOwn
import Derived.Test.YtibgfngicijnlamDoorFr
import Derived.Test.YtibgfngicijnlamDoorHkT
import Derived.WalkKit
import Derived.ProofKit
import Derived.Below
import Derived.WalkSpells
namespace Go.Proofs.YtibgfngicijnlamDoor
open Go.ChangeShapes Go.WideShapes Go.ChangeAt Go.RowKit

theorem cm_beq (s : ByteArray) : (s.toList != s.toList) = false := by simp
set_option maxRecDepth 20000 in
set_option maxHeartbeats 1000000 in
theorem eqCommit (t no : ByteArray) (tm : Int) (a1 a2 : Option Addr) (k1 k2 : Nat) (ss : List ByteArray) (w : World) (h1 : SS w a1 ss) (h2 : SS w a2 ss) (hn : ss.length ≤ 1048576) :
    Calls Tryd.prog 11 #[.agg #[.string t, .slice a1 ss.length k1, .int .i64 tm, .string no], .agg #[.string t, .slice a2 ss.length k2, .int .i64 tm, .string no]] w fun e w' => e = .returned (.bool true) ∧ Below w.heap.size w w' := by
  go_enter Tryd.func11, Tryd.ntmps11
  have hN : ∀ o1 o2, Below w.heap.size w ((w.alloc o1).alloc o2) := fun o1 o2 => ((Below.refl _ _).alloc (Nat.le_refl _) _).alloc (by simp) _
  have q0 : (t.toList == t.toList) = true := beq_bytes_true rfl
  have q1 : (no.toList == no.toList) = true := beq_bytes_true rfl
  have q2 : (tm != tm) = false := by simp
  go_wp2_with fail
  refine (eqStringS _ _ _ _ _ _ _ (h1.below (hN _ _)) (h2.below (hN _ _)) hn hn).mono ?_; rintro e w1 ⟨rfl, n1, rfl⟩
  rw [eqB_self]
  go_wp2_with fail
  go_ret
  exact ⟨rfl, below_drewN' (hN _ _) n1⟩

set_option maxRecDepth 20000 in
set_option maxHeartbeats 2000000 in
theorem toCommit (t no : ByteArray) (tm : Int) (a : Option Addr) (cap : Nat) (ss : List ByteArray) (w : World) (hs : SS w a ss) (hn : ss.length ≤ 1048576) :
    Calls Tryd.prog 8 #[.agg #[.string t, .slice a ss.length cap, .int .i64 tm, .string no]] w fun e w' => ∃ g, w.heap.size < g ∧ e = .returned (.agg #[.string t, .slice (some ⟨g, 0, none⟩) ss.length ss.length, .int .i64 tm, .string no]) ∧
      w'.ownsRow w.heap.size 9 1 (.slice (some ⟨g, 0, none⟩) ss.length ss.length) ss.length (ss.map Value.string) ∧ Below w.heap.size w w' := by
  obtain ⟨W0, hW0⟩ : ∃ W, w.alloc (.cells #[.string t, .slice a ss.length cap, .int .i64 tm, .string no] 24) = W := ⟨_, rfl⟩
  have f0 : Rf W0 w.heap.size [.string t, .slice a ss.length cap, .int .i64 tm, .string no] := by rw [← hW0]; exact Rf.new _ _ _
  have B0 : Below w.heap.size w W0 := by rw [← hW0]; exact allocBelow _ _
  have z0 : W0.heap.size = w.heap.size + 1 := by rw [← hW0]; simp
  obtain ⟨W1, hW1⟩ : ∃ W, W0.alloc (.cells #[.string ⟨#[]⟩, .slice none 0 0, .int .i64 0, .string ⟨#[]⟩] 29) = W := ⟨_, rfl⟩
  have f1 : Rf W1 (w.heap.size + 1) [.string ⟨#[]⟩, .slice none 0 0, .int .i64 0, .string ⟨#[]⟩] := by rw [← hW1, ← z0]; exact Rf.new _ _ _
  have b1 : Below W0.heap.size W0 W1 := by rw [← hW1]; exact allocBelow _ _
  have z1 : W1.heap.size = w.heap.size + 1 + 1 := by rw [← hW1]; simp [z0]
  obtain ⟨W2, hW2⟩ : ∃ W, W1.alloc (.cells #[.string ⟨#[]⟩, .slice none 0 0, .int .i64 0, .string ⟨#[]⟩] 29) = W := ⟨_, rfl⟩
  have f2 : Rf W2 (w.heap.size + 1 + 1) [.string ⟨#[]⟩, .slice none 0 0, .int .i64 0, .string ⟨#[]⟩] := by rw [← hW2, ← z1]; exact Rf.new _ _ _
  have b2 : Below W1.heap.size W1 W2 := by rw [← hW2]; exact allocBelow _ _
  have z2 : W2.heap.size = w.heap.size + 1 + 1 + 1 := by rw [← hW2]; simp [z1]
  replace f0 := (f0.below (by omega) b1).below (by omega) b2
  replace f1 := f1.below (by omega) b2
  have B2 : Below w.heap.size w W2 := (B0.trans (b1.mono (by omega))).trans (b2.mono (by omega))
  have p0 := f0.at_ 0 _ rfl
  have p1 := f0.at_ 1 _ rfl
  have q0 := f2.at_ 0 _ rfl
  have y0 := f2.fz 0
  clear B0 b1 b2
  go_enter Tryd.func8, Tryd.ntmps8
  go_wp2_with fail
  obtain ⟨W3, hW3⟩ : ∃ W, W2.setCell ⟨w.heap.size + 1 + 1, 0, none⟩ (.string t) = W := ⟨_, rfl⟩
  have h0 : Rf W3 w.heap.size [.string t, .slice a ss.length cap, .int .i64 tm, .string no] := by rw [← hW3]; exact f0.other (by omega) _
  have h1 : Rf W3 (w.heap.size + 1) [.string ⟨#[]⟩, .slice none 0 0, .int .i64 0, .string ⟨#[]⟩] := by rw [← hW3]; exact f1.other (by omega) _
  have h2 : Rf W3 (w.heap.size + 1 + 1) [.string t, .slice none 0 0, .int .i64 0, .string ⟨#[]⟩] := by rw [← hW3]; exact f2.set (by simp) _
  have B3 : Below w.heap.size w W3 := by rw [← hW3]; exact B2.setCell (p := ⟨w.heap.size + 1 + 1, 0, none⟩) (by show _ ≤ w.heap.size + 1 + 1; omega) _
  have z3 : W3.heap.size = W2.heap.size := by rw [← hW3]; simp [World.setCell]
  have hz : w.heap.size + 1 + 1 < W3.heap.size := by omega
  rw [hW3]
  clear hW3 p0 p1 q0 y0 f0 f1 f2 hW0 hW1 hW2 z3 z2 z1 z0
  refine (toStringS _ _ _ _ (hs.below B3) hn).mono ?_; rintro e w4 ⟨rfl, o4, b4⟩
  have B4 := B3.trans (b4.mono B3.size)
  replace h0 := h0.below (by omega) b4
  replace h1 := h1.below (by omega) b4
  replace h2 := h2.below (by omega) b4
  have p2 := h0.at_ 2 _ rfl
  have p3 := h0.at_ 3 _ rfl
  have q0 := h2.at_ 0 _ rfl
  have q1 := h2.at_ 1 _ rfl
  have q2 := h2.at_ 2 _ rfl
  have q3 := h2.at_ 3 _ rfl
  have y1 := h2.fz 1
  have y2 := h2.fz 2
  have y3 := h2.fz 3
  have e0 := h1.at_ 0 _ rfl
  have e1 := h1.at_ 1 _ rfl
  have e2 := h1.at_ 2 _ rfl
  have e3 := h1.at_ 3 _ rfl
  have v0 := h1.fz 0
  have v1 := h1.fz 1
  have v2 := h1.fz 2
  have v3 := h1.fz 3
  have HO : Hid ((((((((w4.setCell ⟨w.heap.size + 1 + 1, 1, none⟩ (.slice (some ⟨W3.heap.size, 0, none⟩) ss.length ss.length)).setCell ⟨w.heap.size + 1 + 1, 2, none⟩ (.int .i64 tm)).setCell ⟨w.heap.size + 1 + 1, 3, none⟩ (.string no)).setCell ⟨w.heap.size + 1, 0, none⟩ (.string t)).setCell ⟨w.heap.size + 1, 1, none⟩ (.slice (some ⟨W3.heap.size, 0, none⟩) ss.length ss.length)).setCell ⟨w.heap.size + 1, 2, none⟩ (.int .i64 tm)).setCell ⟨w.heap.size + 1, 3, none⟩ (.string no)).ownsRow w.heap.size 9 1 (.slice (some ⟨W3.heap.size, 0, none⟩) ss.length ss.length) ss.length (ss.map Value.string)) := by
    have o5 := o4.kept (grownTrans (grownTrans (grownSet w4 (w.heap.size + 1 + 1) 1 (.slice (some ⟨W3.heap.size, 0, none⟩) ss.length ss.length)) (grownSet _ (w.heap.size + 1 + 1) 2 (.int .i64 tm))) (grownSet _ (w.heap.size + 1 + 1) 3 (.string no))) (blockCases _ _ fun j c1 c2 => by cases c2; have := (o4.lt _ c1).1; omega)
    have o6 := o5.kept (grownTrans (grownTrans (grownTrans (grownSet _ (w.heap.size + 1) 0 (.string t)) (grownSet _ (w.heap.size + 1) 1 (.slice (some ⟨W3.heap.size, 0, none⟩) ss.length ss.length))) (grownSet _ (w.heap.size + 1) 2 (.int .i64 tm))) (grownSet _ (w.heap.size + 1) 3 (.string no))) (blockCases _ _ fun j c1 c2 => by cases c2; have := (o4.lt _ c1).1; omega)
    exact ownMono o6 (by omega)
  have HB : Hid (Below w.heap.size w (((((((w4.setCell ⟨w.heap.size + 1 + 1, 1, none⟩ (.slice (some ⟨W3.heap.size, 0, none⟩) ss.length ss.length)).setCell ⟨w.heap.size + 1 + 1, 2, none⟩ (.int .i64 tm)).setCell ⟨w.heap.size + 1 + 1, 3, none⟩ (.string no)).setCell ⟨w.heap.size + 1, 0, none⟩ (.string t)).setCell ⟨w.heap.size + 1, 1, none⟩ (.slice (some ⟨W3.heap.size, 0, none⟩) ss.length ss.length)).setCell ⟨w.heap.size + 1, 2, none⟩ (.int .i64 tm)).setCell ⟨w.heap.size + 1, 3, none⟩ (.string no))) := (((((((B4.setCell (p := ⟨w.heap.size + 1 + 1, 1, none⟩) (by show _ ≤ w.heap.size + 1 + 1; omega) _).setCell (p := ⟨w.heap.size + 1 + 1, 2, none⟩) (by show _ ≤ w.heap.size + 1 + 1; omega) _).setCell (p := ⟨w.heap.size + 1 + 1, 3, none⟩) (by show _ ≤ w.heap.size + 1 + 1; omega) _).setCell (p := ⟨w.heap.size + 1, 0, none⟩) (by show _ ≤ w.heap.size + 1; omega) _).setCell (p := ⟨w.heap.size + 1, 1, none⟩) (by show _ ≤ w.heap.size + 1; omega) _).setCell (p := ⟨w.heap.size + 1, 2, none⟩) (by show _ ≤ w.heap.size + 1; omega) _).setCell (p := ⟨w.heap.size + 1, 3, none⟩) (by show _ ≤ w.heap.size + 1; omega) _)
  clear h0 h1 h2 o4 b4 B4 B3 B2
  go_wp2
  refine bodyPost_ret (v := .agg #[.string t, .slice (some ⟨W3.heap.size, 0, none⟩) ss.length ss.length, .int .i64 tm, .string no]) (by simp [results, Tryd.results8, go_sem, e0, e1, e2, e3]) rfl ?_
  exact ⟨W3.heap.size, by omega, rfl, HO.out, HB.out⟩
end Go.Proofs.YtibgfngicijnlamDoor
