/- The contracts of the laws' helpers over one hunk. No statement is proved here. -/
import Derived.Test.YtbghdelpnodijaaDoorRows
import Derived.Test.YtbghdelpnodijaaDoorLem
import Derived.Test.YtbghdelpnodijaaDoorStrs
import Derived.Test.YtbghdelpnodijaaDoorDTab
import Derived.Test.YtbghdelpnodijaaDoorOwn
import Derived.Test.YtbghdelpnodijaaDoorFr
import Derived.WalkKit
import Derived.ProofKit
import Derived.Below
import Derived.WalkSpells
namespace Go.Proofs.YtbghdelpnodijaaDoor
open Go.ChangeShapes Go.WideShapes Go.ChangeAt Go.RowKit

/-- The cells of a struct that a variable holds, and that they may be written. -/
structure Rf (w : World) (b : Nat) (vs : List Value) : Prop where
  at_ : ∀ k v, vs[k]? = some v → w.cell? ⟨b, k, none⟩ = some v
  fz : ∀ k, w.frozen? ⟨b, k, none⟩ = false
theorem Rf.new (w : World) (vs : Array Value) (t : TypeId) : Rf (w.alloc (.cells vs t)) w.heap.size vs.toList := ⟨Rs.new w vs t, fun k => by unfold World.frozen?; rw [heap_alloc_new]; simp⟩
theorem Rf.below {w w' : World} {b : Nat} {vs : List Value} (h : Rf w b vs) (hp : b < w.heap.size) (hb : Below w.heap.size w w') : Rf w' b vs :=
  ⟨fun k v hk => (hb.cell (p := ⟨b, k, none⟩) hp).trans (h.at_ k v hk), fun k => (hb.frozen (p := ⟨b, k, none⟩) hp).trans (h.fz k)⟩
theorem Rf.other {w : World} {b b' o : Nat} {vs : List Value} (h : Rf w b vs) (hne : b ≠ b') (v : Value) : Rf (w.setCell ⟨b', o, none⟩ v) b vs :=
  ⟨fun k u hk => by rw [World.cell?_setCell_other _ _ _ _ (by intro c; simp only [Addr.mk.injEq] at c; exact hne (by omega))]; exact h.at_ k u hk, fun k => by rw [World.frozen?_setCell]; exact h.fz k⟩
theorem Rf.set {w : World} {b o : Nat} {vs : List Value} (h : Rf w b vs) (ho : o < vs.length) (v : Value) : Rf (w.setCell ⟨b, o, none⟩ v) b (vs.set o v) :=
  ⟨fun k u hk => by
    by_cases e : k = o
    · subst e
      rw [World.cell?_setCell_same _ _ _ (h.at_ k vs[k] (List.getElem?_eq_getElem ho))]
      simpa [ho] using hk
    · rw [World.cell?_setCell_other _ _ _ _ (by intro c; simp only [Addr.mk.injEq] at c; omega)]
      rw [List.getElem?_set_ne (by omega)] at hk
      exact h.at_ k u hk, fun k => by rw [World.frozen?_setCell]; exact h.fz k⟩

theorem szHunk (x0 x1 : Int) (a : Option Addr) (cap : Nat) (ss : List ByteArray) (l : Int) (w : World) (hs : SS w a ss) (hn : ss.length ≤ 9223372036854775807) (hl0 : 0 ≤ l) (hl1 : l ≤ 1048576) :
    Calls Tryd.prog 16 #[.agg #[.int .i64 x0, .int .i64 x1, .slice a ss.length cap], .int .i64 l] w fun e w' => e = .returned (.int .i64 (left l ss)) ∧ Below w.heap.size w w' := by
  have hB : ∀ o, Below w.heap.size w (w.alloc o) := fun o => (Below.refl _ _).alloc (Nat.le_refl _) _
  have hL : left l ss < 0 → left l ss = -1 := fun h => by unfold left at h ⊢; split at h <;> simp_all
  have H := fun W h => szStringS a cap ss l W h hn hl0 hl1
  obtain ⟨M, hM⟩ : ∃ M, left l ss = M := ⟨_, rfl⟩
  rw [hM] at H hL ⊢
  clear hM
  by_cases hneg : M < 0
  · have e := hL hneg
    subst e
    clear hL
    go_enter Tryd.func16, Tryd.ntmps16
    go_wp2_with fail
    refine (H _ (hs.below (hB _))).mono ?_; rintro e w1 ⟨rfl, rfl⟩
    go_wp2_with fail
    go_ret
    exact ⟨rfl, hB _⟩
  · clear hL
    go_enter Tryd.func16, Tryd.ntmps16
    go_wp2_with fail
    refine (H _ (hs.below (hB _))).mono ?_; rintro e w1 ⟨rfl, rfl⟩
    go_wp2_with fail
    go_ret
    exact ⟨rfl, hB _⟩

set_option maxRecDepth 20000 in
set_option maxHeartbeats 2000000 in
theorem toHunk (x0 x1 : Int) (a : Option Addr) (cap : Nat) (ss : List ByteArray) (w : World) (hs : SS w a ss) (hn : ss.length ≤ 1048576) :
    Calls Tryd.prog 19 #[.agg #[.int .i64 x0, .int .i64 x1, .slice a ss.length cap]] w fun e w' => ∃ g, w.heap.size < g ∧ e = .returned (.agg #[.int .i64 x0, .int .i64 x1, .slice (some ⟨g, 0, none⟩) ss.length ss.length]) ∧
      w'.ownsRow w.heap.size 9 1 (.slice (some ⟨g, 0, none⟩) ss.length ss.length) ss.length (ss.map Value.string) ∧ Below w.heap.size w w' := by
  obtain ⟨W0, hW0⟩ : ∃ W, w.alloc (.cells #[.int .i64 x0, .int .i64 x1, .slice a ss.length cap] 41) = W := ⟨_, rfl⟩
  have f0 : Rf W0 w.heap.size [.int .i64 x0, .int .i64 x1, .slice a ss.length cap] := by rw [← hW0]; exact Rf.new _ _ _
  have B0 : Below w.heap.size w W0 := by rw [← hW0]; exact allocBelow _ _
  have z0 : W0.heap.size = w.heap.size + 1 := by rw [← hW0]; simp
  obtain ⟨W1, hW1⟩ : ∃ W, W0.alloc (.cells #[.int .i64 0, .int .i64 0, .slice none 0 0] 44) = W := ⟨_, rfl⟩
  have f1 : Rf W1 (w.heap.size + 1) [.int .i64 0, .int .i64 0, .slice none 0 0] := by rw [← hW1, ← z0]; exact Rf.new _ _ _
  have b1 : Below W0.heap.size W0 W1 := by rw [← hW1]; exact allocBelow _ _
  have z1 : W1.heap.size = w.heap.size + 1 + 1 := by rw [← hW1]; simp [z0]
  obtain ⟨W2, hW2⟩ : ∃ W, W1.alloc (.cells #[.int .i64 0, .int .i64 0, .slice none 0 0] 44) = W := ⟨_, rfl⟩
  have f2 : Rf W2 (w.heap.size + 1 + 1) [.int .i64 0, .int .i64 0, .slice none 0 0] := by rw [← hW2, ← z1]; exact Rf.new _ _ _
  have b2 : Below W1.heap.size W1 W2 := by rw [← hW2]; exact allocBelow _ _
  have z2 : W2.heap.size = w.heap.size + 1 + 1 + 1 := by rw [← hW2]; simp [z1]
  replace f0 := (f0.below (by omega) b1).below (by omega) b2
  replace f1 := f1.below (by omega) b2
  have B2 : Below w.heap.size w W2 := (B0.trans (b1.mono (by omega))).trans (b2.mono (by omega))
  have p0 := f0.at_ 0 _ rfl
  have p1 := f0.at_ 1 _ rfl
  have p2 := f0.at_ 2 _ rfl
  have q0 := f2.at_ 0 _ rfl
  have q1 := f2.at_ 1 _ rfl
  have y0 := f2.fz 0
  have y1 := f2.fz 1
  clear B0 b1 b2
  go_enter Tryd.func19, Tryd.ntmps19
  go_wp2_with fail
  obtain ⟨W3, hW3⟩ : ∃ W, (W2.setCell ⟨w.heap.size + 1 + 1, 0, none⟩ (.int .i64 x0)).setCell ⟨w.heap.size + 1 + 1, 1, none⟩ (.int .i64 x1) = W := ⟨_, rfl⟩
  have h1 : Rf W3 (w.heap.size + 1) [.int .i64 0, .int .i64 0, .slice none 0 0] := by rw [← hW3]; exact (f1.other (by omega) _).other (by omega) _
  have h2 : Rf W3 (w.heap.size + 1 + 1) [.int .i64 x0, .int .i64 x1, .slice none 0 0] := by rw [← hW3]; exact (f2.set (by simp) _).set (by simp) _
  have B3 : Below w.heap.size w W3 := by rw [← hW3]; exact (B2.setCell (p := ⟨w.heap.size + 1 + 1, 0, none⟩) (by show _ ≤ w.heap.size + 1 + 1; omega) _).setCell (p := ⟨w.heap.size + 1 + 1, 1, none⟩) (by show _ ≤ w.heap.size + 1 + 1; omega) _
  have z3 : W3.heap.size = W2.heap.size := by rw [← hW3]; simp [World.setCell]
  have hz : w.heap.size + 1 + 1 < W3.heap.size := by omega
  rw [hW3]
  clear hW3 p0 p1 p2 q0 q1 y0 y1 f0 f1 f2 hW0 hW1 hW2 z3 z2 z1 z0
  refine (toStringS _ _ _ _ (hs.below B3) hn).mono ?_; rintro e w4 ⟨rfl, o4, b4⟩
  have B4 := B3.trans (b4.mono B3.size)
  replace h1 := h1.below (by omega) b4
  replace h2 := h2.below (by omega) b4
  obtain ⟨sl, hsl⟩ : ∃ sl, Value.slice (some ⟨W3.heap.size, 0, none⟩) ss.length ss.length = sl := ⟨_, rfl⟩
  have q0 := h2.at_ 0 _ rfl
  have q1 := h2.at_ 1 _ rfl
  have q2 := h2.at_ 2 _ rfl
  have y2 := h2.fz 2
  have e0 := h1.at_ 0 _ rfl
  have e1 := h1.at_ 1 _ rfl
  have e2 := h1.at_ 2 _ rfl
  have v0 := h1.fz 0
  have v1 := h1.fz 1
  have v2 := h1.fz 2
  have HO : Hid (((((w4.setCell ⟨w.heap.size + 1 + 1, 2, none⟩ (.slice (some ⟨W3.heap.size, 0, none⟩) ss.length ss.length)).setCell ⟨w.heap.size + 1, 0, none⟩ (.int .i64 x0)).setCell ⟨w.heap.size + 1, 1, none⟩ (.int .i64 x1)).setCell ⟨w.heap.size + 1, 2, none⟩ (.slice (some ⟨W3.heap.size, 0, none⟩) ss.length ss.length)).ownsRow w.heap.size 9 1 (.slice (some ⟨W3.heap.size, 0, none⟩) ss.length ss.length) ss.length (ss.map Value.string)) := by
    have o5 := o4.kept (grownSet w4 (w.heap.size + 1 + 1) 2 (.slice (some ⟨W3.heap.size, 0, none⟩) ss.length ss.length)) (blockCases _ _ fun j c1 c2 => by cases c2; have := (o4.lt _ c1).1; omega)
    have o6 := o5.kept (grownTrans (grownTrans (grownSet _ (w.heap.size + 1) 0 (.int .i64 x0)) (grownSet _ (w.heap.size + 1) 1 (.int .i64 x1))) (grownSet _ (w.heap.size + 1) 2 (.slice (some ⟨W3.heap.size, 0, none⟩) ss.length ss.length))) (blockCases _ _ fun j c1 c2 => by cases c2; have := (o4.lt _ c1).1; omega)
    exact ownMono o6 (by omega)
  have HB : Hid (Below w.heap.size w ((((w4.setCell ⟨w.heap.size + 1 + 1, 2, none⟩ (.slice (some ⟨W3.heap.size, 0, none⟩) ss.length ss.length)).setCell ⟨w.heap.size + 1, 0, none⟩ (.int .i64 x0)).setCell ⟨w.heap.size + 1, 1, none⟩ (.int .i64 x1)).setCell ⟨w.heap.size + 1, 2, none⟩ (.slice (some ⟨W3.heap.size, 0, none⟩) ss.length ss.length))) :=
    (((B4.setCell (p := ⟨w.heap.size + 1 + 1, 2, none⟩) (by show _ ≤ w.heap.size + 1 + 1; omega) _).setCell (p := ⟨w.heap.size + 1, 0, none⟩) (by show _ ≤ w.heap.size + 1; omega) _).setCell (p := ⟨w.heap.size + 1, 1, none⟩) (by show _ ≤ w.heap.size + 1; omega) _).setCell (p := ⟨w.heap.size + 1, 2, none⟩) (by show _ ≤ w.heap.size + 1; omega) _
  clear h1 h2 o4 b4 B4 B3 B2 hsl
  go_wp2
  refine bodyPost_ret (v := .agg #[.int .i64 x0, .int .i64 x1, .slice (some ⟨W3.heap.size, 0, none⟩) ss.length ss.length]) (by simp [results, Tryd.results19, go_sem, e0, e1, e2]) rfl ?_
  exact ⟨W3.heap.size, by omega, rfl, HO.out, HB.out⟩
end Go.Proofs.YtbghdelpnodijaaDoor
