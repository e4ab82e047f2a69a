/- The contract of the program's codeOf. No statement is proved here. -/
import Derived.Test.YtgidcncmicmggamGreatDoorRows
import Derived.Test.YtgidcncmicmggamGreatDoorLem
import Derived.Test.YtgidcncmicmggamGreatDoorAsC
import Derived.Test.YtgidcncmicmggamGreatDoorAsD
import Derived.WalkKit
import Derived.ProofKit
import Derived.Below
namespace Go.Proofs.YtgidcncmicmggamGreatDoor
open Go.RowKit

/-- The variable that errors.As reads. -/
def ErrG (w : World) : Prop := w.cell? ⟨1, 0, none⟩ = some (.iface 216 (.agg #[.pointer (some ⟨11, 58, none⟩)]))
theorem ErrG.lt {w : World} (h : ErrG w) : 1 < w.heap.size := by
  rcases Nat.lt_or_ge 1 w.heap.size with h' | h'
  · exact h'
  · unfold ErrG at h
    simp [World.cell?, Array.getElem?_eq_none h'] at h
theorem ErrG.below {w w' : World} (h : ErrG w) (hb : Below w.heap.size w w') : ErrG w' := (hb.cell (p := ⟨1, 0, none⟩) h.lt).trans h
theorem allocB (w : World) (o : Obj) : Below w.heap.size w (w.alloc o) := (Below.refl _ _).alloc (Nat.le_refl _) _
theorem allocB2 {B : Nat} {w w' : World} (h : Below B w w') (hB : B ≤ w'.heap.size) (o : Obj) : Below B w (w'.alloc o) := h.alloc hB o

set_option maxHeartbeats 1000000 in
theorem codeOf_nil (w : World) : Calls Tryz.prog 31 #[.nilIface] w fun e w' => e = .returned (.int .i64 0) ∧ Below w.heap.size w w' := by
  have hA := fun t w => as_nil t w
  have HB : Hid (Below w.heap.size w ((w.alloc (.cells #[.nilIface] 100)).alloc (.cells #[.int .i64 0] 98))) := allocB2 (allocB w _) (by simp) _
  go_enter Tryz.func31, Tryz.ntmps31
  go_wp2_with (go_at_call 65; refine (hA _ _).mono ?_; rintro e w' ⟨rfl, rfl⟩)
  go_ret
  exact ⟨rfl, HB.out⟩

set_option maxRecDepth 20000 in
set_option maxHeartbeats 2000000 in
theorem codeOf_code (c : Int) (w : World) (hg : ErrG w) : Calls Tryz.prog 31 #[.iface 98 (.agg #[.int .i64 c])] w fun e w' => e = .returned (.int .i64 c) ∧ Below w.heap.size w w' := by
  obtain ⟨W1, hW1⟩ : ∃ W, w.alloc (.cells #[.nilIface] 100) = W := ⟨_, rfl⟩
  have b1 : Below w.heap.size w W1 := by rw [← hW1]; exact allocB _ _
  have g1 : ErrG W1 := hg.below b1
  have hM := fun q => as_miss c q W1 g1
  go_enter Tryz.func31, Tryz.ntmps31
  go_wp2_with fail
  refine (hM _).mono ?_; rintro e w2 ⟨rfl, e2⟩
  have b2 : Below W1.heap.size W1 w2 := by rw [e2]; exact allocB2 (allocB2 (allocB W1 _) (by simp) _) (by simp; omega) _
  clear hM e2 hW1
  obtain ⟨W3, hW3⟩ : ∃ W, w2.alloc (.cells #[.int .i64 0] 98) = W := ⟨_, rfl⟩
  have b3 : Below w2.heap.size w2 W3 := by rw [← hW3]; exact allocB _ _
  have B3 : Below w.heap.size w W3 := (b1.trans (b2.mono b1.size)).trans (b3.mono (Nat.le_trans b1.size b2.size))
  have g3 : ErrG W3 := (g1.below b2).below b3
  have z3 : W3.heap.size = w2.heap.size + 1 := by rw [← hW3]; simp
  have s2 := Nat.le_trans b1.size b2.size
  have t3 : W3.cell? ⟨w2.heap.size, 0, none⟩ = some (.int .i64 0) := by rw [← hW3]; simp
  have f3 : W3.frozen? ⟨w2.heap.size, 0, none⟩ = false := by rw [← hW3]; simp
  have hH := as_hitC c w2.heap.size _ W3 g3 t3 f3
  have Z3 : Hid (W3.heap.size = w2.heap.size + 1) := z3
  clear b1 b2 b3 g1 g3 z3
  go_wp2_with fail
  refine hH.mono ?_; rintro e w4 ⟨rfl, e4⟩
  have b4 : Below w2.heap.size W3 w4 := by
    have := Z3.out
    rw [e4]
    exact (allocB2 (allocB2 (allocB2 ((allocB W3 _).mono (show w2.heap.size ≤ W3.heap.size by omega)) (by simp; omega) _) (by simp; omega) _) (by simp; omega) _).setCell (p := ⟨w2.heap.size, 0, none⟩) (Nat.le_refl _) _
  have d4 : w4.cell? ⟨w2.heap.size, 0, none⟩ = some (.int .i64 c) := by
    have := Z3.out
    rw [e4]
    refine World.cell?_setCell_same _ _ _ (u := .int .i64 0) ?_
    rw [World.cell?_alloc_lt _ _ _ (by simp; omega), World.cell?_alloc_lt _ _ _ (by simp; omega), World.cell?_alloc_lt _ _ _ (by simp; omega), World.cell?_alloc_lt _ _ _ (by show w2.heap.size < W3.heap.size; omega)]
    exact t3
  have HB : Hid (Below w.heap.size w w4) := B3.trans (b4.mono s2)
  clear hH e4 b4 B3 hW3
  go_wp2
  go_ret
  exact ⟨rfl, HB.out⟩

set_option maxRecDepth 20000 in
set_option maxHeartbeats 2000000 in
theorem codeOf_read (T0 : TypeId) (u : Value) (w : World) (hg : ErrG w) : Calls Tryz.prog 31 #[.iface 100 (.agg #[.iface T0 u])] w fun e w' => e = .returned (.int .i64 5) ∧ Below w.heap.size w w' := by
  obtain ⟨W1, hW1⟩ : ∃ W, w.alloc (.cells #[.nilIface] 100) = W := ⟨_, rfl⟩
  have b1 : Below w.heap.size w W1 := by rw [← hW1]; exact allocB _ _
  have g1 : ErrG W1 := hg.below b1
  have z1 : W1.heap.size = w.heap.size + 1 := by rw [← hW1]; simp
  have t1 : W1.cell? ⟨w.heap.size, 0, none⟩ = some .nilIface := by rw [← hW1]; simp
  have f1 : W1.frozen? ⟨w.heap.size, 0, none⟩ = false := by rw [← hW1]; simp
  have hH := as_hitR T0 u w.heap.size _ W1 g1 t1 f1
  have Z1 : Hid (W1.heap.size = w.heap.size + 1) := z1
  clear z1
  go_enter Tryz.func31, Tryz.ntmps31
  go_wp2_with fail
  refine hH.mono ?_; rintro e w4 ⟨rfl, e4⟩
  have HB : Hid (Below w.heap.size w w4) := by
    have := Z1.out
    show Below _ _ _
    rw [e4]
    exact b1.trans ((allocB2 (allocB2 (allocB2 ((allocB W1 _).mono (show w.heap.size ≤ W1.heap.size by omega)) (by simp; omega) _) (by simp; omega) _) (by simp; omega) _).setCell (p := ⟨w.heap.size, 0, none⟩) (Nat.le_refl _) _)
  clear hH e4 hW1
  go_wp2
  go_ret
  exact ⟨rfl, HB.out⟩
end Go.Proofs.YtgidcncmicmggamGreatDoor
