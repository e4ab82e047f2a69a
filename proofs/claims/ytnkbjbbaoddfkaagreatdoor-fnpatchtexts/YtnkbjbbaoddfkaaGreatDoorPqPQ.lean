/- impl.ParsePatch, where readHunks keeps its contract. No statement is proved here. -/
import Derived.Test.YtnkbjbbaoddfkaaGreatDoorRows
import Derived.Test.YtnkbjbbaoddfkaaGreatDoorLemQ
import Derived.Test.YtnkbjbbaoddfkaaGreatDoorDTabQ
import Derived.Test.YtnkbjbbaoddfkaaGreatDoorHkLQ
import Derived.Test.YtnkbjbbaoddfkaaGreatDoorHkTQ
import Derived.Test.YtnkbjbbaoddfkaaGreatDoorHfCQ
import Derived.Test.YtnkbjbbaoddfkaaGreatDoorHfIQ
import Derived.Test.YtnkbjbbaoddfkaaGreatDoorHnLQ
import Derived.Test.YtnkbjbbaoddfkaaGreatDoorHrRQ
import Derived.Test.YtnkbjbbaoddfkaaGreatDoorRvLQ
import Derived.Test.YtnkbjbbaoddfkaaGreatDoorFiCQ
import Derived.Test.YtnkbjbbaoddfkaaGreatDoorPpMQ
import Derived.Test.YtnkbjbbaoddfkaaGreatDoorPpRQ
import Derived.Test.YtnkbjbbaoddfkaaGreatDoorPqTQ
import Derived.Test.YtnkbjbbaoddfkaaGreatDoorPqNQ
import Derived.Test.YtnkbjbbaoddfkaaGreatDoorPqJQ
import Derived.WalkKit
import Derived.ProofKit
import Derived.Below
import Derived.WalkSpells
import Derived.Defers
import Derived.Recover
set_option linter.unusedVariables false
namespace Go.Proofs.YtnkbjbbaoddfkaaGreatDoor.Pp
open Go.ChangeShapes Go.WideShapes Go.ChangeAt Go.RowKit

/-- What readHunks does. -/
def RhP (t : ByteArray) (R : Nat) (w : World) (e : Ending) (w' : World) : Prop :=
  (∃ L sl a c s, pp t = (L, true) ∧ Tiny t.size L ∧ L.length ≤ t.size ∧ e = .returned (.tuple #[]) ∧ HO (R + 1) w' (.slice a L.length c) L sl ∧ Rf w' R [s, .slice a L.length c] ∧ Below R w w') ∨
  (∃ L a c s, pp t = (L, false) ∧ L.length ≤ t.size ∧ Pan e ∧ Rf w' R [s, .slice a L.length c] ∧ Below R w w')
def ReadC : Prop := ∀ (t : ByteArray) (R : Nat) (w : World), Rf w R [.string t, .slice none 0 0] → R < w.heap.size → UnG w → PeG w → TaG w → 9 ≤ R → t.size ≤ 8000 →
  Calls Tryz.prog 18 #[.pointer (some ⟨R, 0, none⟩)] w fun e w' => RhP t R w e w'
theorem rfB {w w' : World} {b B : Nat} {vs : List Value} (h : Rf w b vs) (hp : b < B) (hb : Below B w w') : Rf w' b vs :=
  ⟨fun k v hk => (hb.cell (p := ⟨b, k, none⟩) hp).trans (h.at_ k v hk), fun k => (hb.frozen (p := ⟨b, k, none⟩) hp).trans (h.fz k)⟩
set_option maxRecDepth 20000 in
set_option maxHeartbeats 4000000 in
theorem implParsePatch (hRC : ReadC) (t : ByteArray) (w : World) (ht : t.size ≤ 1048576) (hg : UnG w) (hP : PeG w) (hTa : TaG w) (hG : 9 ≤ w.heap.size) :
    Calls Tryz.prog 6 #[.string t] w fun e w' => HP (ppR t) (ppA t) (ppH t) w e w' := by
  have hmf : ∀ (fn : Fn) (first cap : Array Value) (w : World), (Instr.makeFunc fn first cap).run Tryz.prog w = .ok (.func fn first cap) w := fun _ _ _ _ => rfl
  obtain ⟨b, hb⟩ : ∃ b, w.heap.size = b := ⟨_, rfl⟩
  obtain ⟨W1, hW1⟩ : ∃ W, w.alloc (.cells #[.int .i64 0, .int .i64 0, .slice none 0 0] 27) = W := ⟨_, rfl⟩
  have b1 : Below b w W1 := by rw [← hW1, ← hb]; exact allocBelow _ _
  have r1 : Rf W1 b [.int .i64 0, .int .i64 0, .slice none 0 0] := by rw [← hW1, ← hb]; exact Rf.new _ _ _
  have z1 : W1.heap.size = b + 1 := by rw [← hW1, ← hb]; simp
  by_cases hbig : 8000 < t.size
  · have q : (8000 : Int) < (t.size : Int) := by omega
    have HR : Hid (ppR t = 2 ∧ ppA t = 0 ∧ ppH t = []) := pp_many hbig
    have d0 := r1.at_ 0 _ rfl
    have d1 := r1.at_ 1 _ rfl
    have d2 := r1.at_ 2 _ rfl
    have f0 := r1.fz 0
    have f1 := r1.fz 1
    have f2 := r1.fz 2
    clear r1
    go_enter_defers Tryz.func6, Tryz.ntmps6
    go_wp2
    have HF : HP (ppR t) (ppA t) (ppH t) w (.returned (.agg #[.int .i64 2, .int .i64 0, .slice none 0 0])) (((W1.setCell ⟨b, 0, none⟩ (.int .i64 2)).setCell ⟨b, 1, none⟩ (.int .i64 0)).setCell ⟨b, 2, none⟩ (.slice none 0 0)) := by
      refine ⟨_, fun _ => .slice none 0 0, ret_h HR.out.1.symm HR.out.2.1.symm, ?_, ?_⟩
      · rw [HR.out.2.2]; exact HO.nil _ _ _
      · rw [hb]; exact below3 b1 _ _ _
    simp [bodyPostD, Leaves, results, Tryz.results6, go_sem, d0, d1, d2]
    exact HF
  have q : ¬ (8000 : Int) < (t.size : Int) := by omega
  have HBig : Hid (¬ 8000 < t.size) := hbig
  obtain ⟨W2, hW2⟩ : ∃ W, W1.alloc (.cells #[.string t, .slice none 0 0] 48) = W := ⟨_, rfl⟩
  have b2 : Below W1.heap.size W1 W2 := by rw [← hW2]; exact allocBelow _ _
  have r2 : Rf W2 (b + 1) [.string t, .slice none 0 0] := by rw [← hW2, ← z1]; exact Rf.new _ _ _
  have z2 : W2.heap.size = b + 2 := by rw [← hW2]; simp [z1]
  have Z2 := r1.below (by omega) b2
  have B2 : Below b w W2 := b1.trans (b2.mono (by omega))
  have hR := hRC t (b + 1) W2 r2 (by omega) (hg.below B2 (by omega)) (hP.below B2 (by omega) (by omega)) (hTa.below B2 (by omega)) (by omega) (by omega)
  have e0 := r2.at_ 0 _ rfl
  have e1 := r2.at_ 1 _ rfl
  have g0 := r2.fz 0
  have g1 := r2.fz 1
  have s1 := setCell_id e1
  go_enter_defers Tryz.func6, Tryz.ntmps6
  go_wp2_with fail
  refine hR.mono ?_
  clear hR e0 e1 g0 g1 s1 hW1 hW2
  rintro e w3 (⟨L, sl, a, c, s, hp, hTi, hLl, rfl, hO, R3, b3⟩ | ⟨L, a, c, s, hp, hLl, ⟨T, u, rfl⟩, R3, b3⟩)
  · have Z3 := rfB Z2 (by omega) b3
    have B3 : Below b w w3 := B2.trans (b3.mono (by omega))
    obtain ⟨x1, x2, x3⟩ := pp_all HBig.out (by rw [hp])
    rw [hp] at x1 x3
    have EE : Hid (ppR t = hf L ∧ ppA t = 0 ∧ ppH t = if hf L = 0 then L else []) := ⟨x1, x2, x3⟩
    obtain ⟨tf, ts⟩ := hTi.fits (by omega)
    have hF := implHunksFault a c L w3 (hO.read tf) (by omega) ts
    have e1 := R3.at_ 1 _ rfl
    clear x1 x2 x3 tf ts hp hTi r1 r2 b1 b2 Z2
    go_wp2_with fail
    refine hF.mono ?_
    clear hF
    rintro e w4 ⟨rfl, b4⟩
    have z3 := b3.size
    have z4 := b4.size
    have H4 := hO.below b4
    have R4 := R3.below (by omega) b4
    have Z4 := Z3.below (by omega) b4
    have B4 : Below b w w4 := B3.trans (b4.mono (by omega))
    have e4 := R4.at_ 1 _ rfl
    have d0 := Z4.at_ 0 _ rfl
    have d1 := Z4.at_ 1 _ rfl
    have d2 := Z4.at_ 2 _ rfl
    have f0 := Z4.fz 0
    have f1 := Z4.fz 1
    have f2 := Z4.fz 2
    clear e1 R3 Z3 R4 Z4 hO b3 b4
    by_cases h0 : hf L = 0
    · have ER : Hid (ppR t = 0 ∧ ppA t = 0 ∧ ppH t = L) := ⟨EE.out.1.trans h0, EE.out.2.1, EE.out.2.2.trans (if_pos h0)⟩
      have HB := below_set3 B4 (Nat.le_refl b) (.int .i64 0) (.int .i64 0) (.slice a L.length c)
      have HH : HO b (((w4.setCell ⟨b, 0, none⟩ (.int .i64 0)).setCell ⟨b, 1, none⟩ (.int .i64 0)).setCell ⟨b, 2, none⟩ (.slice a L.length c)) (.slice a L.length c) L sl := (H4.grown (grownSet3 w4 b _ _ _) (by omega)).mono (by omega)
      have HF : Hid (HP (ppR t) (ppA t) (ppH t) w (.returned (.agg #[.int .i64 0, .int .i64 0, .slice a L.length c])) (((w4.setCell ⟨b, 0, none⟩ (.int .i64 0)).setCell ⟨b, 1, none⟩ (.int .i64 0)).setCell ⟨b, 2, none⟩ (.slice a L.length c))) := by
        refine ⟨_, sl, ret_h ER.out.1.symm ER.out.2.1.symm, ?_, ?_⟩
        · rw [ER.out.2.2, hb]; exact HH
        · rw [hb]; exact HB
      clear EE H4 B4 HB HH
      go_wp2
      refine leaves_cons (f := 17) (args := #[.pointer (some ⟨b + 1, 0, none⟩), .pointer (some ⟨b, 0, none⟩)]) (by simp) (by simp [go_sem]) ?_
      refine (catch_idle (b + 1) b _).mono ?_
      rintro e u' w'' ⟨rfl, rfl, rfl⟩
      simp [Leaves, settle, results, Tryz.results6, go_sem, d0, d1, d2]
      exact HF.out
    · have ER : Hid (ppR t = hf L ∧ ppA t = 0 ∧ ppH t = []) := ⟨EE.out.1, EE.out.2.1, EE.out.2.2.trans (if_neg h0)⟩
      have HF : Hid (HP (ppR t) (ppA t) (ppH t) w (.returned (.agg #[.int .i64 (hf L), .int .i64 0, .slice none 0 0])) (((w4.setCell ⟨b, 0, none⟩ (.int .i64 (hf L))).setCell ⟨b, 1, none⟩ (.int .i64 0)).setCell ⟨b, 2, none⟩ (.slice none 0 0))) := by
        refine ⟨_, fun _ => .slice none 0 0, ret_h ER.out.1.symm ER.out.2.1.symm, ?_, ?_⟩
        · rw [ER.out.2.2]; exact HO.nil _ _ _
        · rw [hb]; exact below3 B4 _ _ _
      clear EE H4 B4
      go_wp2
      refine leaves_cons (f := 17) (args := #[.pointer (some ⟨b + 1, 0, none⟩), .pointer (some ⟨b, 0, none⟩)]) (by simp) (by simp [go_sem]) ?_
      refine (catch_idle (b + 1) b _).mono ?_
      rintro e u' w'' ⟨rfl, rfl, rfl⟩
      simp [Leaves, settle, results, Tryz.results6, go_sem, d0, d1, d2]
      exact HF.out
  · have Z3 := rfB Z2 (by omega) b3
    have B3 : Below b w w3 := B2.trans (b3.mono (by omega))
    have ER : ppR t = 5 ∧ ppA t = L.length ∧ ppH t = [] := by
      have := pp_bad HBig.out (by rw [hp])
      rw [hp] at this
      exact this
    have HF : Hid (HP (ppR t) (ppA t) (ppH t) w (.returned (.agg #[.int .i64 5, .int .i64 L.length, .slice none 0 0])) (((w3.setCell ⟨b, 0, none⟩ (.int .i64 5)).setCell ⟨b, 1, none⟩ (.int .i64 L.length)).setCell ⟨b, 2, none⟩ (.slice none 0 0))) := by
      refine ⟨_, fun _ => .slice none 0 0, ret_h ER.1.symm ER.2.1.symm, ?_, ?_⟩
      · rw [ER.2.2]; exact HO.nil _ _ _
      · rw [hb]; exact below3 B3 _ _ _
    have d0 := Z3.at_ 0 _ rfl
    have d1 := Z3.at_ 1 _ rfl
    have d2 := Z3.at_ 2 _ rfl
    go_wp2
    refine leaves_cons (f := 17) (args := #[.pointer (some ⟨b + 1, 0, none⟩), .pointer (some ⟨b, 0, none⟩)]) (by simp) (by simp [go_sem]) ?_
    refine (catch_panicking (b + 1) b L.length c a s _ _ _ _ _ [] _ R3 Z3 (by omega)).mono ?_
    rintro e u' w'' ⟨rfl, rfl, rfl⟩
    simp [Leaves, settle, results, Tryz.results6, go_sem, d0, d1, d2]
    exact HF.out
end Go.Proofs.YtnkbjbbaoddfkaaGreatDoor.Pp
