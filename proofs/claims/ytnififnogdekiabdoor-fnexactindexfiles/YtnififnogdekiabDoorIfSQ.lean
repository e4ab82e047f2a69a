/- The contracts of IndexFiles. No statement is proved here. -/
import Derived.Test.YtnififnogdekiabDoorRows
import Derived.Test.YtnififnogdekiabDoorLemQ
import Derived.Test.YtnififnogdekiabDoorDTabQ
import Derived.Test.YtnififnogdekiabDoorInQ
import Derived.Test.YtnififnogdekiabDoorHkTQ
import Derived.Test.YtnififnogdekiabDoorWvCQ
import Derived.Test.YtnififnogdekiabDoorEnLQ
import Derived.Test.YtnififnogdekiabDoorIxMQ
import Derived.Test.YtnififnogdekiabDoorIxNQ
import Derived.Test.YtnififnogdekiabDoorIxIQ
import Derived.Test.YtnififnogdekiabDoorIxSQ
import Derived.Test.YtnififnogdekiabDoorSgCQ
import Derived.Test.YtnififnogdekiabDoorSgDQ
import Derived.Test.YtnififnogdekiabDoorSsBQ
import Derived.Test.YtnififnogdekiabDoorSsEQ
import Derived.Test.YtnififnogdekiabDoorClMQ
import Derived.Test.YtnififnogdekiabDoorClIQ
import Derived.Test.YtnififnogdekiabDoorClPQ
import Derived.Test.YtnififnogdekiabDoorClQQ
import Derived.Test.YtnififnogdekiabDoorIfCQ
import Derived.Test.YtnififnogdekiabDoorFlLQ
import Derived.Test.YtnififnogdekiabDoorFfCQ
import Derived.Test.YtnififnogdekiabDoorFfIQ
import Derived.Test.YtnififnogdekiabDoorFfSQ
import Derived.Test.YtnififnogdekiabDoorFmCQ
import Derived.WalkKit
import Derived.ProofKit
import Derived.Below
import Derived.WalkSpells
import Derived.Deep.QuietTactic
import Derived.BigQuiet
import Derived.Deep.RegionWith
import Derived.Deep.RegionHeld
import Derived.Deep.CutRange
import Derived.Maps.AppendAt
import Derived.Laws.Cover1
namespace Go.Proofs.YtnififnogdekiabDoor.En
open Go.ChangeShapes Go.WideShapes Go.ChangeAt Go.RowKit

set_option maxRecDepth 20000 in
set_option maxHeartbeats 4000000 in
theorem specIndexFiles (a : Option Addr) (c : Nat) (l : List Ob) (w : World) (h : OB w.heap.size w a l) (hs : SmallO l) (hn : l.length ≤ 1048576) :
    Calls Tryd.prog 18 #[.slice a l.length c] w fun e w' => FP (ifR l) (ifL l) w e w' := by
  have hA := fun w h => specIndexFault a c l w h hs hn
  have hB := fun w h => l10StageC a c l 0 w h hn
  have hG := fun (a : Option Addr) (c : Nat) w h => Fl.specFilesFault a c (stg l 0) w h (stg_small hs 0) (by have := stg_len l 0; omega)
  have hFF : ¬ ixf l = 0 → Hid (ifR l = ixf l ∧ ifL l = []) := fun e => by
    have e1 : ifR l = ixf l := if_neg e
    exact ⟨e1, if_neg (by rw [e1]; exact e)⟩
  have hBB : ixf l = 0 → ¬ (cl l).length = 0 → Hid (ifR l = 8 ∧ ifL l = []) := fun e k => by
    have e1 : ifR l = 8 := by unfold ifR; rw [if_pos e, if_neg k]
    exact ⟨e1, if_neg (by rw [e1]; decide)⟩
  have hGG : ixf l = 0 → (cl l).length = 0 → ¬ Fl.ffl (stg l 0) = 0 → Hid (ifR l = Fl.ffl (stg l 0) ∧ ifL l = []) := fun e k q => by
    have e1 : ifR l = Fl.ffl (stg l 0) := by unfold ifR; rw [if_pos e, if_pos k]
    exact ⟨e1, if_neg (by rw [e1]; exact q)⟩
  have hOK : ixf l = 0 → (cl l).length = 0 → Fl.ffl (stg l 0) = 0 → Hid (ifR l = 0 ∧ ifL l = stg l 0) := fun e k q => by
    have e1 : ifR l = 0 := by unfold ifR; rw [if_pos e, if_pos k, q]
    exact ⟨e1, if_pos e1⟩
  have hC : ixf l = 0 → ∀ W, OB W.heap.size W a l → Calls Tryd.prog 40 #[.slice a l.length c] W fun e w' => SN (cl l) W e w' := fun e W p => l10ClashesC a c l W p e
  obtain ⟨R, hR⟩ : ∃ R, ifR l = R := ⟨_, rfl⟩
  obtain ⟨L, hL⟩ : ∃ L, ifL l = L := ⟨_, rfl⟩
  rw [hR, hL] at hFF hBB hGG hOK ⊢
  obtain ⟨F, hF⟩ : ∃ F, ixf l = F := ⟨_, rfl⟩
  rw [hF] at hA hFF hBB hGG hOK hC
  obtain ⟨G, hGe⟩ : ∃ G, Fl.ffl (stg l 0) = G := ⟨_, rfl⟩
  rw [hGe] at hG hGG hOK
  obtain ⟨CL0, hCL⟩ : ∃ C0, cl l = C0 := ⟨_, rfl⟩
  rw [hCL] at hBB hGG hOK hC
  obtain ⟨T, hT⟩ : ∃ T, stg l 0 = T := ⟨_, rfl⟩
  rw [hT] at hB hG hOK
  clear hF hR hL hGe hCL hT
  obtain ⟨W1, hW1⟩ : ∃ W1, w.alloc (.cells #[.int .i64 0, .slice none 0 0] 37) = W1 := ⟨_, rfl⟩
  have b1 : Below w.heap.size w W1 := by rw [← hW1]; exact allocBelow _ _
  have zW : w.heap.size < W1.heap.size := by rw [← hW1]; simp
  have r1 : Res2 W1 w.heap.size (.int .i64 0) (.slice none 0 0) := by rw [← hW1]; exact Res2.new _ _ _ _
  have A1 := h.below b1
  go_enter Tryd.func18, Tryd.ntmps18
  go_wp2_with fail
  refine (hA _ (A1.mono (by omega))).mono ?_; rintro e w2 ⟨rfl, b2⟩
  have A2 := A1.below b2
  have r2 := r1.below zW b2
  have B2 := b1.trans (b2.mono b1.size)
  have z2 : w.heap.size < w2.heap.size := Nat.lt_of_lt_of_le zW b2.size
  clear A1 r1 b1 b2 hA hW1 h zW
  by_cases e0 : F = 0
  · replace hBB := hBB e0
    replace hGG := hGG e0
    replace hOK := hOK e0
    replace hC := hC e0
    subst e0
    clear hFF
    go_wp2_with fail
    refine (hC _ (A2.mono (by omega))).mono ?_; rintro e w3 ⟨ka, kc, rfl, s3, b3⟩
    have r3 := r2.below z2 b3
    have B3 := B2.trans (b3.mono (by omega))
    have A3 := A2.below b3
    have z3 : w.heap.size < w3.heap.size := Nat.lt_of_lt_of_le z2 b3.size
    clear r2 B2 A2 b3 hC s3
    by_cases hc0 : CL0.length = 0
    · replace hGG := hGG hc0
      replace hOK := hOK hc0
      have qc : ¬ (0 : Int) < (CL0.length : Int) := by omega
      clear hBB
      go_wp2_with fail
      refine (hB _ (A3.mono (by omega))).mono ?_; rintro e w4 ⟨v4, rfl, o4, b4⟩
      have r4 := r3.below z3 b4
      have B4 := B3.trans (b4.mono (by omega))
      have z4 : w.heap.size < w4.heap.size := Nat.lt_of_lt_of_le z3 b4.size
      obtain ⟨va, vc, ev⟩ := shapeK3 o4
      subst ev
      clear r3 B3 A3 b4 hB
      go_wp2_with fail
      refine (hG _ _ _ (Fl.OB.of o4)).mono ?_; rintro e w5 ⟨rfl, b5⟩
      have r5 := r4.below z4 b5
      have B5 := B4.trans (b5.mono (by omega))
      have o5 := o4.kept (grownOfBelow b5 none) (blockCases _ _ fun b c1 c2 => by cases c2)
      have d0 := r5.c0
      have d1 := r5.c1
      have f0 := r5.f0
      have f1 := r5.f1
      by_cases hg0 : G = 0
      · subst hg0
        have hD := hOK rfl
        obtain ⟨n, hnn⟩ : ∃ n, T.length = n := ⟨_, rfl⟩
        rw [hnn] at o5 ⊢
        have o6 : (w5.setCell ⟨w.heap.size, 0, none⟩ (.int .i64 0)).setCell ⟨w.heap.size, 1, none⟩ (.slice va n vc) |>.ownsRow w.heap.size 79 3 (.slice va n vc) n (Fl.ocells T) := (ownMonoF o5 (by omega)).kept (grownTrans (grownSet _ _ _ _) (grownSet _ _ _ _)) (blockCases _ _ fun b c1 c2 => by cases c2; have := (o5.lt _ c1).1; omega)
        have HO : Hid (World.ownsRow _ _ _ _ _ _ _) := o6
        have HB : Hid (Below w.heap.size w ((w5.setCell ⟨w.heap.size, 0, none⟩ (.int .i64 0)).setCell ⟨w.heap.size, 1, none⟩ (.slice va n vc))) := below_sets B5 (Nat.le_refl _) _ _
        clear r4 r5 B4 B5 o4 o5 o6 b5 hG hGG hOK
        go_wp2
        refine bodyPost_ret (v := .agg #[.int .i64 0, .slice va n vc]) (by simp [results, Tryd.results18, go_sem, d0, d1]) rfl ?_
        exact ⟨_, ret_agg2 (by rw [hD.out.1]) rfl, by rw [hD.out.2, hnn]; exact HO.out, HB.out⟩
      · have hD := hGG hg0
        have qn : (G != 0) = true := ne_beq hg0
        have HB : Hid (Below w.heap.size w ((w5.setCell ⟨w.heap.size, 0, none⟩ (.int .i64 G)).setCell ⟨w.heap.size, 1, none⟩ (.slice none 0 0))) := below_sets B5 (Nat.le_refl _) _ _
        clear r4 r5 B4 B5 o4 o5 b5 hG hGG hOK hg0
        go_wp2
        refine bodyPost_ret (v := .agg #[.int .i64 G, .slice none 0 0]) (by simp [results, Tryd.results18, go_sem, d0, d1]) rfl ?_
        exact ⟨_, ret_agg2 (by rw [hD.out.1]) rfl, by rw [hD.out.2]; exact nilF _ _, HB.out⟩
    · have hD := hBB hc0
      have qc : (0 : Int) < (CL0.length : Int) := by omega
      have d0 := r3.c0
      have d1 := r3.c1
      have f0 := r3.f0
      have f1 := r3.f1
      have HB : Hid (Below w.heap.size w ((w3.setCell ⟨w.heap.size, 0, none⟩ (.int .i64 8)).setCell ⟨w.heap.size, 1, none⟩ (.slice none 0 0))) := below_sets B3 (Nat.le_refl _) _ _
      clear r3 B3 A3 hBB hGG hOK hB hG hc0
      go_wp2
      refine bodyPost_ret (v := .agg #[.int .i64 8, .slice none 0 0]) (by simp [results, Tryd.results18, go_sem, d0, d1]) rfl ?_
      exact ⟨_, ret_agg2 (by rw [hD.out.1]) rfl, by rw [hD.out.2]; exact nilF _ _, HB.out⟩
  · have hD := hFF e0
    have qn : (F != 0) = true := ne_beq e0
    have d0 := r2.c0
    have d1 := r2.c1
    have f0 := r2.f0
    have f1 := r2.f1
    have HB : Hid (Below w.heap.size w ((w2.setCell ⟨w.heap.size, 0, none⟩ (.int .i64 F)).setCell ⟨w.heap.size, 1, none⟩ (.slice none 0 0))) := below_sets B2 (Nat.le_refl _) _ _
    clear r2 B2 A2 hOK hFF hBB hGG e0 hB hG hC
    go_wp2
    refine bodyPost_ret (v := .agg #[.int .i64 F, .slice none 0 0]) (by simp [results, Tryd.results18, go_sem, d0, d1]) rfl ?_
    exact ⟨_, ret_agg2 (by rw [hD.out.1]) rfl, by rw [hD.out.2]; exact nilF _ _, HB.out⟩
end Go.Proofs.YtnififnogdekiabDoor.En
