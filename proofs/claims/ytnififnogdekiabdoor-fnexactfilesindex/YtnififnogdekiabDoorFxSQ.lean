/- The contract of the specification's FilesIndex. No statement is proved here. -/
import Derived.Test.YtnififnogdekiabDoorRows
import Derived.Test.YtnififnogdekiabDoorLemQ
import Derived.Test.YtnififnogdekiabDoorComQ
import Derived.Test.YtnififnogdekiabDoorInQ
import Derived.Test.YtnififnogdekiabDoorHkTQ
import Derived.Test.YtnififnogdekiabDoorWvCQ
import Derived.Test.YtnififnogdekiabDoorFmCQ
import Derived.Test.YtnififnogdekiabDoorFlLQ
import Derived.Test.YtnififnogdekiabDoorFfCQ
import Derived.Test.YtnififnogdekiabDoorFfIQ
import Derived.Test.YtnififnogdekiabDoorFfSQ
import Derived.Test.YtnififnogdekiabDoorEnLQ
import Derived.Test.YtnififnogdekiabDoorIxMQ
import Derived.Test.YtnififnogdekiabDoorIxNQ
import Derived.Test.YtnififnogdekiabDoorIxOQ
import Derived.Test.YtnififnogdekiabDoorSgCQ
import Derived.Test.YtnififnogdekiabDoorSgDQ
import Derived.Test.YtnififnogdekiabDoorSlBQ
import Derived.Test.YtnififnogdekiabDoorSlCQ
import Derived.Test.YtnififnogdekiabDoorSlDQ
import Derived.Test.YtnififnogdekiabDoorFxCQ
import Derived.WalkKit
import Derived.ProofKit
import Derived.Below
import Derived.WalkSpells
import Derived.Deep.QuietTactic
import Derived.BigQuiet
import Derived.Deep.RegionWith
import Derived.Deep.RegionHeld
import Derived.Deep.CutRange
import Derived.Maps.AppendAt
import Derived.Laws.Cover1
namespace Go.Proofs.YtnififnogdekiabDoor.En
open Go.ChangeShapes Go.WideShapes Go.ChangeAt Go.RowKit

theorem litE (w : World) : (w.alloc (.cells #[] 62)).ownsRow w.heap.size 62 4 (.slice (some ⟨w.heap.size, 0, none⟩) 0 0) ([] : List Ob).length (ocells []) := World.ownsRow_lit w #[] 0 (Nat.le_refl _) (Nat.zero_le _) rfl
/-- What is answered: entries in memory of their own. -/
def SE (L : List Ob) (w : World) (e : Ending) (w' : World) : Prop := ∃ v, e = .returned v ∧ w'.ownsRow w.heap.size 62 4 v L.length (ocells L) ∧ Below w.heap.size w w'
set_option maxRecDepth 20000 in
set_option maxHeartbeats 4000000 in
theorem l10OfC (a : Option Addr) (c : Nat) (l : List Fl.Ob) (w : World) (h : Fl.OB w.heap.size w a l) (hn : l.length ≤ 1048576) :
    Calls Tryd.prog 55 #[.slice a l.length c] w fun e w' => SE (fxU l) w e w' := by
  go_enter Tryd.func55, Tryd.ntmps55
  go_wp2
  go_loopw [3, 4] (fun v i wr => ∃ k : Nat, k ≤ l.length ∧ i = .int .i64 k ∧ wr.ownsRow w.heap.size 62 4 v (fxU (l.take k)).length (ocells (fxU (l.take k))) ∧ Below w.heap.size w wr) (fun _ i _ => l.length - (intOf i).toNat)
  case atStart => exact ⟨0, Nat.zero_le _, rfl, litE _, allocBelow _ _⟩
  case round =>
    obtain ⟨k, hk, rfl, hor, hbel⟩ := hrel
    have hsz := hbel.size
    by_cases hlt : k < l.length
    · have qk : (k : Int) < (l.length : Int) := by omega
      obtain ⟨g, off, e, hg, d0, d1, d2⟩ := (h.below hbel) k hlt
      subst e
      have hT := fxU_take l k hlt
      have hln : (fxU (l.take k)).length ≤ 1048576 := by rw [fxU_len, List.length_take]; omega
      obtain ⟨C, hCe⟩ : ∃ C, l.getD k Fl.onil = C := ⟨_, rfl⟩
      obtain ⟨x0, x1, x2⟩ := C
      rw [hCe] at d0 d1 d2 hT
      simp only [] at d0 d1 d2
      obtain ⟨T, hTe⟩ : ∃ T, fxU (l.take k) = T := ⟨_, rfl⟩
      rw [hTe] at hor hT hln
      have HT : Hid (fxU (l.take (k + 1)) = T ++ [(x0, 0, x1, x2)]) := hT
      clear hCe hTe hT
      obtain ⟨i0, hi, hz0, hz1, hz2⟩ := info_parts infoObj
      have bN := allocBelow wr (.cells #[.string x0, .int .i64 0, .int .i64 x1, .string x2] 62)
      have o4 := hor.kept (grownOfBelow bN none) (blockCases _ _ fun b c1 c2 => by cases c2)
      have nw := newE wr (x0, 0, x1, x2)
      have B4 := below_step hbel hsz bN
      have z4 := B4.size
      have B4D := B4.drew
      clear bN hor hbel
      go_wp2
      go_region_law (refine stepApp rfl (.tmp 12) (.tmp 29) 28 rfl w.heap.size 62 i0 _ 4 48 Tryd.underlying28 hi hz0 hz1 hz2 rfl (by decide) _ _ _ rfl o4.drew ⟨wr.heap.size, 0, none⟩ 1 1 (ocells [(x0, 0, x1, x2)]) rfl rfl nw (oneE _) (by unfold maxLen; omega) (by omega) z4 ?_; intro v5 w5 o5 g5 n5)
      all_goals
      have B5 : Below w.heap.size w w5 := B4D.grown g5 z4 (fun j hj => (o4.lt j hj).1)
      have O5 : Hid (w5.ownsRow w.heap.size 62 4 v5 (T ++ [(x0, 0, x1, x2)]).length (ocells (T ++ [(x0, 0, x1, x2)]))) := by
        show World.ownsRow _ _ _ _ _ _ _
        rw [List.length_append, ocells_app]; exact o5
      clear o4 nw g5 n5 B4 o5 B4D
      go_wp2
      go_roundw
      case rel => exact ⟨k + 1, by omega, by go_num, by rw [HT.out]; exact O5.out, B5⟩
      case measure => first | (simp [intOf]; omega) | simp [intOf]
    · have qk : ¬ (k : Int) < (l.length : Int) := by omega
      have ek : l.take k = l := List.take_of_length_le (by omega)
      rw [ek] at hor
      have HO : Hid (World.ownsRow _ _ _ _ _ _ _) := hor
      clear hor ek
      go_wp2
      go_ret
      exact ⟨_, rfl, HO.out, hbel⟩
set_option maxRecDepth 20000 in
set_option maxHeartbeats 4000000 in
theorem specFilesIndex (a : Option Addr) (c : Nat) (l : List Fl.Ob) (w : World) (h : Fl.OB w.heap.size w a l) (hs : Fl.SmallO l) (hn : l.length ≤ 1048576) :
    Calls Tryd.prog 24 #[.slice a l.length c] w fun e w' => EP (fxR l) 0 (fxL l) w e w' := by
  have hA := fun w h => Fl.specFilesFault a c l w h hs hn
  have hFF : ¬ Fl.ffl l = 0 → Hid (fxR l = Fl.ffl l ∧ fxL l = []) := fun e => ⟨rfl, if_neg e⟩
  have hOK : Fl.ffl l = 0 → Hid (fxR l = 0 ∧ fxL l = fxU l) := fun e => ⟨e, if_pos e⟩
  have hLast : Fl.ffl l = 0 → Hid (∀ k, k < l.length → Last (fxU (l.take k)) (ent (l.getD k Fl.onil) 0)) := fun e => fun k hk => fxU_last e hk
  obtain ⟨R, hR⟩ : ∃ R, fxR l = R := ⟨_, rfl⟩
  obtain ⟨L, hL⟩ : ∃ L, fxL l = L := ⟨_, rfl⟩
  rw [hR, hL] at hFF hOK ⊢
  obtain ⟨F, hF⟩ : ∃ F, Fl.ffl l = F := ⟨_, rfl⟩
  rw [hF] at hA hFF hOK hLast
  clear hF hR hL
  obtain ⟨W1, hW1⟩ : ∃ W1, w.alloc (.cells #[.int .i64 0, .int .i64 0, .slice none 0 0] 44) = W1 := ⟨_, rfl⟩
  have b1 : Below w.heap.size w W1 := by rw [← hW1]; exact allocBelow _ _
  have zW : w.heap.size < W1.heap.size := by rw [← hW1]; simp
  have r1 : Rf W1 w.heap.size [.int .i64 0, .int .i64 0, .slice none 0 0] := by rw [← hW1]; exact Rf.new _ _ _
  have A1 := h.below b1
  go_enter Tryd.func24, Tryd.ntmps24
  go_wp2_with fail
  refine (hA _ (A1.mono (by omega))).mono ?_; rintro e w2 ⟨rfl, b2⟩
  have A2 := A1.below b2
  have r2 := r1.below zW b2
  have B2 := b1.trans (b2.mono b1.size)
  have z2 : w.heap.size < w2.heap.size := Nat.lt_of_lt_of_le zW b2.size
  clear A1 r1 b1 b2 hA hW1 h zW
  by_cases e0 : F = 0
  · replace hOK := hOK e0
    replace hLast := hLast e0
    subst e0
    clear hFF
    have hB := fun w h => l10OfC a c l w h hn
    go_wp2_with fail
    refine (hB _ (A2.mono (by omega))).mono ?_; rintro e w3 ⟨v3, rfl, o3, b3⟩
    have r3 := r2.below z2 b3
    have B3 := B2.trans (b3.mono (by omega))
    obtain ⟨va, vc, ev⟩ := shapeK3 o3
    subst ev
    have c0 := r3.at_ 0 _ rfl
    have c1 := r3.at_ 1 _ rfl
    have c2 := r3.at_ 2 _ rfl
    have f0 := r3.fz 0
    have f1 := r3.fz 1
    have f2 := r3.fz 2
    obtain ⟨n, hnn⟩ : ∃ n, (fxU l).length = n := ⟨_, rfl⟩
    rw [hnn] at o3 ⊢
    have RV := ((r3.set (o := 0) (by simp) (.int .i64 0)).set (o := 1) (by simp) (.int .i64 0)).set (o := 2) (by simp) (.slice va n vc)
    have BV := ((B3.setCell (p := ⟨w.heap.size, 0, none⟩) (Nat.le_refl _) (.int .i64 0)).setCell (p := ⟨w.heap.size, 1, none⟩) (Nat.le_refl _) (.int .i64 0)).setCell (p := ⟨w.heap.size, 2, none⟩) (Nat.le_refl _) (.slice va n vc)
    have oV := (ownMonoF o3 (b := w.heap.size) (by omega)).kept (grownTrans (grownTrans (grownSet _ w.heap.size 0 (.int .i64 0)) (grownSet _ w.heap.size 1 (.int .i64 0))) (grownSet _ w.heap.size 2 (.slice va n vc))) (blockCases _ _ fun j q1 q2 => by cases q2; have := (o3.lt _ q1).1; omega)
    obtain ⟨V, hV⟩ : ∃ V, ((w3.setCell ⟨w.heap.size, 0, none⟩ (.int .i64 0)).setCell ⟨w.heap.size, 1, none⟩ (.int .i64 0)).setCell ⟨w.heap.size, 2, none⟩ (.slice va n vc) = V := ⟨_, rfl⟩
    rw [hV] at RV BV oV
    have HV : Hid (_ = V) := hV
    have v0 := RV.at_ 0 _ rfl
    have v1 := RV.at_ 1 _ rfl
    have v2 := RV.at_ 2 _ rfl
    clear hV r3 r2 A2 B3 B2 hLast RV o3 b3 hB
    go_wp2
    rw [HV.out]
    refine bodyPost_ret (v := .agg #[.int .i64 0, .int .i64 0, .slice va n vc]) (by simp [results, Tryd.results24, go_sem, v0, v1, v2]) rfl ?_
    exact ⟨_, ret_agg3 (by rw [hOK.out.1]) rfl rfl, by rw [hOK.out.2, hnn]; exact oV, BV⟩
  · have hC := hFF e0
    have qn : (F != 0) = true := ne_beq e0
    have c0 := r2.at_ 0 _ rfl
    have c1 := r2.at_ 1 _ rfl
    have c2 := r2.at_ 2 _ rfl
    have f0 := r2.fz 0
    have f1 := r2.fz 1
    have f2 := r2.fz 2
    have RV := ((r2.set (o := 0) (by simp) (.int .i64 F)).set (o := 1) (by simp) (.int .i64 0)).set (o := 2) (by simp) (.slice none 0 0)
    have BV := ((B2.setCell (p := ⟨w.heap.size, 0, none⟩) (Nat.le_refl _) (.int .i64 F)).setCell (p := ⟨w.heap.size, 1, none⟩) (Nat.le_refl _) (.int .i64 0)).setCell (p := ⟨w.heap.size, 2, none⟩) (Nat.le_refl _) (.slice none 0 0)
    obtain ⟨V, hV⟩ : ∃ V, ((w2.setCell ⟨w.heap.size, 0, none⟩ (.int .i64 F)).setCell ⟨w.heap.size, 1, none⟩ (.int .i64 0)).setCell ⟨w.heap.size, 2, none⟩ (.slice none 0 0) = V := ⟨_, rfl⟩
    rw [hV] at RV BV
    have HV : Hid (_ = V) := hV
    have v0 := RV.at_ 0 _ rfl
    have v1 := RV.at_ 1 _ rfl
    have v2 := RV.at_ 2 _ rfl
    clear hV r2 B2 A2 hOK hFF e0 RV hLast
    go_wp2
    rw [HV.out]
    refine bodyPost_ret (v := .agg #[.int .i64 F, .int .i64 0, .slice none 0 0]) (by simp [results, Tryd.results24, go_sem, v0, v1, v2]) rfl ?_
    exact ⟨_, ret_agg3 (by rw [hC.out.1]) rfl rfl, by rw [hC.out.2]; exact nilE _ _, BV⟩
end Go.Proofs.YtnififnogdekiabDoor.En
