/- The contract of impl.ParseIndex. No statement is proved here. -/
import Derived.Test.YtjcnnmnnbjaheaaGreatDoorRows
import Derived.Test.YtjcnnmnnbjaheaaGreatDoorLemQ
import Derived.Test.YtjcnnmnnbjaheaaGreatDoorDTabQ
import Derived.Test.YtjcnnmnnbjaheaaGreatDoorHkTQ
import Derived.Test.YtjcnnmnnbjaheaaGreatDoorLFLemQ
import Derived.Test.YtjcnnmnnbjaheaaGreatDoorIterQ
import Derived.Test.YtjcnnmnnbjaheaaGreatDoorCutLQ
import Derived.Test.YtjcnnmnnbjaheaaGreatDoorIxBQ
import Derived.Test.YtjcnnmnnbjaheaaGreatDoorTrEQ
import Derived.Test.YtjcnnmnnbjaheaaGreatDoorIxMQ
import Derived.Test.YtjcnnmnnbjaheaaGreatDoorIxSQ
import Derived.Test.YtjcnnmnnbjaheaaGreatDoorSgCQ
import Derived.Test.YtjcnnmnnbjaheaaGreatDoorFfIQ
import Derived.Test.YtjcnnmnnbjaheaaGreatDoorIxNQ
import Derived.Test.YtjcnnmnnbjaheaaGreatDoorFxSQ
import Derived.Test.YtjcnnmnnbjaheaaGreatDoorTrWQ
import Derived.Test.YtjcnnmnnbjaheaaGreatDoorXtSQ
import Derived.Test.YtjcnnmnnbjaheaaGreatDoorPiMQ
import Derived.Test.YtjcnnmnnbjaheaaGreatDoorPiTQ
import Derived.Test.YtjcnnmnnbjaheaaGreatDoorIxIQ
import Derived.Test.YtjcnnmnnbjaheaaGreatDoorXtCQ
import Derived.Test.YtjcnnmnnbjaheaaGreatDoorPiQQ
import Derived.Test.YtjcnnmnnbjaheaaGreatDoorPiEQ
import Derived.Test.YtjcnnmnnbjaheaaGreatDoorPiAQ
import Derived.WalkKit
import Derived.ProofKit
import Derived.Below
import Derived.WalkSpells
import Derived.Deep.QuietTactic
import Derived.BigQuiet
import Derived.Deep.RegionWith
import Derived.Deep.RegionHeld
import Derived.Deep.CutRange
import Derived.Maps.AppendAt
import Derived.Laws.Cover1
namespace Go.Proofs.YtjcnnmnnbjaheaaGreatDoor.En
open Go.ChangeShapes Go.WideShapes Go.ChangeAt Go.RowKit

set_option maxRecDepth 20000 in
set_option maxHeartbeats 8000000 in
theorem implParseIndex (s : ByteArray) (w : World) (hs : s.size ≤ 1048576) (hM : Te.MwG w) (hMB : 0 < w.heap.size) (hTa : TaG w) (hTB : 1 < w.heap.size) :
    Calls Tryz.prog 7 #[.string s] w fun e w' => EP (pC s) (pAt s) (pE s) w e w' := by
  have hMany : 12000 < s.size → Hid (pC s = 2 ∧ pAt s = 0 ∧ pE s = []) := fun h => p_many h
  obtain ⟨W1, hW1⟩ : ∃ W1, w.alloc (.cells #[.int .i64 0, .int .i64 0, .slice none 0 0] 27) = W1 := ⟨_, rfl⟩
  have b1 : Below w.heap.size w W1 := by rw [← hW1]; exact allocBelow _ _
  have zW : W1.heap.size = w.heap.size + 1 := by rw [← hW1]; simp
  have r1 : Rf W1 w.heap.size [.int .i64 0, .int .i64 0, .slice none 0 0] := by rw [← hW1]; exact Rf.new _ _ _
  by_cases hz : 12000 < s.size
  · have hC := hMany hz
    have qz : (12000 : Int) < (s.size : Int) := by omega
    clear hMany
    go_enter Tryz.func7, Tryz.ntmps7
    have RV := ((r1.set (o := 0) (by simp) (.int .i64 2)).set (o := 1) (by simp) (.int .i64 0)).set (o := 2) (by simp) (.slice none 0 0)
    have BV := ((b1.setCell (p := ⟨w.heap.size, 0, none⟩) (Nat.le_refl _) (.int .i64 2)).setCell (p := ⟨w.heap.size, 1, none⟩) (Nat.le_refl _) (.int .i64 0)).setCell (p := ⟨w.heap.size, 2, none⟩) (Nat.le_refl _) (.slice none 0 0)
    have c0 := r1.at_ 0 _ rfl
    have c1 := r1.at_ 1 _ rfl
    have c2 := r1.at_ 2 _ rfl
    have f0 := r1.fz 0
    have f1 := r1.fz 1
    have f2 := r1.fz 2
    obtain ⟨V, hV⟩ : ∃ V, ((W1.setCell ⟨w.heap.size, 0, none⟩ (.int .i64 2)).setCell ⟨w.heap.size, 1, none⟩ (.int .i64 0)).setCell ⟨w.heap.size, 2, none⟩ (.slice none 0 0) = V := ⟨_, rfl⟩
    rw [hV] at RV BV
    have HV : Hid (_ = V) := hV
    have v0 := RV.at_ 0 _ rfl
    have v1 := RV.at_ 1 _ rfl
    have v2 := RV.at_ 2 _ rfl
    clear hV RV r1 b1
    go_wp2
    rw [HV.out]
    refine bodyPost_ret (v := .agg #[.int .i64 2, .int .i64 0, .slice none 0 0]) (by simp [results, Tryz.results7, go_sem, v0, v1, v2]) rfl ?_
    exact ⟨_, ret_agg3 (by rw [hC.out.1]) (by rw [hC.out.2.1]) rfl, by rw [hC.out.2.2]; exact nilE _ _, BV⟩
  have hText : sumT (pR s) = false → Hid (pC s = 5 ∧ pAt s = ((pA s).length : Int) ∧ pE s = []) := fun q => p_text hz q
  have hBad : sumT (pR s) = true → ¬ ixf (pA s) = 0 → Hid (pC s = ixf (pA s) ∧ pAt s = 0 ∧ pE s = []) := fun q f => p_fault hz q f
  have hClash : sumT (pR s) = true → ixf (pA s) = 0 → ¬ xB (pA s) = s → Hid (pC s = 6 ∧ pAt s = 0 ∧ pE s = []) := fun q f k => p_clash hz q f k
  have hOk : sumT (pR s) = true → ixf (pA s) = 0 → xB (pA s) = s → Hid (pC s = 0 ∧ pAt s = 0 ∧ pE s = pA s) := fun q f k => p_ok hz q f k
  have hSm := pA_small hs
  have hLn : (pA s).length ≤ 1048576 := Nat.le_trans (pA_len s) hs
  have hRl : (pR s).length ≤ 1048576 := by
    rw [pR_drop, List.length_drop, size_eq]; omega
  have qz : ¬ (12000 : Int) < (s.size : Int) := by omega
  have hAh := entriesAheadC s W1 hs (hM.below b1 hMB) (by omega)
  have hMp := fun W h => hM.below (w' := W) h hMB
  have hTp := fun W h => hTa.below (w' := W) h hTB
  unfold AE at hAh
  obtain ⟨PC, hPC⟩ : ∃ x, pC s = x := ⟨_, rfl⟩
  obtain ⟨PT, hPT⟩ : ∃ x, pAt s = x := ⟨_, rfl⟩
  obtain ⟨PE, hPE⟩ : ∃ x, pE s = x := ⟨_, rfl⟩
  obtain ⟨PA, hPA⟩ : ∃ x, pA s = x := ⟨_, rfl⟩
  obtain ⟨PR, hPR⟩ : ∃ x, pR s = x := ⟨_, rfl⟩
  simp only [hPC, hPT, hPE, hPA, hPR] at hText hBad hClash hOk hSm hLn hRl hAh ⊢
  clear hPC hPT hPE hPA hPR hMany hM hTa
  go_enter Tryz.func7, Tryz.ntmps7
  go_wp2_with fail
  refine hAh.mono ?_
  rintro e w2 ⟨v, b, rfl, hb, own2, b2⟩
  obtain ⟨va, vc, ev⟩ := shapeK3 own2
  subst ev
  have hbs : b.size ≤ 1048576 := by rw [← size_eq, hb]; exact hRl
  have hSu := fun w => isSumLineC b w hbs
  rw [hb] at hSu
  rw [zW] at own2 b2
  obtain ⟨F, hF⟩ : ∃ F, ixf PA = F := ⟨_, rfl⟩
  obtain ⟨X, hX⟩ : ∃ X, xB PA = X := ⟨_, rfl⟩
  obtain ⟨S, hS⟩ : ∃ S, sumT PR = S := ⟨_, rfl⟩
  have hIx := fun w h => implIndexFault va vc PA w h hSm hLn
  have hXt := fun w h hf hM hMB hTa hTB => implIndexText va vc PA w h hf hM hMB hTa hTB
  simp only [hF, hX, hS] at hText hBad hClash hOk hSu hIx hXt
  obtain ⟨n, hnn⟩ : ∃ n, PA.length = n := ⟨_, rfl⟩
  have own2' := own2
  rw [hnn] at own2'
  simp only [hnn] at hIx hXt hLn hText
  have zb := b2.size
  clear hAh hb hRl hbs
  go_wp2_with fail
  refine (hSu _).mono ?_
  rintro e w3 ⟨rfl, b3⟩
  have B3 := b2.trans (b3.mono (by omega))
  have own3 := own2'.kept (grown_of_below b3 none) (by cases va <;> simp [Value.ownBlock])
  have z3 := b3.size
  clear hSu own2 own2' b2 b3
  cases S
  · have H := hText rfl
    have rb := rfBelowAt r1 B3 (by omega)
    have BB := b1.trans (B3.mono (by omega))
    clear hText hBad hClash hOk hIx hXt own3 B3
    have RV := ((rb.set (o := 0) (by simp) (.int .i64 5)).set (o := 1) (by simp) (.int .i64 n)).set (o := 2) (by simp) (.slice none 0 0)
    have BV := ((BB.setCell (p := ⟨w.heap.size, 0, none⟩) (Nat.le_refl _) (.int .i64 5)).setCell (p := ⟨w.heap.size, 1, none⟩) (Nat.le_refl _) (.int .i64 n)).setCell (p := ⟨w.heap.size, 2, none⟩) (Nat.le_refl _) (.slice none 0 0)
    have c0 := rb.at_ 0 _ rfl
    have c1 := rb.at_ 1 _ rfl
    have c2 := rb.at_ 2 _ rfl
    have f0 := rb.fz 0
    have f1 := rb.fz 1
    have f2 := rb.fz 2
    obtain ⟨V, hV⟩ : ∃ V, ((w3.setCell ⟨w.heap.size, 0, none⟩ (.int .i64 5)).setCell ⟨w.heap.size, 1, none⟩ (.int .i64 n)).setCell ⟨w.heap.size, 2, none⟩ (.slice none 0 0) = V := ⟨_, rfl⟩
    rw [hV] at RV BV
    have HV : Hid (_ = V) := hV
    have v0 := RV.at_ 0 _ rfl
    have v1 := RV.at_ 1 _ rfl
    have v2 := RV.at_ 2 _ rfl
    clear hV RV rb BB
    go_wp2
    rw [HV.out]
    refine bodyPost_ret (v := .agg #[.int .i64 5, .int .i64 n, .slice none 0 0]) (by simp [results, Tryz.results7, go_sem, v0, v1, v2]) rfl ?_
    exact ⟨_, ret_agg3 (by rw [H.out.1]) (by rw [H.out.2.1]) rfl, by rw [H.out.2.2]; exact nilE _ _, BV⟩
  replace hBad := hBad rfl
  replace hClash := hClash rfl
  replace hOk := hOk rfl
  have OB3 : OB w3.heap.size w3 va PA := by rw [← hnn] at own3; exact OB.of own3
  go_wp2_with fail
  refine (hIx _ OB3).mono ?_; rintro e w4 ⟨rfl, b4⟩
  have own4 := own3.kept (grown_of_below b4 none) (by cases va <;> simp [Value.ownBlock])
  have B4 := B3.trans (b4.mono (by omega))
  have z4 := b4.size
  clear own3 B3 hIx OB3 b4 hText
  by_cases hF0 : F = 0
  rotate_left
  · have H := hBad hF0
    have qn : (F != 0) = true := ne_beq hF0
    have rb := rfBelowAt r1 B4 (by omega)
    have BB := b1.trans (B4.mono (by omega))
    clear hBad hClash hOk own4 B4 hXt
    have RV := ((rb.set (o := 0) (by simp) (.int .i64 F)).set (o := 1) (by simp) (.int .i64 0)).set (o := 2) (by simp) (.slice none 0 0)
    have BV := ((BB.setCell (p := ⟨w.heap.size, 0, none⟩) (Nat.le_refl _) (.int .i64 F)).setCell (p := ⟨w.heap.size, 1, none⟩) (Nat.le_refl _) (.int .i64 0)).setCell (p := ⟨w.heap.size, 2, none⟩) (Nat.le_refl _) (.slice none 0 0)
    have c0 := rb.at_ 0 _ rfl
    have c1 := rb.at_ 1 _ rfl
    have c2 := rb.at_ 2 _ rfl
    have f0 := rb.fz 0
    have f1 := rb.fz 1
    have f2 := rb.fz 2
    obtain ⟨V, hV⟩ : ∃ V, ((w4.setCell ⟨w.heap.size, 0, none⟩ (.int .i64 F)).setCell ⟨w.heap.size, 1, none⟩ (.int .i64 0)).setCell ⟨w.heap.size, 2, none⟩ (.slice none 0 0) = V := ⟨_, rfl⟩
    rw [hV] at RV BV
    have HV : Hid (_ = V) := hV
    have v0 := RV.at_ 0 _ rfl
    have v1 := RV.at_ 1 _ rfl
    have v2 := RV.at_ 2 _ rfl
    clear hV RV rb BB
    go_wp2
    rw [HV.out]
    refine bodyPost_ret (v := .agg #[.int .i64 F, .int .i64 0, .slice none 0 0]) (by simp [results, Tryz.results7, go_sem, v0, v1, v2]) rfl ?_
    exact ⟨_, ret_agg3 (by rw [H.out.1]) (by rw [H.out.2.1]) rfl, by rw [H.out.2.2]; exact nilE _ _, BV⟩
  replace hClash := hClash hF0
  replace hOk := hOk hF0
  have OB4 : OB w4.heap.size w4 va PA := by rw [← hnn] at own4; exact OB.of own4
  have BW4 := b1.trans (B4.mono (by omega))
  have hX4 := hXt w4 OB4 hF0 (hMp _ BW4) (by omega) (hTp _ BW4) (by omega)
  subst hF0
  clear hBad hXt hMp hTp OB4
  go_wp2_with fail
  refine hX4.mono ?_; rintro e w5 ⟨rfl, b5⟩
  have own5 := own4.kept (grown_of_below b5 none) (by cases va <;> simp [Value.ownBlock])
  have B5 := B4.trans (b5.mono (by omega))
  have rb := rfBelowAt r1 B5 (by omega)
  have BB := b1.trans (B5.mono (by omega))
  clear own4 B4 hX4 b5 BW4
  by_cases hXs : X = s
  · have H := hOk hXs
    subst hXs
    clear hOk hClash
    have RV := ((rb.set (o := 0) (by simp) (.int .i64 0)).set (o := 1) (by simp) (.int .i64 0)).set (o := 2) (by simp) (.slice va n vc)
    have BV := ((BB.setCell (p := ⟨w.heap.size, 0, none⟩) (Nat.le_refl _) (.int .i64 0)).setCell (p := ⟨w.heap.size, 1, none⟩) (Nat.le_refl _) (.int .i64 0)).setCell (p := ⟨w.heap.size, 2, none⟩) (Nat.le_refl _) (.slice va n vc)
    have oV := (ownMonoF own5 (b := w.heap.size) (by omega)).kept (grownTrans (grownTrans (grownSet _ w.heap.size 0 (.int .i64 0)) (grownSet _ w.heap.size 1 (.int .i64 0))) (grownSet _ w.heap.size 2 (.slice va n vc))) (blockCases _ _ fun j q1 q2 => by cases q2; have := (own5.lt _ q1).1; omega)
    have c0 := rb.at_ 0 _ rfl
    have c1 := rb.at_ 1 _ rfl
    have c2 := rb.at_ 2 _ rfl
    have f0 := rb.fz 0
    have f1 := rb.fz 1
    have f2 := rb.fz 2
    obtain ⟨V, hV⟩ : ∃ V, ((w5.setCell ⟨w.heap.size, 0, none⟩ (.int .i64 0)).setCell ⟨w.heap.size, 1, none⟩ (.int .i64 0)).setCell ⟨w.heap.size, 2, none⟩ (.slice va n vc) = V := ⟨_, rfl⟩
    rw [hV] at RV BV oV
    have HV : Hid (_ = V) := hV
    have v0 := RV.at_ 0 _ rfl
    have v1 := RV.at_ 1 _ rfl
    have v2 := RV.at_ 2 _ rfl
    clear hV RV rb BB
    go_wp2
    rw [HV.out]
    refine bodyPost_ret (v := .agg #[.int .i64 0, .int .i64 0, .slice va n vc]) (by simp [results, Tryz.results7, go_sem, v0, v1, v2]) rfl ?_
    exact ⟨_, ret_agg3 (by rw [H.out.1]) (by rw [H.out.2.1]) rfl, by rw [H.out.2.2, hnn]; exact oV, BV⟩
  have H := hClash hXs
  have qx : (X.toList == s.toList) = false := beq_bytes_false hXs
  clear hOk hClash
  have RV := ((rb.set (o := 0) (by simp) (.int .i64 6)).set (o := 1) (by simp) (.int .i64 0)).set (o := 2) (by simp) (.slice none 0 0)
  have BV := ((BB.setCell (p := ⟨w.heap.size, 0, none⟩) (Nat.le_refl _) (.int .i64 6)).setCell (p := ⟨w.heap.size, 1, none⟩) (Nat.le_refl _) (.int .i64 0)).setCell (p := ⟨w.heap.size, 2, none⟩) (Nat.le_refl _) (.slice none 0 0)
  have c0 := rb.at_ 0 _ rfl
  have c1 := rb.at_ 1 _ rfl
  have c2 := rb.at_ 2 _ rfl
  have f0 := rb.fz 0
  have f1 := rb.fz 1
  have f2 := rb.fz 2
  obtain ⟨V, hV⟩ : ∃ V, ((w5.setCell ⟨w.heap.size, 0, none⟩ (.int .i64 6)).setCell ⟨w.heap.size, 1, none⟩ (.int .i64 0)).setCell ⟨w.heap.size, 2, none⟩ (.slice none 0 0) = V := ⟨_, rfl⟩
  rw [hV] at RV BV
  have HV : Hid (_ = V) := hV
  have v0 := RV.at_ 0 _ rfl
  have v1 := RV.at_ 1 _ rfl
  have v2 := RV.at_ 2 _ rfl
  clear hV RV rb BB
  go_wp2
  rw [HV.out]
  refine bodyPost_ret (v := .agg #[.int .i64 6, .int .i64 0, .slice none 0 0]) (by simp [results, Tryz.results7, go_sem, v0, v1, v2]) rfl ?_
  exact ⟨_, ret_agg3 (by rw [H.out.1]) (by rw [H.out.2.1]) rfl, by rw [H.out.2.2]; exact nilE _ _, BV⟩
end Go.Proofs.YtjcnnmnnbjaheaaGreatDoor.En
