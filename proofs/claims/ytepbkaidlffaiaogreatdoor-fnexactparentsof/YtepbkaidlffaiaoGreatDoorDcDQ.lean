/- The contracts of the program's readCommit (whole) and DecodeCommit. No statement is proved here. -/
import Derived.Test.YtepbkaidlffaiaoGreatDoorRows
import Derived.Test.YtepbkaidlffaiaoGreatDoorLemQ
import Derived.Test.YtepbkaidlffaiaoGreatDoorComQ
import Derived.Test.YtepbkaidlffaiaoGreatDoorHkTQ
import Derived.Test.YtepbkaidlffaiaoGreatDoorTFQ
import Derived.Test.YtepbkaidlffaiaoGreatDoorAsCQ
import Derived.Test.YtepbkaidlffaiaoGreatDoorFiCQ
import Derived.Test.YtepbkaidlffaiaoGreatDoorDcLQ
import Derived.Test.YtepbkaidlffaiaoGreatDoorDcVQ
import Derived.Test.YtepbkaidlffaiaoGreatDoorDcWQ
import Derived.Test.YtepbkaidlffaiaoGreatDoorRcHQ
import Derived.Test.YtepbkaidlffaiaoGreatDoorRcCQ
import Derived.WalkKit
import Derived.ProofKit
import Derived.Below
import Derived.WalkSpells
import Derived.Deep.QuietTactic
import Derived.BigQuiet
set_option linter.unusedVariables false
namespace Go.Proofs.YtepbkaidlffaiaoGreatDoor.Dc
open Go.ChangeShapes Go.WideShapes Go.ChangeAt Go.RowKit

set_option maxRecDepth 20000 in
set_option maxHeartbeats 1000000 in
theorem readCommit_no (s : ByteArray) (w : World) (hs : s.size ≤ 1048576) (h0 : ¬ tf s = 0) :
    Calls Tryz.prog 50 #[.string s] w fun e w' => RC s w e w' := by
  have hT := fun w => implTextFault s w hs
  have HI : Hid (dcI pI s = none) := dcI_tf h0
  obtain ⟨q, hr⟩ : ∃ r, tf s = r := ⟨_, rfl⟩
  rw [hr] at h0
  simp only [hr] at hT
  have hq : (q != 0) = true := by simpa using h0
  clear hr h0
  obtain ⟨r, hr⟩ : ∃ r, w.heap.size = r := ⟨_, rfl⟩
  obtain ⟨W0, hW0⟩ : ∃ W, (w.alloc (.cells #[.string ⟨#[]⟩, .slice none 0 0, .int .i64 0, .string ⟨#[]⟩] 43)).alloc (.cells #[.nilIface] 83) = W := ⟨_, rfl⟩
  have b0 : Below r w W0 := by rw [← hW0, ← hr]; exact (allocBelow _ _).trans ((allocBelow _ _).mono (by simp))
  have z0 : r + 2 ≤ W0.heap.size := by rw [← hW0, ← hr]; simp
  have v0 : Rf W0 r [.string ⟨#[]⟩, .slice none 0 0, .int .i64 0, .string ⟨#[]⟩] := by rw [← hW0, ← hr]; exact (Rf.new w #[.string ⟨#[]⟩, .slice none 0 0, .int .i64 0, .string ⟨#[]⟩] _).below (by simp) (allocBelow _ _)
  have v1 : Rf W0 (r + 1) [.nilIface] := by
    rw [← hW0, ← hr]
    have := Rf.new (w.alloc (.cells #[.string ⟨#[]⟩, .slice none 0 0, .int .i64 0, .string ⟨#[]⟩] 43)) #[.nilIface] 83
    rwa [World.size_alloc] at this
  go_enter Tryz.func50, Tryz.ntmps50
  go_wp2_with fail
  refine (hT _).mono ?_; rintro e w1 ⟨rfl, b1⟩
  have B1 : Below r w w1 := b0.trans (b1.mono (by omega))
  have r1 := v0.below (by omega) b1
  have r2 := v1.below (by omega) b1
  have d0 := r1.at_ 0 _ rfl
  have d1 := r1.at_ 1 _ rfl
  have d2 := r1.at_ 2 _ rfl
  have d3 := r1.at_ 3 _ rfl
  have d4 := r2.at_ 0 _ rfl
  have f0 := r1.fz 0
  have f1 := r1.fz 1
  have f2 := r1.fz 2
  have f3 := r1.fz 3
  have f4 := r2.fz 0
  have HB : ∀ x0 x1 x2 x3 x4, Hid (Below r w (((((w1.setCell ⟨r, 0, none⟩ x0).setCell ⟨r, 1, none⟩ x1).setCell ⟨r, 2, none⟩ x2).setCell ⟨r, 3, none⟩ x3).setCell ⟨r + 1, 0, none⟩ x4)) := fun _ _ _ _ _ => setBelow (setBelow (setBelow (setBelow (setBelow B1 (Nat.le_refl _)) (Nat.le_refl _)) (Nat.le_refl _)) (Nat.le_refl _)) (by omega)
  have HR : ∀ x0 x1 x2 x3 x4, Hid (Rf (((((w1.setCell ⟨r, 0, none⟩ x0).setCell ⟨r, 1, none⟩ x1).setCell ⟨r, 2, none⟩ x2).setCell ⟨r, 3, none⟩ x3).setCell ⟨r + 1, 0, none⟩ x4) r [x0, x1, x2, x3]) := fun x0 x1 x2 x3 x4 => ((((r1.set (o := 0) (by simp) x0).set (o := 1) (by simp) x1).set (o := 2) (by simp) x2).set (o := 3) (by simp) x3).other (by omega) x4
  have HS : ∀ x0 x1 x2 x3 x4, Hid (Rf (((((w1.setCell ⟨r, 0, none⟩ x0).setCell ⟨r, 1, none⟩ x1).setCell ⟨r, 2, none⟩ x2).setCell ⟨r, 3, none⟩ x3).setCell ⟨r + 1, 0, none⟩ x4) (r + 1) [x4]) := fun x0 x1 x2 x3 x4 => ((((r2.other (by omega) x0).other (by omega) x1).other (by omega) x2).other (by omega) x3).set (o := 0) (by simp) x4
  clear hT b0 b1 B1 r1 r2 v0 v1 hW0
  go_wp2
  have R4 := (HR (.string ⟨#[]⟩) (.slice none 0 0) (.int .i64 0) (.string ⟨#[]⟩) (.iface 113 (.agg #[.iface 111 (.agg #[.int .i64 q])]))).out
  have R5 := (HS (.string ⟨#[]⟩) (.slice none 0 0) (.int .i64 0) (.string ⟨#[]⟩) (.iface 113 (.agg #[.iface 111 (.agg #[.int .i64 q])]))).out
  have g0 := R4.at_ 0 _ rfl
  have g1 := R4.at_ 1 _ rfl
  have g2 := R4.at_ 2 _ rfl
  have g3 := R4.at_ 3 _ rfl
  have g4 := R5.at_ 0 _ rfl
  refine bodyPost_ret (v := .tuple #[.agg #[.string ⟨#[]⟩, .slice none 0 0, .int .i64 0, .string ⟨#[]⟩], .iface 113 (.agg #[.iface 111 (.agg #[.int .i64 q])])]) (by simp [results, Tryz.results50, go_sem, g0, g1, g2, g3, g4]) rfl ?_
  unfold RC
  rw [hr]
  exact ⟨(HB _ _ _ _ _).out, .inr ⟨HI.out, _, _, _, _, _, _, _, _, rfl⟩⟩
theorem readCommitC (s : ByteArray) (w : World) (hs : s.size ≤ 1048576) (hTa : TaG w) (hgB : 6 < w.heap.size) (ho : OfG w) (hoB : 0 < w.heap.size) (hP : PeG w) (hP1 : 2 < w.heap.size) (hP2 : 3 < w.heap.size) :
    Calls Tryz.prog 50 #[.string s] w fun e w' => RC s w e w' := by
  by_cases h0 : tf s = 0
  · exact readCommit_ok s w hs h0 hTa hgB ho hoB hP hP1 hP2
  · exact readCommit_no s w hs h0
end Go.Proofs.YtepbkaidlffaiaoGreatDoor.Dc
