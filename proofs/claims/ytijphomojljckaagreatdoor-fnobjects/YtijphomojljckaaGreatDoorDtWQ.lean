/- The contract of the specification's DecodeTree. No statement is proved here. -/
import Derived.Test.YtijphomojljckaaGreatDoorRows
import Derived.Test.YtijphomojljckaaGreatDoorLemQ
import Derived.Test.YtijphomojljckaaGreatDoorComQ
import Derived.Test.YtijphomojljckaaGreatDoorHkTQ
import Derived.Test.YtijphomojljckaaGreatDoorIterQ
import Derived.Test.YtijphomojljckaaGreatDoorAsCQ
import Derived.Test.YtijphomojljckaaGreatDoorTeLQ
import Derived.Test.YtijphomojljckaaGreatDoorTrCQ
import Derived.Test.YtijphomojljckaaGreatDoorDtLQ
import Derived.Test.YtijphomojljckaaGreatDoorWtCQ
import Derived.Test.YtijphomojljckaaGreatDoorRtCQ
import Derived.Test.YtijphomojljckaaGreatDoorIxBQ
import Derived.Test.YtijphomojljckaaGreatDoorDtVQ
import Derived.WalkKit
import Derived.ProofKit
import Derived.Below
import Derived.WalkSpells
import Derived.Deep.QuietTactic
import Derived.BigQuiet
namespace Go.Proofs.YtijphomojljckaaGreatDoor.Te
open Go.ChangeShapes Go.WideShapes Go.ChangeAt Go.RowKit

set_option maxRecDepth 20000 in
set_option maxHeartbeats 2000000 in
theorem specDecodeTree (s : ByteArray) (w : World) (hs : s.size ≤ 1048576) :
    Calls Tryz.prog 8 #[.string s] w fun e w' => DT s w e w' := by
  obtain ⟨W1, hW1⟩ : ∃ W1, w.alloc (.cells #[.int .i64 0, .slice none 0 0] 27) = W1 := ⟨_, rfl⟩
  have b1 : Below w.heap.size w W1 := by rw [← hW1]; exact allocBelow _ _
  have z1 : w.heap.size < W1.heap.size := by rw [← hW1]; simp
  have r1 : Rf W1 w.heap.size [.int .i64 0, .slice none 0 0] := by rw [← hW1]; exact Rf.new _ _ _
  have hR := l6UntreeC s W1 hs
  go_enter Tryz.func8, Tryz.ntmps8
  go_wp2_with fail
  refine hR.mono ?_
  rintro e w2 ⟨b2, he⟩
  have r2 := r1.below z1 b2
  have B2 : Below w.heap.size w w2 := b1.trans (b2.mono b1.size)
  have z2 := b2.size
  clear hR r1 hW1 b1
  rcases he with ⟨hy, v, rfl, hrow⟩ | ⟨hy, v, rfl⟩
  all_goals rw [← dt_same] at hy
  · obtain ⟨y1, y2⟩ := dt_yes hy
    have HY : Hid (dtC s = 0 ∧ dtE s = dtP s) := ⟨y1, y2⟩
    obtain ⟨la, lc, rfl⟩ : ∃ a c, v = .slice a (dtP s).length c := by
      rcases hrow.2 with ⟨h', h0'⟩ | ⟨g, c, cur, h', _⟩
      · exact ⟨none, 0, by rw [h', h0']⟩
      · exact ⟨_, _, h'⟩
    have d0 := r2.at_ 0 _ rfl
    have d1 := r2.at_ 1 _ rfl
    have f0 := r2.fz 0
    have f1 := r2.fz 1
    have HB : ∀ a0 a1, Hid (Below w.heap.size w ((w2.setCell ⟨w.heap.size, 0, none⟩ a0).setCell ⟨w.heap.size, 1, none⟩ a1)) := fun a0 a1 => below_sets B2 (Nat.le_refl _) a0 a1
    have HO : ∀ a0 a1, Hid (((w2.setCell ⟨w.heap.size, 0, none⟩ a0).setCell ⟨w.heap.size, 1, none⟩ a1).ownsRow w.heap.size 72 3 (.slice la (dtP s).length lc) (dtP s).length (ocells (dtP s))) := fun a0 a1 => ownsRow_mono3 (own_two hrow z1 a0 a1) (Nat.le_of_lt z1)
    clear hy y1 y2 hrow r2 b2 B2
    obtain ⟨L, hL⟩ : ∃ L, dtP s = L := ⟨_, rfl⟩
    rw [hL] at HY HO ⊢
    clear hL
    go_wp2
    refine bodyPost_ret (v := .agg #[.int .i64 0, .slice la L.length lc]) (by simp [results, Tryz.results8, go_sem, d0, d1]) rfl ?_
    unfold DT
    rw [HY.out.1, HY.out.2]
    exact ⟨_, rfl, (HO _ _).out, (HB _ _).out⟩
  · obtain ⟨y1, y2⟩ := dt_no hy
    have HY : Hid (dtC s = 5 ∧ dtE s = []) := ⟨y1, y2⟩
    clear hy y1 y2
    have z3 : w.heap.size < w2.heap.size := by omega
    have d0 := r2.at_ 0 _ rfl
    have d1 := r2.at_ 1 _ rfl
    have f0 := r2.fz 0
    have f1 := r2.fz 1
    have HB : ∀ a0 a1, Hid (Below w.heap.size w ((w2.setCell ⟨w.heap.size, 0, none⟩ a0).setCell ⟨w.heap.size, 1, none⟩ a1)) := fun a0 a1 => below_sets B2 (Nat.le_refl _) a0 a1
    clear r2 b2 B2
    go_wp2
    refine bodyPost_ret (v := .agg #[.int .i64 5, .slice none 0 0]) (by simp [results, Tryz.results8, go_sem, d0, d1]) rfl ?_
    unfold DT
    rw [HY.out.1, HY.out.2]
    exact ⟨_, rfl, nilRowT _ _, (HB _ _).out⟩
end Go.Proofs.YtijphomojljckaaGreatDoor.Te
