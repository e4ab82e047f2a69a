/- The contracts of the program's readCommit (whole) and DecodeCommit. No statement is proved here. -/
import Derived.Test.YtgidcncmicmggamGreatDoorRows
import Derived.Test.YtgidcncmicmggamGreatDoorLem
import Derived.Test.YtgidcncmicmggamGreatDoorStrs
import Derived.Test.YtgidcncmicmggamGreatDoorDTab
import Derived.Test.YtgidcncmicmggamGreatDoorOwn
import Derived.Test.YtgidcncmicmggamGreatDoorFr
import Derived.Test.YtgidcncmicmggamGreatDoorHkT
import Derived.Test.YtgidcncmicmggamGreatDoorTF
import Derived.Test.YtgidcncmicmggamGreatDoorCdC
import Derived.Test.YtgidcncmicmggamGreatDoorFiC
import Derived.Test.YtgidcncmicmggamGreatDoorDcL
import Derived.Test.YtgidcncmicmggamGreatDoorDcT
import Derived.Test.YtgidcncmicmggamGreatDoorDcV
import Derived.Test.YtgidcncmicmggamGreatDoorDcW
import Derived.Test.YtgidcncmicmggamGreatDoorWtD
import Derived.Test.YtgidcncmicmggamGreatDoorRcH
import Derived.Test.YtgidcncmicmggamGreatDoorRcC
import Derived.WalkKit
import Derived.ProofKit
import Derived.Below
import Derived.WalkSpells
import Derived.Deep.QuietTactic
import Derived.BigQuiet
set_option linter.unusedVariables false
set_option linter.unusedSimpArgs false
namespace Go.Proofs.YtgidcncmicmggamGreatDoor.Dc
open Go.ChangeShapes Go.WideShapes Go.ChangeAt Go.RowKit

set_option maxRecDepth 20000 in
set_option maxHeartbeats 1000000 in
theorem readCommit_no (s : ByteArray) (w : World) (hs : s.size ≤ 1048576) (h0 : ¬ tf s = 0) :
    Calls Tryz.prog 30 #[.string s] w fun e w' => RC s w e w' := by
  have hT := fun w => implTextFault s w hs
  have HI : Hid (dcI pI s = none) := dcI_tf h0
  obtain ⟨q, hr⟩ : ∃ r, tf s = r := ⟨_, rfl⟩
  rw [hr] at h0
  simp only [hr] at hT
  have hq : (q != 0) = true := by simpa using h0
  clear hr h0
  obtain ⟨r, hr⟩ : ∃ r, w.heap.size = r := ⟨_, rfl⟩
  obtain ⟨W0, hW0⟩ : ∃ W, (w.alloc (.cells #[.string ⟨#[]⟩, .slice none 0 0, .int .i64 0, .string ⟨#[]⟩] 24)).alloc (.cells #[.nilIface] 58) = W := ⟨_, rfl⟩
  have b0 : Below r w W0 := by rw [← hW0, ← hr]; exact (allocBelow _ _).trans ((allocBelow _ _).mono (by simp))
  have z0 : r + 2 ≤ W0.heap.size := by rw [← hW0, ← hr]; simp
  have v0 : Rf W0 r [.string ⟨#[]⟩, .slice none 0 0, .int .i64 0, .string ⟨#[]⟩] := by rw [← hW0, ← hr]; exact (Rf.new w #[.string ⟨#[]⟩, .slice none 0 0, .int .i64 0, .string ⟨#[]⟩] _).below (by simp) (allocBelow _ _)
  have v1 : Rf W0 (r + 1) [.nilIface] := by
    rw [← hW0, ← hr]
    have := Rf.new (w.alloc (.cells #[.string ⟨#[]⟩, .slice none 0 0, .int .i64 0, .string ⟨#[]⟩] 24)) #[.nilIface] 58
    rwa [World.size_alloc] at this
  go_enter Tryz.func30, Tryz.ntmps30
  go_wp2_with fail
  refine (hT _).mono ?_; rintro e w1 ⟨rfl, b1⟩
  have B1 : Below r w w1 := b0.trans (b1.mono (by omega))
  have r1 := v0.below (by omega) b1
  have r2 := v1.below (by omega) b1
  have d0 := r1.at_ 0 _ rfl
  have d1 := r1.at_ 1 _ rfl
  have d2 := r1.at_ 2 _ rfl
  have d3 := r1.at_ 3 _ rfl
  have d4 := r2.at_ 0 _ rfl
  have f0 := r1.fz 0
  have f1 := r1.fz 1
  have f2 := r1.fz 2
  have f3 := r1.fz 3
  have f4 := r2.fz 0
  have HB : ∀ x0 x1 x2 x3 x4, Hid (Below r w (((((w1.setCell ⟨r, 0, none⟩ x0).setCell ⟨r, 1, none⟩ x1).setCell ⟨r, 2, none⟩ x2).setCell ⟨r, 3, none⟩ x3).setCell ⟨r + 1, 0, none⟩ x4)) := fun _ _ _ _ _ => setBelow (setBelow (setBelow (setBelow (setBelow B1 (Nat.le_refl _)) (Nat.le_refl _)) (Nat.le_refl _)) (Nat.le_refl _)) (by omega)
  have HR : ∀ x0 x1 x2 x3 x4, Hid (Rf (((((w1.setCell ⟨r, 0, none⟩ x0).setCell ⟨r, 1, none⟩ x1).setCell ⟨r, 2, none⟩ x2).setCell ⟨r, 3, none⟩ x3).setCell ⟨r + 1, 0, none⟩ x4) r [x0, x1, x2, x3]) := fun x0 x1 x2 x3 x4 => ((((r1.set (o := 0) (by simp) x0).set (o := 1) (by simp) x1).set (o := 2) (by simp) x2).set (o := 3) (by simp) x3).other (by omega) x4
  have HS : ∀ x0 x1 x2 x3 x4, Hid (Rf (((((w1.setCell ⟨r, 0, none⟩ x0).setCell ⟨r, 1, none⟩ x1).setCell ⟨r, 2, none⟩ x2).setCell ⟨r, 3, none⟩ x3).setCell ⟨r + 1, 0, none⟩ x4) (r + 1) [x4]) := fun x0 x1 x2 x3 x4 => ((((r2.other (by omega) x0).other (by omega) x1).other (by omega) x2).other (by omega) x3).set (o := 0) (by simp) x4
  clear hT b0 b1 B1 r1 r2 v0 v1 hW0
  go_wp2
  have R4 := (HR (.string ⟨#[]⟩) (.slice none 0 0) (.int .i64 0) (.string ⟨#[]⟩) (.iface 100 (.agg #[.iface 98 (.agg #[.int .i64 q])]))).out
  have R5 := (HS (.string ⟨#[]⟩) (.slice none 0 0) (.int .i64 0) (.string ⟨#[]⟩) (.iface 100 (.agg #[.iface 98 (.agg #[.int .i64 q])]))).out
  have g0 := R4.at_ 0 _ rfl
  have g1 := R4.at_ 1 _ rfl
  have g2 := R4.at_ 2 _ rfl
  have g3 := R4.at_ 3 _ rfl
  have g4 := R5.at_ 0 _ rfl
  refine bodyPost_ret (v := .tuple #[.agg #[.string ⟨#[]⟩, .slice none 0 0, .int .i64 0, .string ⟨#[]⟩], .iface 100 (.agg #[.iface 98 (.agg #[.int .i64 q])])]) (by simp [results, Tryz.results30, go_sem, g0, g1, g2, g3, g4]) rfl ?_
  unfold RC
  rw [hr]
  exact ⟨(HB _ _ _ _ _).out, .inr ⟨HI.out, _, _, _, _, _, _, _, _, rfl⟩⟩
theorem readCommitC (s : ByteArray) (w : World) (hs : s.size ≤ 1048576) (hTa : TaG w) (hgB : 6 < w.heap.size) (ho : OfG w) (hoB : 0 < w.heap.size) (hP : PeG w) (hP1 : 3 < w.heap.size) (hP2 : 4 < w.heap.size) :
    Calls Tryz.prog 30 #[.string s] w fun e w' => RC s w e w' := by
  by_cases h0 : tf s = 0
  · exact readCommit_ok s w hs h0 hTa hgB ho hoB hP hP1 hP2
  · exact readCommit_no s w hs h0
set_option maxRecDepth 20000 in
set_option maxHeartbeats 2000000 in
theorem implDecodeCommit (s : ByteArray) (w : World) (hs : s.size ≤ 1048576) (hTa : TaG w) (hgB : 6 < w.heap.size) (ho : OfG w) (hoB : 0 < w.heap.size) (hP : PeG w) (hP1 : 3 < w.heap.size) (hP2 : 4 < w.heap.size) (hE : ErrG w) :
    Calls Tryz.prog 7 #[.string s] w fun e w' => DC s w e w' := by
  obtain ⟨b, hb⟩ : ∃ b, w.heap.size = b := ⟨_, rfl⟩
  obtain ⟨W1, hW1⟩ : ∃ W1, w.alloc (.cells #[.int .i64 0, .string ⟨#[]⟩, .slice none 0 0, .int .i64 0, .string ⟨#[]⟩] 26) = W1 := ⟨_, rfl⟩
  have b1 : Below b w W1 := by rw [← hW1, ← hb]; exact allocBelow _ _
  have z1 : b < W1.heap.size := by rw [← hW1, ← hb]; simp
  have r1 : Rf W1 b [.int .i64 0, .string ⟨#[]⟩, .slice none 0 0, .int .i64 0, .string ⟨#[]⟩] := by rw [← hW1, ← hb]; exact Rf.new _ _ _
  rw [hb] at hgB hoB hP1 hP2
  have hR := readCommitC s W1 hs (hTa.below b1 hgB) (by omega) (ho.below b1 hoB) (by omega) (hP.below b1 hP1 hP2) (by omega) (by omega)
  have hEw : ∀ {w'}, Below b w w' → ErrG w' := fun h => hE.below (show Below w.heap.size w _ by rw [hb]; exact h)
  go_enter Tryz.func7, Tryz.ntmps7
  go_wp2_with fail
  refine hR.mono ?_
  rintro e w2 ⟨b2, he⟩
  have r2 := r1.below z1 b2
  have B2 : Below b w w2 := b1.trans (b2.mono (Nat.le_of_lt z1))
  have z2 := b2.size
  have hz : b < w2.heap.size := by omega
  clear hR r1 hW1 b1
  rcases he with ⟨t, ps, tm, no, v, hy, rfl, hrow⟩ | ⟨hy, t, la, ln, lc, tm, no, T, u, rfl⟩
  · have HY : Hid _ := dc_some hy
    obtain ⟨la, lc, rfl⟩ : ∃ a c, v = .slice a ps.length c := by
      rcases hrow.2 with ⟨h', h0'⟩ | ⟨g, c, cur, h', _⟩
      · exact ⟨none, 0, by rw [h', h0']⟩
      · exact ⟨_, _, h'⟩
    have d0 := r2.at_ 0 _ rfl
    have d1 := r2.at_ 1 _ rfl
    have d2 := r2.at_ 2 _ rfl
    have d3 := r2.at_ 3 _ rfl
    have d4 := r2.at_ 4 _ rfl
    have f0 := r2.fz 0
    have f1 := r2.fz 1
    have f2 := r2.fz 2
    have f3 := r2.fz 3
    have f4 := r2.fz 4
    have HR := fun x0 x1 x2 x3 x4 o => rf5 r2 rfl hz x0 x1 x2 x3 x4 o
    have hrow1 := rowDown hrow (show b + 1 ≤ W1.heap.size + 2 by omega)
    clear hy hrow r2
    go_wp2
    have R5 := HR (.int .i64 0) (.string t) (.slice la ps.length lc) (.int .i64 tm) (.string no) (.cells #[.string t, .slice la ps.length lc, .int .i64 tm, .string no] 24)
    have g0 := R5.at_ 0 _ rfl
    have g1 := R5.at_ 1 _ rfl
    have g2 := R5.at_ 2 _ rfl
    have g3 := R5.at_ 3 _ rfl
    have g4 := R5.at_ 4 _ rfl
    refine bodyPost_ret (v := .agg #[.int .i64 0, .string t, .slice la ps.length lc, .int .i64 tm, .string no]) (by simp [results, Tryz.results7, go_sem, g0, g1, g2, g3, g4]) rfl ?_
    unfold DC
    rw [HY.out.1, HY.out.2, hb]
    exact ⟨_, rfl, (own5 hrow1 _ _ _ _ _).alloc _, (below5 B2 _ _ _ _ _).alloc (by simpa using Nat.le_of_lt hz) _⟩
  · have HY : Hid _ := dc_none hy
    obtain ⟨W3, hW3⟩ : ∃ W, w2.alloc (.cells #[.string t, .slice la ln lc, .int .i64 tm, .string no] 24) = W := ⟨_, rfl⟩
    have b3 : Below w2.heap.size w2 W3 := by rw [← hW3]; exact allocBelow _ _
    have B3 : Below b w W3 := B2.trans (b3.mono (Nat.le_of_lt hz))
    have r3 := r2.below hz b3
    have z3 := b3.size
    have hD := codeOf_read T u W3 (hEw B3)
    clear hy r2 b2 B2
    go_wp2_with fail
    refine hD.mono ?_
    rintro e w4 ⟨rfl, b4⟩
    have r4 := r3.below (by omega) b4
    have B4 : Below b w w4 := B3.trans (b4.mono (by omega))
    have hz4 : b < w4.heap.size := by have := b4.size; omega
    have d0 := r4.at_ 0 _ rfl
    have d1 := r4.at_ 1 _ rfl
    have d2 := r4.at_ 2 _ rfl
    have d3 := r4.at_ 3 _ rfl
    have d4 := r4.at_ 4 _ rfl
    have f0 := r4.fz 0
    have f1 := r4.fz 1
    have f2 := r4.fz 2
    have f3 := r4.fz 3
    have f4 := r4.fz 4
    have HR : ∀ x0 x1 x2 x3 x4, Rf (((((w4.setCell ⟨b, 0, none⟩ x0).setCell ⟨b, 1, none⟩ x1).setCell ⟨b, 2, none⟩ x2).setCell ⟨b, 3, none⟩ x3).setCell ⟨b, 4, none⟩ x4) b [x0, x1, x2, x3, x4] := fun x0 x1 x2 x3 x4 => ((((r4.set (o := 0) (by simp) x0).set (o := 1) (by simp) x1).set (o := 2) (by simp) x2).set (o := 3) (by simp) x3).set (o := 4) (by simp) x4
    clear hD r3 r4 b3 B3 b4 hW3
    go_wp2
    have R5 := HR (.int .i64 5) (.string ⟨#[]⟩) (.slice none 0 0) (.int .i64 0) (.string ⟨#[]⟩)
    have g0 := R5.at_ 0 _ rfl
    have g1 := R5.at_ 1 _ rfl
    have g2 := R5.at_ 2 _ rfl
    have g3 := R5.at_ 3 _ rfl
    have g4 := R5.at_ 4 _ rfl
    refine bodyPost_ret (v := .agg #[.int .i64 5, .string ⟨#[]⟩, .slice none 0 0, .int .i64 0, .string ⟨#[]⟩]) (by simp [results, Tryz.results7, go_sem, g0, g1, g2, g3, g4]) rfl ?_
    unfold DC
    rw [HY.out.1, HY.out.2, hb]
    exact ⟨_, rfl, World.ownsRow_nil _ _ _ _, below5 B4 _ _ _ _ _⟩
end Go.Proofs.YtgidcncmicmggamGreatDoor.Dc
