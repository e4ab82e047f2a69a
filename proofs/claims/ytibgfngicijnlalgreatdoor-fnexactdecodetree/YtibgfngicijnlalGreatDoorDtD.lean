/- The contracts of the program's readTree (whole) and DecodeTree. No statement is proved here. -/
import Derived.Test.YtibgfngicijnlalGreatDoorRows
import Derived.Test.YtibgfngicijnlalGreatDoorLem
import Derived.Test.YtibgfngicijnlalGreatDoorStrs
import Derived.Test.YtibgfngicijnlalGreatDoorDTab
import Derived.Test.YtibgfngicijnlalGreatDoorOwn
import Derived.Test.YtibgfngicijnlalGreatDoorFr
import Derived.Test.YtibgfngicijnlalGreatDoorHkT
import Derived.Test.YtibgfngicijnlalGreatDoorTF
import Derived.Test.YtibgfngicijnlalGreatDoorCdC
import Derived.Test.YtibgfngicijnlalGreatDoorTeL
import Derived.Test.YtibgfngicijnlalGreatDoorTrW
import Derived.Test.YtibgfngicijnlalGreatDoorDtL
import Derived.Test.YtibgfngicijnlalGreatDoorWtC
import Derived.Test.YtibgfngicijnlalGreatDoorRtC
import Derived.WalkKit
import Derived.ProofKit
import Derived.Below
import Derived.WalkSpells
import Derived.Deep.QuietTactic
import Derived.BigQuiet
namespace Go.Proofs.YtibgfngicijnlalGreatDoor.Te
open Go.ChangeShapes Go.WideShapes Go.ChangeAt Go.RowKit

theorem dtI_no {s : ByteArray} (h : ¬ tf s = 0) : dtI s = false := by unfold dtI; rw [decide_eq_false h]; rfl
set_option maxRecDepth 20000 in
set_option maxHeartbeats 1000000 in
theorem readTree_no (s : ByteArray) (w : World) (hs : s.size ≤ 1048576) (h0 : ¬ tf s = 0) :
    Calls Tryz.prog 10 #[.string s] w fun e w' => RT s w e w' := by
  have hT := fun w => implTextFault s w hs
  have HI : Hid (dtI s = false) := dtI_no h0
  obtain ⟨r, hr⟩ : ∃ r, tf s = r := ⟨_, rfl⟩
  rw [hr] at h0
  simp only [hr] at hT
  have q : (r != 0) = true := by simpa using h0
  clear hr h0
  go_enter Tryz.func10, Tryz.ntmps10
  go_wp2_with fail
  refine (hT _).mono ?_; rintro e w1 ⟨rfl, b1⟩
  clear hT
  go_wp2
  go_ret2
  exact ⟨b1, .inr ⟨HI.out, _, _, _, rfl⟩⟩
theorem readTreeC (s : ByteArray) (w : World) (hs : s.size ≤ 1048576) (hg : MwG w) (hgB : 0 < w.heap.size) (ho : OfG w) (hoB : 1 < w.heap.size) :
    Calls Tryz.prog 10 #[.string s] w fun e w' => RT s w e w' := by
  by_cases h0 : tf s = 0
  · exact readTree_ok s w hs h0 hg hgB ho hoB
  · exact readTree_no s w hs h0
/-- What DecodeTree answers. -/
def dtC (s : ByteArray) : Int := if dtI s = true then 0 else 5
def dtE (s : ByteArray) : List Ob := if dtI s = true then dtP s else []
def DT (s : ByteArray) (w : World) (e : Ending) (w' : World) : Prop := ∃ v, e = .returned (.agg #[.int .i64 (dtC s), v]) ∧ w'.ownsRow w.heap.size 43 3 v (dtE s).length (ocells (dtE s)) ∧ Below w.heap.size w w'
theorem dt_yes {s : ByteArray} (h : dtI s = true) : dtC s = 0 ∧ dtE s = dtP s := ⟨if_pos h, if_pos h⟩
theorem dt_no {s : ByteArray} (h : dtI s = false) : dtC s = 5 ∧ dtE s = [] := ⟨if_neg (by rw [h]; decide), if_neg (by rw [h]; decide)⟩
theorem nilRowT (w : World) (b : Nat) : w.ownsRow b 43 3 (.slice none 0 0) ([] : List Ob).length (ocells []) := World.ownsRow_nil _ _ _ _
theorem own_two {w : World} {base p : Nat} {e : TypeId} {s : Nat} {v : Value} {n : Nat} {xs : List Value} (h : w.ownsRow base e s v n xs) (hp : p < base) (a0 a1 : Value) : ((w.setCell ⟨p, 0, none⟩ a0).setCell ⟨p, 1, none⟩ a1).ownsRow base e s v n xs :=
  ownsRow_setCell_below (ownsRow_setCell_below h (a := ⟨p, 0, none⟩) hp a0) (a := ⟨p, 1, none⟩) hp a1
set_option maxRecDepth 20000 in
set_option maxHeartbeats 2000000 in
theorem implDecodeTree (s : ByteArray) (w : World) (hs : s.size ≤ 1048576) (hg : MwG w) (hgB : 0 < w.heap.size) (ho : OfG w) (hoB : 1 < w.heap.size) (hE : ErrG w) :
    Calls Tryz.prog 5 #[.string s] w fun e w' => DT s w e w' := by
  obtain ⟨W1, hW1⟩ : ∃ W1, w.alloc (.cells #[.int .i64 0, .slice none 0 0] 24) = W1 := ⟨_, rfl⟩
  have b1 : Below w.heap.size w W1 := by rw [← hW1]; exact allocBelow _ _
  have z1 : w.heap.size < W1.heap.size := by rw [← hW1]; simp
  have r1 : Rf W1 w.heap.size [.int .i64 0, .slice none 0 0] := by rw [← hW1]; exact Rf.new _ _ _
  have hR := readTreeC s W1 hs (hg.below b1 hgB) (by omega) (ho.below b1 hoB) (by omega)
  go_enter Tryz.func5, Tryz.ntmps5
  go_wp2_with fail
  refine hR.mono ?_
  rintro e w2 ⟨b2, he⟩
  have r2 := r1.below z1 b2
  have B2 : Below w.heap.size w w2 := b1.trans (b2.mono b1.size)
  have z2 := b2.size
  clear hR r1 hW1 b1
  rcases he with ⟨hy, v, rfl, hrow⟩ | ⟨hy, v, T, u, rfl⟩
  · obtain ⟨y1, y2⟩ := dt_yes hy
    have HY : Hid (dtC s = 0 ∧ dtE s = dtP s) := ⟨y1, y2⟩
    obtain ⟨la, lc, rfl⟩ : ∃ a c, v = .slice a (dtP s).length c := by
      rcases hrow.2 with ⟨h', h0'⟩ | ⟨g, c, cur, h', _⟩
      · exact ⟨none, 0, by rw [h', h0']⟩
      · exact ⟨_, _, h'⟩
    have d0 := r2.at_ 0 _ rfl
    have d1 := r2.at_ 1 _ rfl
    have f0 := r2.fz 0
    have f1 := r2.fz 1
    have HB : ∀ a0 a1, Hid (Below w.heap.size w ((w2.setCell ⟨w.heap.size, 0, none⟩ a0).setCell ⟨w.heap.size, 1, none⟩ a1)) := fun a0 a1 => below_sets B2 (Nat.le_refl _) a0 a1
    have HO : ∀ a0 a1, Hid (((w2.setCell ⟨w.heap.size, 0, none⟩ a0).setCell ⟨w.heap.size, 1, none⟩ a1).ownsRow w.heap.size 43 3 (.slice la (dtP s).length lc) (dtP s).length (ocells (dtP s))) := fun a0 a1 => ownsRow_mono3 (own_two hrow z1 a0 a1) (Nat.le_of_lt z1)
    clear hy y1 y2 hrow r2 b2 B2
    obtain ⟨L, hL⟩ : ∃ L, dtP s = L := ⟨_, rfl⟩
    rw [hL] at HY HO ⊢
    clear hL
    go_wp2
    refine bodyPost_ret (v := .agg #[.int .i64 0, .slice la L.length lc]) (by simp [results, Tryz.results5, go_sem, d0, d1]) rfl ?_
    unfold DT
    rw [HY.out.1, HY.out.2]
    exact ⟨_, rfl, (HO _ _).out, (HB _ _).out⟩
  · obtain ⟨y1, y2⟩ := dt_no hy
    have HY : Hid (dtC s = 5 ∧ dtE s = []) := ⟨y1, y2⟩
    have hD := codeOf_read T u w2 (hE.below B2)
    clear hy y1 y2
    go_wp2_with fail
    refine hD.mono ?_
    rintro e w3 ⟨rfl, b3⟩
    have r3 := r2.below (by omega) b3
    have B3 := B2.trans (b3.mono B2.size)
    have d0 := r3.at_ 0 _ rfl
    have d1 := r3.at_ 1 _ rfl
    have f0 := r3.fz 0
    have f1 := r3.fz 1
    have HB : ∀ a0 a1, Hid (Below w.heap.size w ((w3.setCell ⟨w.heap.size, 0, none⟩ a0).setCell ⟨w.heap.size, 1, none⟩ a1)) := fun a0 a1 => below_sets B3 (Nat.le_refl _) a0 a1
    clear hD r2 r3 b2 b3 B2 B3
    go_wp2
    refine bodyPost_ret (v := .agg #[.int .i64 5, .slice none 0 0]) (by simp [results, Tryz.results5, go_sem, d0, d1]) rfl ?_
    unfold DT
    rw [HY.out.1, HY.out.2]
    exact ⟨_, rfl, nilRowT _ _, (HB _ _).out⟩
end Go.Proofs.YtibgfngicijnlalGreatDoor.Te
