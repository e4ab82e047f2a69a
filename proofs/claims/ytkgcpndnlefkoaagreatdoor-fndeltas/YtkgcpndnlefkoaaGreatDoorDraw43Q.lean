/- Files bent; two lists of files drawn: l7Bent, l7Two, DrawDiffFiles. No statement is proved here. -/
import Derived.Test.YtkgcpndnlefkoaaGreatDoorRows
import Derived.Test.YtkgcpndnlefkoaaGreatDoorLemQ
import Derived.Test.YtkgcpndnlefkoaaGreatDoorLwEQ
import Derived.Test.YtkgcpndnlefkoaaGreatDoorLFLemQ
import Derived.Test.YtkgcpndnlefkoaaGreatDoorDTabQ
import Derived.Test.YtkgcpndnlefkoaaGreatDoorInQ
import Derived.Test.YtkgcpndnlefkoaaGreatDoorDigCQ
import Derived.Test.YtkgcpndnlefkoaaGreatDoorObLQ
import Derived.Test.YtkgcpndnlefkoaaGreatDoorGtSQ
import Derived.Test.YtkgcpndnlefkoaaGreatDoorShQQ
import Derived.Test.YtkgcpndnlefkoaaGreatDoorOcAQ
import Derived.Test.YtkgcpndnlefkoaaGreatDoorPuSQ
import Derived.Test.YtkgcpndnlefkoaaGreatDoorJoinCQ
import Derived.Test.YtkgcpndnlefkoaaGreatDoorDrawQ
import Derived.Test.YtkgcpndnlefkoaaGreatDoorDraw5Q
import Derived.Test.YtkgcpndnlefkoaaGreatDoorDraw7Q
import Derived.Test.YtkgcpndnlefkoaaGreatDoorDraw12Q
import Derived.Test.YtkgcpndnlefkoaaGreatDoorDfMQ
import Derived.Test.YtkgcpndnlefkoaaGreatDoorDfBQ
import Derived.Test.YtkgcpndnlefkoaaGreatDoorDraw40Q
import Derived.Test.YtkgcpndnlefkoaaGreatDoorShelfCQ
import Derived.Test.YtkgcpndnlefkoaaGreatDoorDfTQ
import Derived.Test.YtkgcpndnlefkoaaGreatDoorDfQQ
import Derived.Test.YtkgcpndnlefkoaaGreatDoorFfCQ
import Derived.Test.YtkgcpndnlefkoaaGreatDoorFbIQ
import Derived.Test.YtkgcpndnlefkoaaGreatDoorDraw41Q
import Derived.Test.YtkgcpndnlefkoaaGreatDoorDraw42Q
import Derived.WalkKit
import Derived.ProofKit
import Derived.Below
import Derived.WalkSpells
import Derived.Deep.QuietTactic
import Derived.BigQuiet
import Derived.Deep.RegionWith
import Derived.Deep.RegionHeld
import Derived.Deep.RegionLaw
import Derived.Deep.RegionHeldLaw
import Derived.Deep.Cut
import Derived.Deep.CutRange
import Derived.Maps.AppendAt
set_option linter.unusedVariables false
namespace Go.Proofs.YtkgcpndnlefkoaaGreatDoor
open Go.ChangeShapes Go.WideShapes Go.ChangeAt Go.RowKit

def BePost (N b : Nat) (a : Option Addr) (n cap : Nat) (K : Int) (z : Nat) (w : World) (e : Ending) (w' : World) : Prop :=
  ∃ (g c : Nat) (l : List Fl.Ob), e = .returned (.slice (some ⟨g, 0, none⟩) l.length c) ∧ l.length ≤ c ∧ g ≠ b ∧ Fl.OB w'.heap.size w' (some ⟨g, 0, none⟩) l ∧ l.length ≤ 200 ∧ SmF z l ∧ (∃ k', Src N w' b a n cap k' ∧ k' ≤ K) ∧ w.grownBy w' (some b)
variable {N b : Nat} {a : Option Addr} {n cap : Nat} {K : Int} {z : Nat} {w0 w w' : World} {v : Value} {l : List Fl.Ob}
theorem be_of {g c : Nat} (h : NW N b a n cap K z w w' (.slice (some ⟨g, 0, none⟩) l.length c) l) (hl : l.length ≤ 200) : BePost N b a n cap K z w (.returned (.slice (some ⟨g, 0, none⟩) l.length c)) w' := by
  have hg := h.own.lt g rfl
  have := h.lt
  exact ⟨g, c, l, rfl, Fl.rowCap h.own, by omega, Fl.OB.of h.own, hl, h.sm, h.src, h.gr⟩
theorem be_of' {g c i : Nat} {X : Fl.Ob} (h : NW N b a n cap K z w w' (.slice (some ⟨g, 0, none⟩) l.length c) (l.set i X)) (hl : l.length ≤ 200) : BePost N b a n cap K z w (.returned (.slice (some ⟨g, 0, none⟩) l.length c)) w' := by
  have e : (l.set i X).length = l.length := List.length_set
  rw [← e] at h ⊢
  exact be_of h (by omega)
theorem pick3F {w W : World} {x0 x1 x2 : Int} {t : TypeId} (h : w.alloc (.cells #[.int .i64 x0, .int .i64 x1, .int .i64 x2] t) = W) : ∀ j, j < 3 → ∃ v, W.cell? ⟨w.heap.size, j, none⟩ = some (.int .i64 v) ∧ True := pick3' h
set_option maxRecDepth 20000 in
set_option maxHeartbeats 16000000 in
theorem l7BentC (N b : Nat) (a : Option Addr) (n cap : Nat) (k : Int) (w : World) (gx cx z : Nat) (lf : List Fl.Ob) (h : Src N w b a n cap k) (hk : k ≤ 200000) (ho : Fl.OB w.heap.size w (some ⟨gx, 0, none⟩) lf) (hgx : gx ≠ b) (hcx : lf.length ≤ cx) (hl : lf.length ≤ 120) (hs : SmF z lf) (hz0 : 10 ≤ z) (hz : z ≤ 1000) :
    Calls Tryz.prog 26 #[.pointer (some ⟨b, 0, none⟩), .slice (some ⟨gx, 0, none⟩) lf.length cx] w fun e w' => BePost N b a n cap (k + 20) (z + 2) w e w' := by
  have hlt := h.lt
  by_cases hL0 : lf.length = 0
  · have q : ((lf.length : Int) == 0) = true := by rw [hL0]; rfl
    have HF : Hid (BePost N b a n cap (k + 20) (z + 2) w (.returned (.slice (some ⟨gx, 0, none⟩) lf.length cx)) w) := ⟨gx, cx, lf, rfl, hcx, hgx, ho, by omega, hs.up (by omega), ⟨k, h, by omega⟩, World.grownBy.refl _ _⟩
    clear hL0 ho h hs
    go_enter Tryz.func26, Tryz.ntmps26
    go_wp2_with fail
    go_ret
    exact HF.out
  have q : ((lf.length : Int) == 0) = false := by simpa using hL0
  have hlp : 0 < lf.length := by omega
  clear hL0
  have bL := allocBelow w (.cells #[] 42)
  have o1 := Fl.litE w
  have A1 : Fl.OB w.heap.size (w.alloc (.cells #[] 42)) (some ⟨gx, 0, none⟩) lf := Fl.belowAt ho bL (Nat.le_refl _)
  have z1 := bL.size
  go_enter Tryz.func26, Tryz.ntmps26
  go_wp2_with (at_builtin; refine Fl.stopMark ?_)
  change wpList _ _ _ _ _ _
  refine Fl.wpList_appP rfl (.tmp 11) (.tmp 12) rfl w.heap.size (.slice (some ⟨w.heap.size, 0, none⟩) 0 0) [] rfl o1 (some ⟨gx, 0, none⟩) cx _ lf rfl A1 (fun h => by cases h) (by simp; omega) z1 ?_
  intro v2 w2 o2 g2 e2
  rw [List.nil_append] at o2
  have B2 : Below w.heap.size w w2 := bL.grown g2 z1 (fun j hj => (o1.lt j hj).1)
  obtain ⟨g, c, rfl⟩ := posShape o2 (by omega)
  have E0 : NW N b a n cap k (z + 2) w w2 (.slice (some ⟨g, 0, none⟩) lf.length c) lf := ⟨hlt, o2, ⟨k, h.below B2, Int.le_refl _⟩, grown_of_below B2 _, hs.up (by omega)⟩
  obtain ⟨k3, s2, hk3⟩ := E0.src
  clear o1 A1 bL g2 o2 z1 B2 ho h e2 q hcx hgx
  obtain ⟨l, hll⟩ : ∃ l, lf = l := ⟨_, rfl⟩
  subst hll
  have hl2 : lf.length ≤ 200 := by omega
  obtain ⟨l, hll⟩ : ∃ l, l = lf := ⟨_, rfl⟩
  subst hll
  go_wp2_with fail
  refine (l1Next N b a n cap k3 _ w2 s2 (by omega)).mono ?_; rintro e w3 ⟨r, rfl, hd, s3, g3⟩
  have hd0 := hd.1
  have hd1 : r < (l.length : Int) := hd.2.1 (by omega)
  obtain ⟨i, rfl⟩ := Int.eq_ofNat_of_zero_le hd0
  have hin : i < l.length := by omega
  have E3 := E0.draw s3 (show k3 + 1 ≤ k + 1 by omega) g3
  clear hd hd0 g3 s2 E0
  go_wp2_with fail
  refine (l1Next N b a n cap (k3 + 1) 24 w3 s3 (by omega)).mono ?_; rintro e w4 ⟨r2, rfl, _, s4, g4⟩
  have E4 := (E3.draw s4 (show k3 + 1 + 1 ≤ k + 2 by omega) g4).up (show k + 2 ≤ k + 20 by omega) (Nat.le_refl (z + 2))
  have hX := E4.sm.get hin
  have q1 : (i : Int) < (l.length : Int) := by omega
  clear g4 s3 E3
  by_cases r0 : r2 = 0
  · subst r0
    obtain ⟨WL, hWL⟩ : ∃ W, w4.alloc (.cells #[.string ⟨#[]⟩, .string ⟨#[65]⟩, .string ⟨#[122, 122]⟩, .string ⟨#[108, 105, 98, 47, 113]⟩] 9) = W := ⟨_, rfl⟩
    have lB : LitB WL w4.heap.size 4 8 := by rw [← hWL]; exact lit_new w4 [⟨#[]⟩, ⟨#[65]⟩, ⟨#[122, 122]⟩, ⟨#[108, 105, 98, 47, 113]⟩] 9 8 (by decide)
    have bL : Below w4.heap.size w4 WL := by rw [← hWL]; exact allocBelow _ _
    have EL := E4.bel bL
    have hbl : some w4.heap.size ≠ some b := fun e => by have := Option.some.inj e; have := s4.lt; omega
    have hN := l1Next N b a n cap (k3 + 1 + 1) 4 WL (s4.below bL) (by omega)
    have HWL : Hid (_ = WL) := hWL
    clear hWL bL s4 E4
    go_wp2_with fail
    rw [HWL.out]
    refine hN.mono ?_; rintro e w5 ⟨r5, rfl, hd5, s5, g5⟩
    have hd50 := hd5.1
    have hd51 : r5 < 4 := hd5.2.1 (by omega)
    obtain ⟨j5, rfl⟩ := Int.eq_ofNat_of_zero_le hd50
    have E5 := EL.draw s5 (show k3 + 1 + 1 + 1 ≤ k + 20 by omega) g5
    obtain ⟨x5, hx5, hz5⟩ := (lB.kept g5 hbl) j5 (by omega)
    have q5 : (j5 : Int) < 4 := hd51
    obtain ⟨C0, C1, C2⟩ := E5.cells hin
    have F0 := E5.own.frozenAt (i * 3)
    have E6 := E5.put hin (focells_path l i x5 hin) (by show x5.size ≤ z + 2; omega) hX.2
    have HF : Hid (BePost N b a n cap (k + 20) (z + 2) w (.returned (.slice (some ⟨g, 0, none⟩) l.length c)) (w5.setCell ⟨g, i * 3, none⟩ (.string x5))) := be_of' E6 hl2
    clear hN hd5 hd50 E5 E6 EL lB s5 g5 hbl HWL
    go_wp2_with fail
    go_ret
    exact HF.out
  have p0 : (r2 == 0) = false := by simpa using r0
  by_cases r1 : r2 = 1
  · subst r1
    clear p0 r0
    have hPk := l1Pick N b a n cap (k3 + 1 + 1) w4.heap.size 3 3 (fun _ => True) (w4.alloc (.cells #[.int .i64 0, .int .i64 3, .int .i64 2] 2)) (s4.below (allocBelow _ _)) (by omega) (by omega) (by omega) (by have := s4.lt; omega) (by simp) (pick3F rfl)
    have EL := E4.bel (allocBelow w4 (.cells #[.int .i64 0, .int .i64 3, .int .i64 2] 2))
    clear s4 E4
    go_wp2_with fail
    refine hPk.mono ?_; rintro e w5 ⟨x5, rfl, _, s5, g5⟩
    have E5 := EL.draw s5 (show k3 + 1 + 1 + 1 ≤ k + 20 by omega) g5
    obtain ⟨C0, C1, C2⟩ := E5.cells hin
    have F0 := E5.own.frozenAt (i * 3 + 1)
    have E6 := E5.put hin (focells_mode l i x5 hin) hX.1 hX.2
    have HF : Hid (BePost N b a n cap (k + 20) (z + 2) w (.returned (.slice (some ⟨g, 0, none⟩) l.length c)) (w5.setCell ⟨g, i * 3 + 1, none⟩ (.int .i64 x5))) := be_of' E6 hl2
    clear E5 E6 EL s5 g5 hPk
    go_wp2_with fail
    go_ret
    exact HF.out
  have p1 : (r2 == 1) = false := by simpa using r1
  by_cases r2' : r2 = 2
  · subst r2'
    clear p0 r0 p1 r1
    obtain ⟨WL, hWL⟩ : ∃ W, w4.alloc (.cells #[.string ⟨#[]⟩, .string ⟨#[116, 48, 48, 48, 48]⟩, .string ⟨#[98, 48, 48, 48, 48]⟩] 9) = W := ⟨_, rfl⟩
    have lB : LitB WL w4.heap.size 3 8 := by rw [← hWL]; exact lit_new w4 [⟨#[]⟩, ⟨#[116, 48, 48, 48, 48]⟩, ⟨#[98, 48, 48, 48, 48]⟩] 9 8 (by decide)
    have bL : Below w4.heap.size w4 WL := by rw [← hWL]; exact allocBelow _ _
    have EL := E4.bel bL
    have hbl : some w4.heap.size ≠ some b := fun e => by have := Option.some.inj e; have := s4.lt; omega
    have hN := l1Next N b a n cap (k3 + 1 + 1) 3 WL (s4.below bL) (by omega)
    have HWL : Hid (_ = WL) := hWL
    clear hWL bL s4 E4
    go_wp2_with fail
    rw [HWL.out]
    refine hN.mono ?_; rintro e w5 ⟨r5, rfl, hd5, s5, g5⟩
    have hd50 := hd5.1
    have hd51 : r5 < 3 := hd5.2.1 (by omega)
    obtain ⟨j5, rfl⟩ := Int.eq_ofNat_of_zero_le hd50
    have E5 := EL.draw s5 (show k3 + 1 + 1 + 1 ≤ k + 20 by omega) g5
    obtain ⟨x5, hx5, hz5⟩ := (lB.kept g5 hbl) j5 (by omega)
    have q5 : (j5 : Int) < 3 := hd51
    obtain ⟨C0, C1, C2⟩ := E5.cells hin
    have F0 := E5.own.frozenAt (i * 3 + 2)
    have E6 := E5.put hin (focells_id l i x5 hin) hX.1 (by show x5.size ≤ z + 2; omega)
    have HF : Hid (BePost N b a n cap (k + 20) (z + 2) w (.returned (.slice (some ⟨g, 0, none⟩) l.length c)) (w5.setCell ⟨g, i * 3 + 2, none⟩ (.string x5))) := be_of' E6 hl2
    clear hN hd5 hd50 E5 E6 EL lB s5 g5 hbl HWL
    go_wp2_with fail
    go_ret
    exact HF.out
  have p2 : (r2 == 2) = false := by simpa using r2'
  by_cases r3 : r2 = 3
  · subst r3
    clear p0 r0 p1 r1 p2 r2'
    obtain ⟨C0, C1, C2⟩ := E4.cells hin
    have hX0 := (hs.get hin).1
    obtain ⟨⟨x0, x1, x2⟩, hCe⟩ : ∃ C, l.getD i Fl.onil = C := ⟨_, rfl⟩
    rw [hCe] at hX C0 C1 C2 hX0
    simp only [] at hX C0 C1 C2 hX0
    clear hCe
    have bN := allocBelow w4 (.cells #[.string x0, .int .i64 x1, .string x2] 42)
    have EN := E4.bel bN
    have nw1 : Fl.OB (w4.heap.size + 1) (w4.alloc (.cells #[.string x0, .int .i64 x1, .string x2] 42)) (some ⟨w4.heap.size, 0, none⟩) [(x0, x1, x2)] := Fl.newOne w4 _ _ _
    clear E4 s4 bN
    go_wp2_with (at_builtin; refine Fl.stopMark ?_)
    change wpList _ _ _ _ _ _
    refine Fl.wpList_appO rfl (.tmp 53) (.tmp 58) rfl w.heap.size _ l rfl EN.own (some ⟨w4.heap.size, 0, none⟩) 1 _ [(x0, x1, x2)] rfl nw1 (fun h => by cases h) (by simp; omega) EN.gr.size ?_
    intro v5 w5 o5 g5
    have hsm : SmF (z + 2) (l ++ [(x0, x1, x2)]) := EN.sm.snoc hX.1 hX.2
    have hl5 : (l ++ [(x0, x1, x2)]).length ≤ 200 := by rw [List.length_append]; simp; omega
    have hp5 : (l ++ [(x0, x1, x2)]).length ≠ 0 := by simp
    obtain ⟨LL, hLL⟩ : ∃ X, l ++ [(x0, x1, x2)] = X := ⟨_, rfl⟩
    rw [hLL] at o5 hl5 hsm hp5
    have E5 := EN.app g5 o5 hsm
    obtain ⟨g5', c5, rfl⟩ := posShape o5 hp5
    have HF : Hid (BePost N b a n cap (k + 20) (z + 2) w (.returned (.slice (some ⟨g5', 0, none⟩) LL.length c5)) w5) := be_of E5 hl5
    clear E5 o5 g5 EN nw1 hLL hl5 hsm hp5 C0 C1 C2
    go_wp2_with fail
    go_ret
    exact HF.out
  have p3 : (r2 == 3) = false := by simpa using r3
  by_cases r4 : r2 = 4
  · subst r4
    clear p0 r0 p1 r1 p2 r2' p3 r3
    obtain ⟨C0, C1, C2⟩ := E4.cells hin
    have hX0 := (hs.get hin).1
    obtain ⟨⟨x0, x1, x2⟩, hCe⟩ : ∃ C, l.getD i Fl.onil = C := ⟨_, rfl⟩
    rw [hCe] at hX C0 C1 C2 hX0
    simp only [] at hX C0 C1 C2 hX0
    clear hCe
    have hYz : (x0 ++ (⟨#[47, 113]⟩ : ByteArray)).size ≤ z + 2 := by rw [ByteArray.size_append]; have e : (⟨#[47, 113]⟩ : ByteArray).size = 2 := rfl; omega
    have bN := allocBelow w4 (.cells #[.string (x0 ++ (⟨#[47, 113]⟩ : ByteArray)), .int .i64 1, .string (⟨#[98, 48, 48, 48, 48]⟩ : ByteArray)] 42)
    have EN := E4.bel bN
    have nw1 : Fl.OB (w4.heap.size + 1) (w4.alloc (.cells #[.string (x0 ++ (⟨#[47, 113]⟩ : ByteArray)), .int .i64 1, .string (⟨#[98, 48, 48, 48, 48]⟩ : ByteArray)] 42)) (some ⟨w4.heap.size, 0, none⟩) [((x0 ++ (⟨#[47, 113]⟩ : ByteArray)), (1 : Int), (⟨#[98, 48, 48, 48, 48]⟩ : ByteArray))] := Fl.newOne w4 _ _ _
    clear E4 s4 bN
    go_wp2_with (at_builtin; refine Fl.stopMark ?_)
    change wpList _ _ _ _ _ _
    refine Fl.wpList_appO rfl (.tmp 62) (.tmp 70) rfl w.heap.size _ l rfl EN.own (some ⟨w4.heap.size, 0, none⟩) 1 _ [((x0 ++ (⟨#[47, 113]⟩ : ByteArray)), (1 : Int), (⟨#[98, 48, 48, 48, 48]⟩ : ByteArray))] rfl nw1 (fun h => by cases h) (by simp; omega) EN.gr.size ?_
    intro v5 w5 o5 g5
    have hsm : SmF (z + 2) (l ++ [((x0 ++ (⟨#[47, 113]⟩ : ByteArray)), (1 : Int), (⟨#[98, 48, 48, 48, 48]⟩ : ByteArray))]) := EN.sm.snoc hYz (by show (⟨#[98, 48, 48, 48, 48]⟩ : ByteArray).size ≤ z + 2; have e : (⟨#[98, 48, 48, 48, 48]⟩ : ByteArray).size = 5 := rfl; omega)
    have hl5 : (l ++ [((x0 ++ (⟨#[47, 113]⟩ : ByteArray)), (1 : Int), (⟨#[98, 48, 48, 48, 48]⟩ : ByteArray))]).length ≤ 200 := by rw [List.length_append]; simp; omega
    have hp5 : (l ++ [((x0 ++ (⟨#[47, 113]⟩ : ByteArray)), (1 : Int), (⟨#[98, 48, 48, 48, 48]⟩ : ByteArray))]).length ≠ 0 := by simp
    obtain ⟨LL, hLL⟩ : ∃ X, l ++ [((x0 ++ (⟨#[47, 113]⟩ : ByteArray)), (1 : Int), (⟨#[98, 48, 48, 48, 48]⟩ : ByteArray))] = X := ⟨_, rfl⟩
    rw [hLL] at o5 hl5 hsm hp5
    have E5 := EN.app g5 o5 hsm
    obtain ⟨g5', c5, rfl⟩ := posShape o5 hp5
    have hSo := Fl.l7SortC (some ⟨g5', 0, none⟩) c5 LL w5 (Fl.OB.of E5.own) (by omega)
    clear o5 g5 EN nw1 hLL hsm hp5 C0 C1 C2
    go_wp2_with fail
    refine hSo.mono ?_; rintro e w6 ⟨S, gS, cS, rfl, oS, bS, sS, pS⟩
    have hSl : S.length ≤ 200 := by rw [pS.length_eq]; exact hl5
    have E6 := E5.other bS oS E5.gr.size (fun o ho => E5.sm o (pS.mem_iff.1 ho))
    have HF : Hid (BePost N b a n cap (k + 20) (z + 2) w (.returned (.slice (some ⟨gS, 0, none⟩) S.length cS)) w6) := be_of E6 hSl
    clear E5 E6 oS bS sS pS hSo hl5 hSl
    go_wp2_with fail
    go_ret
    exact HF.out
  have p4 : (r2 == 4) = false := by simpa using r4
  by_cases r5 : r2 = 5
  · subst r5
    clear p0 r0 p1 r1 p2 r2' p3 r3 p4 r4
    go_wp2_with fail
    refine (l1Chance N b a n cap (k3 + 1 + 1) 4 _ s4 (by omega)).mono ?_; rintro e w5 ⟨ch, rfl, s5, g5⟩
    have E5 := E4.draw s5 (show k3 + 1 + 1 + 1 ≤ k + 20 by omega) g5
    clear s4 E4 g5
    cases ch with
    | false =>
      have HF : Hid (BePost N b a n cap (k + 20) (z + 2) w (.returned (.slice (some ⟨g, 0, none⟩) l.length c)) w5) := be_of E5 hl2
      clear E5 s5
      go_wp2_with fail
      go_ret
      exact HF.out
    | true =>
      obtain ⟨i1, hi', hy0, hy1, hy2⟩ := info_parts Fl.infoObj
      go_wp2_with (at_make; refine wpList_make_full _ rfl _ _ 24 rfl w5.heap.size 42 i1 (.agg #[.string ⟨#[]⟩, .int .i64 0, .string ⟨#[]⟩]) 3 Tryz.underlying24 hi' hy0 hy1 .i64 .i64 61 61 61 rfl rfl rfl rfl (by rw [hy2]; omega) (by unfold maxLen; omega) (Nat.le_refl _) ?_; intro w6 hown6 hg6)
      have e9 : (madeCells (Value.agg #[.string ⟨#[]⟩, .int .i64 0, .string ⟨#[]⟩]).cells (61 * 3)).toList = Fl.ocells (List.replicate 61 Fl.onil) := by kernel_rfl
      rw [e9] at hown6
      have el : (List.replicate 61 Fl.onil).length = 61 := by simp
      have o7 : w6.ownsRow w5.heap.size 42 3 (.slice (some ⟨w5.heap.size, 0, none⟩) (List.replicate 61 Fl.onil).length 61) (List.replicate 61 Fl.onil).length (Fl.ocells (List.replicate 61 Fl.onil)) := by rw [el]; exact hown6
      have b6 : Below w5.heap.size w5 w6 := (Below.refl _ _).grown hg6 (Nat.le_refl _) (fun j hj => by cases hj)
      have E6 := E5.other b6 o7 E5.gr.size (fun o ho => by rw [List.eq_of_mem_replicate ho]; exact ⟨Nat.zero_le _, Nat.zero_le _⟩)
      have HF : Hid (BePost N b a n cap (k + 20) (z + 2) w (.returned (.slice (some ⟨w5.heap.size, 0, none⟩) (List.replicate 61 Fl.onil).length 61)) w6) := be_of E6 (by rw [el]; omega)
      rw [el] at HF
      clear E5 E6 b6 o7 hown6 hg6 s5
      go_wp2_with fail
      go_ret
      exact HF.out
  have p5 : (r2 == 5) = false := by simpa using r5
  have HF : Hid (BePost N b a n cap (k + 20) (z + 2) w (.returned (.slice (some ⟨g, 0, none⟩) l.length c)) w4) := be_of E4 hl2
  clear r0 r1 r2' r3 r4 r5 E4 s4 hX
  go_wp2_with fail
  go_ret
  exact HF.out
end Go.Proofs.YtkgcpndnlefkoaaGreatDoor
