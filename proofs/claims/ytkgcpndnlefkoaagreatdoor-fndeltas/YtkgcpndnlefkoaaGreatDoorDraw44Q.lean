/- Two lists of files drawn: l7Two, DrawDiffFiles. No statement is proved here. -/
import Derived.Test.YtkgcpndnlefkoaaGreatDoorRows
import Derived.Test.YtkgcpndnlefkoaaGreatDoorLemQ
import Derived.Test.YtkgcpndnlefkoaaGreatDoorLwEQ
import Derived.Test.YtkgcpndnlefkoaaGreatDoorLFLemQ
import Derived.Test.YtkgcpndnlefkoaaGreatDoorDTabQ
import Derived.Test.YtkgcpndnlefkoaaGreatDoorInQ
import Derived.Test.YtkgcpndnlefkoaaGreatDoorDigCQ
import Derived.Test.YtkgcpndnlefkoaaGreatDoorObLQ
import Derived.Test.YtkgcpndnlefkoaaGreatDoorGtSQ
import Derived.Test.YtkgcpndnlefkoaaGreatDoorShQQ
import Derived.Test.YtkgcpndnlefkoaaGreatDoorOcAQ
import Derived.Test.YtkgcpndnlefkoaaGreatDoorPuSQ
import Derived.Test.YtkgcpndnlefkoaaGreatDoorJoinCQ
import Derived.Test.YtkgcpndnlefkoaaGreatDoorDrawQ
import Derived.Test.YtkgcpndnlefkoaaGreatDoorDraw5Q
import Derived.Test.YtkgcpndnlefkoaaGreatDoorDraw7Q
import Derived.Test.YtkgcpndnlefkoaaGreatDoorDraw12Q
import Derived.Test.YtkgcpndnlefkoaaGreatDoorDfMQ
import Derived.Test.YtkgcpndnlefkoaaGreatDoorDfBQ
import Derived.Test.YtkgcpndnlefkoaaGreatDoorDraw40Q
import Derived.Test.YtkgcpndnlefkoaaGreatDoorShelfCQ
import Derived.Test.YtkgcpndnlefkoaaGreatDoorDfTQ
import Derived.Test.YtkgcpndnlefkoaaGreatDoorDfQQ
import Derived.Test.YtkgcpndnlefkoaaGreatDoorFfCQ
import Derived.Test.YtkgcpndnlefkoaaGreatDoorFbIQ
import Derived.Test.YtkgcpndnlefkoaaGreatDoorDraw41Q
import Derived.Test.YtkgcpndnlefkoaaGreatDoorDraw42Q
import Derived.Test.YtkgcpndnlefkoaaGreatDoorDraw43Q
import Derived.WalkKit
import Derived.ProofKit
import Derived.Below
import Derived.WalkSpells
import Derived.Deep.QuietTactic
import Derived.BigQuiet
import Derived.Deep.RegionWith
import Derived.Deep.RegionHeld
import Derived.Deep.RegionLaw
import Derived.Deep.RegionHeldLaw
import Derived.Deep.Cut
import Derived.Deep.CutRange
import Derived.Maps.AppendAt
set_option linter.unusedVariables false
namespace Go.Proofs.YtkgcpndnlefkoaaGreatDoor
open Go.ChangeShapes Go.WideShapes Go.ChangeAt Go.RowKit

/-- A list of files that can be read, while a source of bytes is read. -/
structure FV (b g c m z : Nat) (w : World) (l : List Fl.Ob) : Prop where
  ne : g ≠ b
  cap : l.length ≤ c
  len : l.length ≤ m
  sm : SmF z l
  ob : Fl.OB w.heap.size w (some ⟨g, 0, none⟩) l
theorem FV.kept {b g c m z : Nat} {w w' : World} {l : List Fl.Ob} (h : FV b g c m z w l) (hg : w.grownBy w' (some b)) : FV b g c m z w' l := by
  refine ⟨h.ne, h.cap, h.len, h.sm, fun k hk => ?_⟩
  obtain ⟨g', off, e, hgb, d0, d1, d2⟩ := h.ob k hk
  have hne : some g' ≠ some b := fun q => by
    simp only [Option.some.injEq, Addr.mk.injEq, and_true] at e
    have := Option.some.inj q
    have := h.ne
    omega
  exact ⟨g', off, e, Nat.lt_of_lt_of_le hgb hg.size, hg.cell d0 hne, hg.cell d1 hne, hg.cell d2 hne⟩
theorem FV.up {b g c m m' z z' : Nat} {w : World} {l : List Fl.Ob} (h : FV b g c m z w l) (hm : m ≤ m') (hz : z ≤ z') : FV b g c m' z' w l := ⟨h.ne, h.cap, Nat.le_trans h.len hm, h.sm.up hz, h.ob⟩
def TwPost (N b : Nat) (w : World) (e : Ending) (w' : World) : Prop :=
  ∃ (g1 c1 : Nat) (l1 : List Fl.Ob) (g2 c2 : Nat) (l2 : List Fl.Ob), e = .returned (.tuple #[.slice (some ⟨g1, 0, none⟩) l1.length c1, .slice (some ⟨g2, 0, none⟩) l2.length c2]) ∧ FV b g1 c1 200 30 w' l1 ∧ FV b g2 c2 200 30 w' l2 ∧ w.grownBy w' (some b)
set_option maxRecDepth 20000 in
set_option maxHeartbeats 8000000 in
theorem l7TwoC (N b : Nat) (a : Option Addr) (n cap : Nat) (k : Int) (w : World) (h : Src N w b a n cap k) (hk : k ≤ 100) :
    Calls Tryz.prog 10 #[.pointer (some ⟨b, 0, none⟩)] w fun e w' => TwPost N b w e w' := by
  have hlt := h.lt
  go_enter Tryz.func10, Tryz.ntmps10
  go_wp2_with fail
  refine (l7SomeNil N b a n cap k w h (by omega)).mono ?_
  rintro e w1 ⟨sv, ls, g, c, lf, k1, rfl, o1, hl1, hs1, _, _, _, _, gr1, s1, hk1⟩
  have hgl := o1.lt g rfl
  have F1 : FV b g c 8 20 w1 lf := ⟨by omega, Fl.rowCap o1, hl1, hs1, Fl.OB.of o1⟩
  clear o1 h
  go_wp2_with fail
  refine (l7NearC N b a n cap k1 w1 (some ⟨g, 0, none⟩) c lf s1 (by omega) F1.ob (fun h => by cases h) (by omega) hs1).mono ?_
  rintro e w2 ⟨v2, l2, rfl, nn2, E2, hl2⟩
  obtain ⟨g2, c2, rfl⟩ : ∃ g2 c2, v2 = .slice (some ⟨g2, 0, none⟩) l2.length c2 := by
    rcases E2.own.2 with ⟨e, _⟩ | ⟨g', c', cur, e, _⟩
    · rw [e] at nn2; exact absurd rfl nn2
    · exact ⟨g', c', e⟩
  have hg2 := E2.own.lt g2 rfl
  have hb1 := s1.lt
  have F2 : FV b g2 c2 12 20 w2 l2 := ⟨by omega, Fl.rowCap E2.own, by omega, E2.sm, Fl.OB.of E2.own⟩
  obtain ⟨k2, s2, hk2⟩ := E2.src
  have F1b := F1.kept E2.gr
  have G2 := grown_trans gr1 E2.gr
  clear F1 E2 gr1 s1 hg2 nn2
  go_wp2_with fail
  refine (l1Chance N b a n cap k2 10 w2 s2 (by omega)).mono ?_; rintro e w3 ⟨ch1, rfl, s3, g3⟩
  have F1c := F1b.kept g3
  have F2c := F2.kept g3
  have G3 := grown_trans G2 g3
  clear F1b F2 G2 s2 g3
  cases ch1 with
  | true =>
    go_wp2_with fail
    refine (l7BentC N b a n cap (k2 + 1) w3 g c 20 lf s3 (by omega) F1c.ob F1c.ne F1c.cap (by omega) hs1 (by omega) (by omega)).mono ?_
    rintro e w4 ⟨g4, c4, l4, rfl, hc4, ne4, ob4, hl4, hs4, ⟨k4, s4, hk4⟩, gr4⟩
    have F4 : FV b g4 c4 200 30 w4 l4 := ⟨ne4, hc4, hl4, hs4.up (by omega), ob4⟩
    have F2d := F2c.kept gr4
    have G4 := grown_trans G3 gr4
    clear F1c F2c G3 s3 gr4 ob4 ne4 hc4 hs4
    go_wp2_with fail
    refine (l1Chance N b a n cap (k4) 10 w4 s4 (by omega)).mono ?_; rintro e w5 ⟨ch2, rfl, s5, g5⟩
    have F4e := F4.kept g5
    have F2e := F2d.kept g5
    have G5 := grown_trans G4 g5
    clear F4 F2d G4 s4 g5
    cases ch2 with
    | true =>
      go_wp2_with fail
      refine (l7BentC N b a n cap (k4 + 1) w5 g2 c2 20 l2 s5 (by omega) F2e.ob F2e.ne F2e.cap (by omega) F2e.sm (by omega) (by omega)).mono ?_
      rintro e w6 ⟨g6, c6, l6, rfl, hc6, ne6, ob6, hl6, hs6, _, gr6⟩
      have F6 : FV b g6 c6 200 30 w6 l6 := ⟨ne6, hc6, hl6, hs6.up (by omega), ob6⟩
      have HF : Hid (TwPost N b w (.returned (.tuple #[.slice (some ⟨g4, 0, none⟩) l4.length c4, .slice (some ⟨g6, 0, none⟩) l6.length c6])) w6) := ⟨_, _, _, _, _, _, rfl, F4e.kept gr6, F6, grown_trans G5 gr6⟩
      clear F4e F2e F6 G5 s5 gr6 ob6 ne6 hc6 hs6
      go_wp2_with fail
      refine bodyPost_ret (v := .tuple #[.slice (some ⟨g4, 0, none⟩) l4.length c4, .slice (some ⟨g6, 0, none⟩) l6.length c6]) (by simp [results, Tryz.results10, go_sem]) rfl ?_
      exact HF.out
    | false =>
      have HF : Hid (TwPost N b w (.returned (.tuple #[.slice (some ⟨g4, 0, none⟩) l4.length c4, .slice (some ⟨g2, 0, none⟩) l2.length c2])) w5) := ⟨_, _, _, _, _, _, rfl, F4e, F2e.up (by omega) (by omega), G5⟩
      clear F4e F2e G5 s5
      go_wp2_with fail
      refine bodyPost_ret (v := .tuple #[.slice (some ⟨g4, 0, none⟩) l4.length c4, .slice (some ⟨g2, 0, none⟩) l2.length c2]) (by simp [results, Tryz.results10, go_sem]) rfl ?_
      exact HF.out
  | false =>
    have F4 := F1c.up (show 8 ≤ 200 by omega) (show 20 ≤ 30 by omega)
    clear F1c
    go_wp2_with fail
    refine (l1Chance N b a n cap (k2 + 1) 10 w3 s3 (by omega)).mono ?_; rintro e w5 ⟨ch2, rfl, s5, g5⟩
    have F4e := F4.kept g5
    have F2e := F2c.kept g5
    have G5 := grown_trans G3 g5
    clear F4 F2c G3 s3 g5
    cases ch2 with
    | true =>
      go_wp2_with fail
      refine (l7BentC N b a n cap (k2 + 1 + 1) w5 g2 c2 20 l2 s5 (by omega) F2e.ob F2e.ne F2e.cap (by omega) F2e.sm (by omega) (by omega)).mono ?_
      rintro e w6 ⟨g6, c6, l6, rfl, hc6, ne6, ob6, hl6, hs6, _, gr6⟩
      have F6 : FV b g6 c6 200 30 w6 l6 := ⟨ne6, hc6, hl6, hs6.up (by omega), ob6⟩
      have HF : Hid (TwPost N b w (.returned (.tuple #[.slice (some ⟨g, 0, none⟩) lf.length c, .slice (some ⟨g6, 0, none⟩) l6.length c6])) w6) := ⟨_, _, _, _, _, _, rfl, F4e.kept gr6, F6, grown_trans G5 gr6⟩
      clear F4e F2e F6 G5 s5 gr6 ob6 ne6 hc6 hs6
      go_wp2_with fail
      refine bodyPost_ret (v := .tuple #[.slice (some ⟨g, 0, none⟩) lf.length c, .slice (some ⟨g6, 0, none⟩) l6.length c6]) (by simp [results, Tryz.results10, go_sem]) rfl ?_
      exact HF.out
    | false =>
      have HF : Hid (TwPost N b w (.returned (.tuple #[.slice (some ⟨g, 0, none⟩) lf.length c, .slice (some ⟨g2, 0, none⟩) l2.length c2])) w5) := ⟨_, _, _, _, _, _, rfl, F4e, F2e.up (by omega) (by omega), G5⟩
      clear F4e F2e G5 s5
      go_wp2_with fail
      refine bodyPost_ret (v := .tuple #[.slice (some ⟨g, 0, none⟩) lf.length c, .slice (some ⟨g2, 0, none⟩) l2.length c2]) (by simp [results, Tryz.results10, go_sem]) rfl ?_
      exact HF.out
set_option maxRecDepth 20000 in
set_option maxHeartbeats 4000000 in
theorem drawDiffFiles (a : Option Addr) (n cap : Nat) (w : World) (h : Bts w a n) (hn : n ≤ 2097152) :
    Calls Tryz.prog 5 #[.slice a n cap] w fun e w' => ∃ (g1 c1 : Nat) (l1 : List Fl.Ob) (g2 c2 : Nat) (l2 : List Fl.Ob), e = .returned (.tuple #[.slice (some ⟨g1, 0, none⟩) l1.length c1, .slice (some ⟨g2, 0, none⟩) l2.length c2]) ∧ FV w.heap.size g1 c1 200 30 w' l1 ∧ FV w.heap.size g2 c2 200 30 w' l2 ∧ Below w.heap.size w w' := by
  go_enter Tryz.func5, Tryz.ntmps5
  go_wp2_with fail
  refine (l1Source a n cap w h hn).mono ?_; rintro e w1 ⟨rfl, s1, b1⟩
  go_wp2_with fail
  refine (l7TwoC _ _ a n cap 0 w1 s1 (by omega)).mono ?_
  rintro e w2 ⟨g1, c1, l1, g2, c2, l2, rfl, F1, F2, G⟩
  have B2 : Below w.heap.size w w2 := b1.grown G b1.size (fun j hj => by cases hj; exact Nat.le_refl _)
  clear s1 b1 G
  have HF : Hid (FV w.heap.size g1 c1 200 30 w2 l1 ∧ FV w.heap.size g2 c2 200 30 w2 l2 ∧ Below w.heap.size w w2) := ⟨F1, F2, B2⟩
  clear F1 F2 B2
  go_wp2_with fail
  refine bodyPost_ret (v := .tuple #[.slice (some ⟨g1, 0, none⟩) l1.length c1, .slice (some ⟨g2, 0, none⟩) l2.length c2]) (by simp [results, Tryz.results5, go_sem]) rfl ?_
  exact ⟨g1, c1, l1, g2, c2, l2, rfl, HF.out⟩
end Go.Proofs.YtkgcpndnlefkoaaGreatDoor
