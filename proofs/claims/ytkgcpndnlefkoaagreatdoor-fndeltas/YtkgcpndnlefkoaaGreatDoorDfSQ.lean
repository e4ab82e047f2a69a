/- The contract of spec.DiffFiles. No statement is proved here. -/
import Derived.Test.YtkgcpndnlefkoaaGreatDoorRows
import Derived.Test.YtkgcpndnlefkoaaGreatDoorLemQ
import Derived.Test.YtkgcpndnlefkoaaGreatDoorDTabQ
import Derived.Test.YtkgcpndnlefkoaaGreatDoorInQ
import Derived.Test.YtkgcpndnlefkoaaGreatDoorLFLemQ
import Derived.Test.YtkgcpndnlefkoaaGreatDoorFfCQ
import Derived.Test.YtkgcpndnlefkoaaGreatDoorFfSQ
import Derived.Test.YtkgcpndnlefkoaaGreatDoorDfMQ
import Derived.Test.YtkgcpndnlefkoaaGreatDoorDfBQ
import Derived.Test.YtkgcpndnlefkoaaGreatDoorShelfCQ
import Derived.Test.YtkgcpndnlefkoaaGreatDoorDfTQ
import Derived.Test.YtkgcpndnlefkoaaGreatDoorDfQQ
import Derived.Test.YtkgcpndnlefkoaaGreatDoorDfPQ
import Derived.Test.YtkgcpndnlefkoaaGreatDoorDlLQ
import Derived.Test.YtkgcpndnlefkoaaGreatDoorPfSQ
import Derived.WalkKit
import Derived.ProofKit
import Derived.Below
import Derived.WalkSpells
import Derived.Deep.QuietTactic
import Derived.BigQuiet
import Derived.Deep.RegionWith
import Derived.Deep.RegionHeld
import Derived.Deep.RegionLaw
import Derived.Deep.CutRange
import Derived.Maps.AppendAt
import Derived.Laws.BitsLemmas
import Derived.Laws.Cover1
set_option linter.unusedVariables false
namespace Go.Proofs.YtkgcpndnlefkoaaGreatDoor.Fl
open Go.ChangeShapes Go.WideShapes Go.ChangeAt Go.RowKit

theorem l7BothC (a b : Option Addr) (ca cb : Nat) (la lb : List Ob) (w : World) (ha : OB w.heap.size w a la) (hb : OB w.heap.size w b lb) (sa : SmallO la) (sb : SmallO lb) (na : la.length ≤ 1048576) (nb : lb.length ≤ 1048576) :
    Calls Tryz.prog 17 #[.slice a la.length ca, .slice b lb.length cb] w fun e w' => e = .returned (.int .i64 (dfR la lb)) ∧ Below w.heap.size w w' := by
  have hA := specFilesFault a ca la w ha sa (by omega)
  have hB := fun w h => specFilesFault b cb lb w h sb (by omega)
  have hR0 : ffl la = 0 → Hid (dfR la lb = ffl lb) := fun e => if_pos e
  have hR1 : ¬ ffl la = 0 → Hid (dfR la lb = ffl la) := fun e => if_neg e
  obtain ⟨R, hR⟩ : ∃ R, dfR la lb = R := ⟨_, rfl⟩
  obtain ⟨FA, hFA⟩ : ∃ F, ffl la = F := ⟨_, rfl⟩
  obtain ⟨FB, hFB⟩ : ∃ F, ffl lb = F := ⟨_, rfl⟩
  simp only [hR, hFA, hFB] at hA hB hR0 hR1 ⊢
  clear hR hFA hFB ha
  go_enter Tryz.func17, Tryz.ntmps17
  go_wp2_with fail
  refine hA.mono ?_; rintro e w1 ⟨rfl, b1⟩
  clear hA
  by_cases h0 : FA = 0
  · have H := hR0 h0
    subst h0
    have hB1 := hB w1 ((hb.below b1).mono b1.size)
    clear hR0 hR1 hB
    go_wp2_with fail
    refine hB1.mono ?_; rintro e w2 ⟨rfl, b2⟩
    have BB := b1.trans (b2.mono b1.size)
    clear hB1 b1 b2
    go_wp2
    go_ret
    exact ⟨ret_int H.out.symm, BB⟩
  · have H := hR1 h0
    have qn : (FA != 0) = true := ne_beq h0
    clear hR0 hR1 hB
    go_wp2
    go_ret
    exact ⟨ret_int H.out.symm, b1⟩
/-- Deltas answered. -/
def DE (la lb : List Ob) (w : World) (e : Ending) (w' : World) : Prop := ∃ v, e = .returned (.agg #[.int .i64 (dfR la lb), v]) ∧ w'.ownsRow w.heap.size 47 7 v (dfL la lb).length (Dl.ocells (dfL la lb)) ∧ Below w.heap.size w w'
theorem de_bad {la lb : List Ob} {w w' : World} (h : ¬ dfR la lb = 0) (hb : Below w.heap.size w w') : DE la lb w (.returned (.agg #[.int .i64 (dfR la lb), .slice none 0 0])) w' := by
  refine ⟨_, rfl, ?_, hb⟩
  have e : dfL la lb = [] := if_neg h
  rw [e]
  exact Dl.nilD _ _
theorem de_ok {la lb : List Ob} {w w' : World} {v : Value} {L : List (ByteArray × Ob × Ob)} {z : Nat} (h : dfR la lb = 0) (hL : L = dfA la lb (ps (pths la lb))) (ho : w'.ownsRow z 47 7 v L.length (Dl.ocells L)) (hz : w.heap.size ≤ z) (hb : Below w.heap.size w w') : DE la lb w (.returned (.agg #[.int .i64 0, v])) w' := by
  have e : dfL la lb = L := by rw [hL]; exact if_pos h
  exact ⟨v, by rw [h], by rw [e]; exact ownMonoF ho hz, hb⟩
theorem obGrown {B : Nat} {w w' : World} {a : Option Addr} {l : List Ob} {q : Nat} (h : OB B w a l) (hg : w.grownBy w' (some q)) (hq : B ≤ q) : OB B w' a l := fun k hk => by
  obtain ⟨g, off, e, hgb, d0, d1, d2⟩ := h k hk
  have hne : some g ≠ some q := fun e => by have : g = q := Option.some.inj e; omega
  exact ⟨g, off, e, hgb, hg.cell d0 hne, hg.cell d1 hne, hg.cell d2 hne⟩
theorem rfRowD {w w' : World} {b : Nat} {vs : List Value} {row : Option Nat} (h : Rf w b vs) (hg : w.grownBy w' row) (hne : some b ≠ row) (hlt : b < w.heap.size) : Rf w' b vs :=
  ⟨fun k v hk => (World.cell?_of_block (hg.block b hlt hne)).trans (h.at_ k v hk), fun k => (World.frozen?_of_block (hg.block b hlt hne)).trans (h.fz k)⟩
theorem growVia {w w1 w2 : World} {q : Nat} {r : Option Nat} (h : w.grownBy w1 (some q)) (g : w1.grownBy w2 r) (hr : ∀ j, r = some j → w.heap.size ≤ j) : w.grownBy w2 (some q) :=
  ⟨g.os.trans h.os, g.tape.trans h.tape, g.output.trans h.output, Nat.le_trans h.size g.size, fun k hk hne => (g.block k (Nat.lt_of_lt_of_le hk h.size) (fun e => by have := hr k e.symm; omega)).trans (h.block k hk hne)⟩
theorem growSelf {w w1 w2 : World} {q : Nat} (h : w.grownBy w1 (some q)) (g : w1.grownBy w2 (some q)) : w.grownBy w2 (some q) :=
  ⟨g.os.trans h.os, g.tape.trans h.tape, g.output.trans h.output, Nat.le_trans h.size g.size, fun k hk hne => (g.block k (Nat.lt_of_lt_of_le hk h.size) hne).trans (h.block k hk hne)⟩
theorem hown_lt {w : World} {base : Nat} {t : TypeId} {K n : Nat} {v : Value} {vals : List Value} (h : w.ownsRow base t K v n vals) : ∀ j, v.ownBlock = some j → base ≤ j := fun j hj => (h.lt j hj).1
/-- A region under way whose delta is not laid yet; one whose delta is. -/
structure T0 (B : Nat) (W0 W : World) : Prop where
  bel : Below B W0 W
  le : B ≤ W.heap.size
structure T1 (B : Nat) (W0 : World) (p : Nat) (W : World) : Prop where
  bel : Below B W0 W
  le : B ≤ W.heap.size
  var : Rf W p [.string ⟨#[]⟩, .string ⟨#[]⟩, .int .i64 0, .string ⟨#[]⟩, .string ⟨#[]⟩, .int .i64 0, .string ⟨#[]⟩]
  lo : B ≤ p
  hi : p < W.heap.size
theorem T0.step {B : Nat} {W0 W W' : World} (h : T0 B W0 W) (b : Below W.heap.size W W') : T0 B W0 W' := ⟨h.bel.trans (b.mono h.le), Nat.le_trans h.le b.size⟩
theorem T1.step {B p : Nat} {W0 W W' : World} (h : T1 B W0 p W) (b : Below W.heap.size W W') : T1 B W0 p W' := ⟨h.bel.trans (b.mono h.le), Nat.le_trans h.le b.size, h.var.below h.hi b, h.lo, Nat.lt_of_lt_of_le h.hi b.size⟩
theorem T0.var {B : Nat} {W0 W : World} (h : T0 B W0 W) : T1 B W0 W.heap.size (W.alloc (.cells #[.string ⟨#[]⟩, .string ⟨#[]⟩, .int .i64 0, .string ⟨#[]⟩, .string ⟨#[]⟩, .int .i64 0, .string ⟨#[]⟩] 47)) :=
  ⟨h.bel.alloc h.le _, by rw [World.size_alloc]; have := h.le; omega, Rf.new W #[.string ⟨#[]⟩, .string ⟨#[]⟩, .int .i64 0, .string ⟨#[]⟩, .string ⟨#[]⟩, .int .i64 0, .string ⟨#[]⟩] _, h.le, by rw [World.size_alloc]; omega⟩
theorem below_drewT {W : World} : Below W.heap.size W W.drew := (Below.refl _ _).drew
/-- What the region leaves: the delta's block. -/
def DX (B : Nat) (W0 : World) (V : List Value) (s : Value) (wx : World) : Prop :=
  ∃ p, s = .pointer (some ⟨p, 0, none⟩) ∧ (B ≤ p ∧ p < wx.heap.size) ∧ Rf wx p V ∧ Below B W0 wx
theorem DX.bel {B : Nat} {W0 wx : World} {V : List Value} {s : Value} (h : DX B W0 V s wx) : Below B W0 wx := by
  obtain ⟨_, _, _, _, b⟩ := h
  exact b
theorem DX.late {B : Nat} {W0 wc wm : World} {x0 x1 x2 x3 x4 x5 x6 : Value} (h : T0 B W0 wc) (b : Below wc.heap.size wc wm) :
    DX B W0 [x0, x1, x2, x3, x4, x5, x6] (.pointer (some ⟨wm.heap.size, 0, none⟩)) (wm.alloc (.cells #[x0, x1, x2, x3, x4, x5, x6] 47)) :=
  ⟨_, rfl, ⟨(h.step b).le, by rw [World.size_alloc]; omega⟩, Rf.new wm #[x0, x1, x2, x3, x4, x5, x6] _, (h.step b).bel.alloc (h.step b).le _⟩
theorem DX.early {B p : Nat} {W0 wc wm : World} {x0 x1 x2 x3 x4 x5 x6 : Value} (h : T1 B W0 p wc) (b : Below wc.heap.size wc wm) :
    DX B W0 [x0, x1, x2, x3, x4, x5, x6] (.pointer (some ⟨p, 0, none⟩)) (((((((wm.setCell ⟨p, 0, none⟩ x0).setCell ⟨p, 1, none⟩ x1).setCell ⟨p, 2, none⟩ x2).setCell ⟨p, 3, none⟩ x3).setCell ⟨p, 4, none⟩ x4).setCell ⟨p, 5, none⟩ x5).setCell ⟨p, 6, none⟩ x6) := by
  have k := h.step b
  refine ⟨p, rfl, ⟨k.lo, by simp only [World.size_setCell]; exact k.hi⟩, (((((((k.var.set (o := 0) (by simp) x0).set (o := 1) (by simp) x1).set (o := 2) (by simp) x2).set (o := 3) (by simp) x3).set (o := 4) (by simp) x4).set (o := 5) (by simp) x5).set (o := 6) (by simp) x6), (((((((k.bel.setCell (p := ⟨p, 0, none⟩) k.lo x0).setCell (p := ⟨p, 1, none⟩) k.lo x1).setCell (p := ⟨p, 2, none⟩) k.lo x2).setCell (p := ⟨p, 3, none⟩) k.lo x3).setCell (p := ⟨p, 4, none⟩) k.lo x4).setCell (p := ⟨p, 5, none⟩) k.lo x5).setCell (p := ⟨p, 6, none⟩) k.lo x6)⟩
set_option maxRecDepth 20000 in
set_option maxHeartbeats 16000000 in
theorem specDiffFiles (a b : Option Addr) (ca cb : Nat) (la lb : List Ob) (w : World) (ha : OB w.heap.size w a la) (hb : OB w.heap.size w b lb) (za : a = none → ca = 0) (zb : b = none → cb = 0) (sa : SmallO la) (sb : SmallO lb) (na : la.length ≤ 1048576) (nb : lb.length ≤ 1048576) :
    Calls Tryz.prog 7 #[.slice a la.length ca, .slice b lb.length cb] w fun e w' => DE la lb w e w' := by
  obtain ⟨W1, hW1⟩ : ∃ W, w.alloc (.cells #[.int .i64 0, .slice none 0 0] 29) = W := ⟨_, rfl⟩
  have b1 : Below w.heap.size w W1 := by rw [← hW1]; exact allocBelow _ _
  have zW : W1.heap.size = w.heap.size + 1 := by rw [← hW1]; simp
  have r1 : Rf W1 w.heap.size [.int .i64 0, .slice none 0 0] := by rw [← hW1]; exact Rf.new _ _ _
  have hBo := l7BothC a b ca cb la lb W1 ((ha.below b1).mono b1.size) ((hb.below b1).mono b1.size) sa sb na nb
  have hBad := fun (h : ¬ dfR la lb = 0) w' hb => de_bad (w := w) (w' := w') h hb
  have hOk := fun (h : dfR la lb = 0) v L z w' hL ho hz hb => de_ok (w := w) (w' := w') (v := v) (L := L) (z := z) h hL ho hz hb
  have hLen : dfR la lb = 0 → la.length ≤ 60 ∧ lb.length ≤ 60 := fun h => by
    unfold dfR at h
    split at h
    · rename_i h1; exact ⟨(ffl_each h1).1, (ffl_each h).1⟩
    · rename_i h1; exact absurd h h1
  obtain ⟨R, hR⟩ : ∃ R, dfR la lb = R := ⟨_, rfl⟩
  simp only [hR] at hBo hBad hOk hLen
  clear hR
  go_enter Tryz.func7, Tryz.ntmps7
  go_wp2_with fail
  refine hBo.mono ?_; rintro e w2 ⟨rfl, b2⟩
  rw [zW] at b2
  have r2 : Rf w2 w.heap.size [.int .i64 0, .slice none 0 0] := rfBelowAt r1 b2 (by omega)
  have B2 : Below w.heap.size w w2 := b1.trans (b2.mono (by omega))
  have z2 : w.heap.size + 1 ≤ w2.heap.size := by have := b2.size; omega
  clear hBo b1 b2 r1 hW1
  by_cases h0 : R = 0
  rotate_left
  · have qn : (R != 0) = true := ne_beq h0
    have HB := hBad h0
    have c0 := r2.at_ 0 _ rfl
    have c1 := r2.at_ 1 _ rfl
    have f0 := r2.fz 0
    have f1 := r2.fz 1
    have RV := (r2.set (o := 0) (by simp) (.int .i64 R)).set (o := 1) (by simp) (.slice none 0 0)
    have BV := (B2.setCell (p := ⟨w.heap.size, 0, none⟩) (Nat.le_refl _) (.int .i64 R)).setCell (p := ⟨w.heap.size, 1, none⟩) (Nat.le_refl _) (.slice none 0 0)
    obtain ⟨V, hV⟩ : ∃ V, (w2.setCell ⟨w.heap.size, 0, none⟩ (.int .i64 R)).setCell ⟨w.heap.size, 1, none⟩ (.slice none 0 0) = V := ⟨_, rfl⟩
    rw [hV] at RV BV
    have HV : Hid (_ = V) := hV
    have v0 := RV.at_ 0 _ rfl
    have v1 := RV.at_ 1 _ rfl
    clear hV RV r2 B2 hOk hLen ha hb
    go_wp2
    rw [HV.out]
    refine bodyPost_ret (v := .agg #[.int .i64 R, .slice none 0 0]) (by simp [results, Tryz.results7, go_sem, v0, v1]) rfl ?_
    exact HB V BV
  subst h0
  obtain ⟨na1, nb1⟩ := hLen (by trivial)
  replace na : la.length ≤ 500000 := by omega
  replace nb : lb.length ≤ 500000 := by omega
  replace hOk := hOk rfl
  clear hBad
  obtain ⟨q, hq⟩ : ∃ q, w2.heap.size = q := ⟨_, rfl⟩
  obtain ⟨W3, hW3⟩ : ∃ W, w2.alloc (.cells #[.int .i64 0, .slice none 0 0] 29) = W := ⟨_, rfl⟩
  have b3 : Below w2.heap.size w2 W3 := by rw [← hW3]; exact allocBelow _ _
  have z3 : W3.heap.size = q + 1 := by rw [← hW3, ← hq]; simp
  have r3 : Rf W3 q [.int .i64 0, .slice none 0 0] := by rw [← hW3, ← hq]; exact Rf.new _ _ _
  have B3 : Below w.heap.size w W3 := B2.trans (b3.mono (by omega))
  have hPa := l7PathsC a b ca cb la lb W3 ((ha.below B3).mono B3.size) ((hb.below B3).mono B3.size) za zb na nb
  unfold QP at hPa
  obtain ⟨QQ, hQQ⟩ : ∃ Q, ps (pths la lb) = Q := ⟨_, rfl⟩
  have hQl : QQ.length ≤ 1000000 := by rw [← hQQ]; have := ps_len (pths la lb); unfold pths at this; rw [List.length_append, List.length_map, List.length_map] at this; unfold pths; omega
  simp only [hQQ] at hPa hOk
  clear hQQ
  have hA3 : OB w.heap.size W3 a la := ha.below B3
  have hB3 : OB w.heap.size W3 b lb := hb.below B3
  have r0 : Rf W3 w.heap.size [.int .i64 0, .slice none 0 0] := rfBelowAt r2 b3 (by omega)
  have HW3 : Hid (_ = W3) := hW3
  clear ha hb B2 b3 r2 hW3
  go_wp2_with fail
  rw [HW3.out]
  refine hPa.mono ?_; rintro e w7 ⟨gQ, cQ, rfl, oQ, b7⟩
  have z7 : W3.heap.size ≤ w7.heap.size := b7.size
  have hq7 : Hid (q < w7.heap.size) := by show _ < _; omega
  have hgQ := (oQ.lt gQ rfl)
  have dQ : ∀ k, k < QQ.length → w7.cell? ⟨gQ, k, none⟩ = some (.string (QQ.getD k ByteArray.empty)) := fun k hk => by
    rw [oQ.cellAt k (by omega)]
    simp [List.getD, hk]
  have r7 : Rf w7 q [.int .i64 0, .slice none 0 0] := rfBelowAt r3 b7 (by omega)
  have r07 : Rf w7 w.heap.size [.int .i64 0, .slice none 0 0] := rfBelowAt r0 b7 (by omega)
  have hA7 := belowAt hA3 b7 (by omega)
  have hB7 := belowAt hB3 b7 (by omega)
  have B7 : Below w.heap.size w w7 := B3.trans (b7.mono (by omega))
  have hwq : w.heap.size < q := by omega
  have hqg : q < gQ := by omega
  clear hPa r3 r0 hA3 hB3 B3 b7 oQ HW3 z2 zW
  go_wp2
  go_loopw [8, 9] (fun i _e wr => ∃ (k : Nat) (L : List (ByteArray × Ob × Ob)) (v : Value), k ≤ QQ.length ∧ i = .int .i64 k ∧ Rf wr q [.int .i64 0, v] ∧ wr.ownsRow w7.heap.size 47 7 v L.length (Dl.ocells L) ∧ w7.grownBy wr (some q) ∧ L = dfA la lb (QQ.take k)) (fun i _ _ => QQ.length - (intOf i).toNat)
  case atStart => exact ⟨0, [], .slice none 0 0, Nat.zero_le _, rfl, r7, Dl.nilD _ _, World.grownBy.refl _ _, by simp [dfA]⟩
  case round =>
    obtain ⟨k, L, v, hk, rfl, hrq, hown, hgr, hLe⟩ := hrel
    have HLe : Hid (L = dfA la lb (QQ.take k)) := hLe
    have hsz := hgr.size
    have hLl : L.length ≤ 1000000 := by rw [hLe]; have := dfA_len la lb (QQ.take k); rw [List.length_take] at this; omega
    clear hLe r7
    have Bwr : Below w.heap.size w wr := B7.grown hgr B7.size (fun j hj => by have : q = j := Option.some.inj hj; omega)
    by_cases hlt : k < QQ.length
    rotate_left
    · have q0 : ¬ (k : Int) < (QQ.length : Int) := by omega
      have ek : QQ.take k = QQ := List.take_of_length_le (by omega)
      have HL2 : Hid (L = dfA la lb QQ) := by have := HLe.out; rwa [ek] at this
      have r0w := rfRowD r07 hgr (fun e => by have : w.heap.size = q := Option.some.inj e; omega) (by omega)
      have y0 := hrq.at_ 0 _ rfl
      have y1 := hrq.at_ 1 _ rfl
      have c0 := r0w.at_ 0 _ rfl
      have c1 := r0w.at_ 1 _ rfl
      have f0 := r0w.fz 0
      have f1 := r0w.fz 1
      have RV := (r0w.set (o := 0) (by simp) (.int .i64 0)).set (o := 1) (by simp) v
      have BV := (Bwr.setCell (p := ⟨w.heap.size, 0, none⟩) (Nat.le_refl _) (.int .i64 0)).setCell (p := ⟨w.heap.size, 1, none⟩) (Nat.le_refl _) v
      have oV := hown.kept (grownTrans (grownSet _ w.heap.size 0 (.int .i64 0)) (grownSet _ w.heap.size 1 v)) (blockCases _ _ fun j q1 q2 => by cases q2; have := (hown.lt _ q1).1; omega)
      obtain ⟨V, hV⟩ : ∃ V, (wr.setCell ⟨w.heap.size, 0, none⟩ (.int .i64 0)).setCell ⟨w.heap.size, 1, none⟩ v = V := ⟨_, rfl⟩
      rw [hV] at RV BV oV
      have HS : Hid (DE la lb w (.returned (.agg #[.int .i64 0, v])) V) := hOk v L w7.heap.size V HL2.out oV (by omega) BV
      have HV : Hid (_ = V) := hV
      have v0 := RV.at_ 0 _ rfl
      have v1 := RV.at_ 1 _ rfl
      obtain ⟨av, nv, cv, rfl⟩ : ∃ a n c, v = .slice a n c := by
        obtain ⟨a, c, e⟩ := shapeK3 hown
        exact ⟨a, _, c, e⟩
      clear hV RV BV oV r0w hown hgr hrq HL2 hOk
      go_wp2
      rw [HV.out]
      refine bodyPost_ret (v := .agg #[.int .i64 0, .slice av nv cv]) (by simp [results, Tryz.results7, go_sem, v0, v1]) rfl ?_
      exact HS.out
    have q0 : (k : Int) < (QQ.length : Int) := by omega
    have dk := hgr.cell (dQ k hlt) (fun e => by have : gQ = q := Option.some.inj e; omega)
    have hSame := fun e => dfA_same (a := la) (b := lb) (Q := QQ) hlt e
    have hMore := fun e => dfA_more (a := la) (b := lb) (Q := QQ) hlt e
    have hOA := obGrown hA7 hgr (Nat.le_of_lt hwq)
    have hOB := obGrown hB7 hgr (Nat.le_of_lt hwq)
    obtain ⟨p, hp⟩ : ∃ p, QQ.getD k ByteArray.empty = p := ⟨_, rfl⟩
    rw [hp] at dk
    simp only [hp] at hSame hMore
    have hwz : w.heap.size ≤ wr.heap.size := Bwr.size
    have hFa := fun W (bW : Below wr.heap.size wr W) => l7FindC a ca la p W ((hOA.below bW).mono (Nat.le_trans hwz bW.size)) (by omega)
    have hFb := fun W (bW : Below wr.heap.size wr W) => l7FindC b cb lb p W ((hOB.below bW).mono (Nat.le_trans hwz bW.size)) (by omega)
    obtain ⟨F, hF⟩ : ∃ F, fa la p = F := ⟨_, rfl⟩
    obtain ⟨G, hG⟩ : ∃ G, fa lb p = G := ⟨_, rfl⟩
    obtain ⟨f0, f1, f2⟩ := F
    obtain ⟨g0, g1, g2⟩ := G
    simp only [hF, hG] at hFa hFb hSame hMore
    unfold fv at hFa hFb
    simp only [] at hFa hFb
    have hgz : gQ < wr.heap.size := by omega
    clear hF hG hp hOA hOB hOk dQ
    go_upto_region 9 with fail
    have BD0 : T0 wr.heap.size wr wr.drew := ⟨below_drewT, Nat.le_refl _⟩
    have BB0 : T1 wr.heap.size wr wr.heap.size (wr.alloc (.cells #[.string ⟨#[]⟩, .string ⟨#[]⟩, .int .i64 0, .string ⟨#[]⟩, .string ⟨#[]⟩, .int .i64 0, .string ⟨#[]⟩] 47)).drew := (T0.var ⟨Below.refl _ _, Nat.le_refl _⟩).step below_drewT
    have hS9 : ∀ W, Below wr.heap.size wr W → W.cell? ⟨gQ, k, none⟩ = some (.string p) := fun W b => (b.cell (p := ⟨gQ, k, none⟩) hgz).trans dk
    go_cut [9] from 27 to 44 (fun s wx => DX wr.heap.size wr [.string p, .string f0, .int .i64 f1, .string f2, .string g0, .int .i64 g1, .string g2] s wx)
    case first =>
      clear hSame hMore HLe hown hrq hgr Bwr hA7 hB7 r07 B7 hsz hLl
      go_region_held (fun w' => w'.cell? ⟨gQ, k, none⟩ = some (.string p)) (first | with_reducible exact hS9 _ BD0.bel | with_reducible exact hS9 _ BB0.bel | with_reducible exact hS9 _ ST0.bel | with_reducible exact hS9 _ ST1.bel | with_reducible exact hS9 _ ST0.var.bel | with_reducible exact hS9 _ SBd | with_reducible exact hS9 _ (SAl _) | with_reducible exact hS9 _ SFin | exact hS9 _ ST0.var.bel | exact hS9 _ SFin | exact hS9 _ (SAl _))
        (first
          | (have mk := SBd; fail)
          | (go_at_call 19; (with_reducible refine (hFa _ BD0.bel).mono ?_); rintro e wa ⟨rfl, b⟩; have ST0 := BD0.step b)
          | (go_at_call 19; (with_reducible refine (hFa _ BB0.bel).mono ?_); rintro e wa ⟨rfl, b⟩; have ST1 := BB0.step b)
          | (go_at_call 19; (with_reducible refine (hFb wa ST1.bel).mono ?_); rintro e wm ⟨rfl, b⟩; have SBd := (ST1.step b).bel; have SAl := (fun o => SBd.alloc (ST1.step b).le o); have rZ := (ST1.step b).var; have yy0 := rZ.at_ 0 _ rfl; have kk0 := rZ.fz 0; have yy1 := rZ.at_ 1 _ rfl; have kk1 := rZ.fz 1; have yy2 := rZ.at_ 2 _ rfl; have kk2 := rZ.fz 2; have yy3 := rZ.at_ 3 _ rfl; have kk3 := rZ.fz 3; have yy4 := rZ.at_ 4 _ rfl; have kk4 := rZ.fz 4; have yy5 := rZ.at_ 5 _ rfl; have kk5 := rZ.fz 5; have yy6 := rZ.at_ 6 _ rfl; have kk6 := rZ.fz 6; have HX : Hid (DX wr.heap.size wr [.string p, .string f0, .int .i64 f1, .string f2, .string g0, .int .i64 g1, .string g2] _ _) := DX.early ST1 b; have SFin := DX.bel HX.out)
          | (go_at_call 19; (with_reducible refine (hFb wa ST0.bel).mono ?_); rintro e wm ⟨rfl, b⟩; have SBd := (ST0.step b).bel; have SAl := (fun o => SBd.alloc (ST0.step b).le o); have HX : Hid (DX wr.heap.size wr [.string p, .string f0, .int .i64 f1, .string f2, .string g0, .int .i64 g1, .string g2] _ _) := DX.late ST0 b; have SFin := DX.bel HX.out)
          | (go_at_call 19; (with_reducible refine (hFb (wa.alloc (.cells #[.string ⟨#[]⟩, .string ⟨#[]⟩, .int .i64 0, .string ⟨#[]⟩, .string ⟨#[]⟩, .int .i64 0, .string ⟨#[]⟩] 47)) ST0.var.bel).mono ?_); rintro e wm ⟨rfl, b⟩; have SBd := (ST0.var.step b).bel; have SAl := (fun o => SBd.alloc (ST0.var.step b).le o); have rZ := (ST0.var.step b).var; have yy0 := rZ.at_ 0 _ rfl; have kk0 := rZ.fz 0; have yy1 := rZ.at_ 1 _ rfl; have kk1 := rZ.fz 1; have yy2 := rZ.at_ 2 _ rfl; have kk2 := rZ.fz 2; have yy3 := rZ.at_ 3 _ rfl; have kk3 := rZ.fz 3; have yy4 := rZ.at_ 4 _ rfl; have kk4 := rZ.fz 4; have yy5 := rZ.at_ 5 _ rfl; have kk5 := rZ.fz 5; have yy6 := rZ.at_ 6 _ rfl; have kk6 := rZ.fz 6; have HX : Hid (DX wr.heap.size wr [.string p, .string f0, .int .i64 f1, .string f2, .string g0, .int .i64 g1, .string g2] _ _) := DX.early ST0.var b; have SFin := DX.bel HX.out))
      all_goals (go_wp2_with fail; go_meet; exact HX.out)
    case rest =>
    obtain ⟨p9, rfl, ⟨hp9, hp9b⟩, r9, b9⟩ := hcut
    clear BD0 BB0 hS9 hFa hFb dk
    have hq8 := hq7.out
    have rq9 : Rf wc q [.int .i64 0, v] := rfBelowAt hrq b9 (by omega)
    have own9 := hown.kept (grownOfBelow b9 none) (blockCases _ _ fun b c1 c2 => by cases c2)
    have gr9 : w7.grownBy wc (some q) := growVia hgr (grownOfBelow b9 none) (fun j e => by cases e)
    have zc : wr.heap.size ≤ wc.heap.size := b9.size
    have x0 := r9.at_ 0 _ rfl
    have x1 := r9.at_ 1 _ rfl
    have x2 := r9.at_ 2 _ rfl
    have x3 := r9.at_ 3 _ rfl
    have x4 := r9.at_ 4 _ rfl
    have x5 := r9.at_ 5 _ rfl
    have x6 := r9.at_ 6 _ rfl
    clear r9 hown hgr hrq b9 Bwr hA7 hB7 r07 B7
    by_cases hE : ((f0, f1, f2) : Ob) = (g0, g1, g2)
    · have fq := fun w => ef_yes hE w
      have HL : Hid (L = dfA la lb (QQ.take (k + 1))) := by show _ = _; rw [hSame hE]; exact HLe.out
      have HR : Hid (Rf wc q [.int .i64 0, v]) := rq9
      have HO : Hid (World.ownsRow _ _ _ _ _ _ _) := own9
      have HG : Hid (w7.grownBy wc (some q)) := gr9
      clear hSame hMore HLe rq9 own9 gr9 hE
      go_wp2
      go_roundw
      case rel => exact ⟨k + 1, L, v, by omega, by go_num, HR.out, HO.out, HG.out, HL.out⟩
      case measure => first | (simp [intOf]; omega) | simp [intOf]
    · have fq := fun w => ef_no hE w
      have HL : Hid (L ++ [(p, (f0, f1, f2), (g0, g1, g2))] = dfA la lb (QQ.take (k + 1))) := by show _ = _; rw [hMore hE, HLe.out]
      have nD := Dl.newE wc (p, (f0, f1, f2), (g0, g1, g2))
      have bN := allocBelow wc (.cells #[.string p, .string f0, .int .i64 f1, .string f2, .string g0, .int .i64 g1, .string g2] 47)
      have own8 := own9.kept (grownOfBelow bN none) (blockCases _ _ fun b c1 c2 => by cases c2)
      have rq8 : Rf (wc.alloc (.cells #[.string p, .string f0, .int .i64 f1, .string f2, .string g0, .int .i64 g1, .string g2] 47)) q [.int .i64 0, v] := rfBelowAt rq9 bN (by omega)
      have gr8 : w7.grownBy (wc.alloc (.cells #[.string p, .string f0, .int .i64 f1, .string f2, .string g0, .int .i64 g1, .string g2] 47)) (some q) := growVia gr9 (grownOfBelow bN none) (fun j e => by cases e)
      have z8 : w7.heap.size ≤ (wc.alloc (.cells #[.string p, .string f0, .int .i64 f1, .string f2, .string g0, .int .i64 g1, .string g2] 47)).heap.size := gr8.size
      have y1 := rq9.at_ 1 _ rfl
      have yb := hown_lt own8
      obtain ⟨W8, hW8⟩ : ∃ W, wc.alloc (.cells #[.string p, .string f0, .int .i64 f1, .string f2, .string g0, .int .i64 g1, .string g2] 47) = W := ⟨_, rfl⟩
      rw [hW8] at own8 rq8 gr8 z8 nD
      have HW8 : Hid (_ = W8) := hW8
      clear hW8 hSame hMore HLe rq9 own9 gr9 hE bN
      go_wp2_with (at_builtin; refine stopMark ?_)
      rw [HW8.out]
      change wpList _ _ _ _ _ _
      refine Dl.wpList_appD rfl (.tmp 50) (.tmp 52) rfl w7.heap.size v L rfl own8 ⟨wc.heap.size, 0, none⟩ (p, (f0, f1, f2), (g0, g1, g2)) rfl nD hLl z8 ?_
      intro g c w6 o6 g6
      have rq6 : Rf w6 q [.int .i64 0, v] := rfRowD rq8 g6 (fun e => by have := yb q e.symm; omega) (by omega)
      have gr6 : w7.grownBy w6 (some q) := growVia gr8 g6 (fun j e => yb j e)
      obtain ⟨L2, hL2⟩ : ∃ l, L ++ [(p, (f0, f1, f2), (g0, g1, g2))] = l := ⟨_, rfl⟩
      rw [hL2] at o6 HL ⊢
      have RV : Hid (Rf (w6.setCell ⟨q, 1, none⟩ (.slice (some ⟨g, 0, none⟩) L2.length c)) q [.int .i64 0, .slice (some ⟨g, 0, none⟩) L2.length c]) := rq6.set (o := 1) (by simp) _
      have OV : Hid (World.ownsRow _ _ _ _ _ _ _) := o6.kept (grownSet w6 q 1 (.slice (some ⟨g, 0, none⟩) L2.length c)) (blockCases _ _ fun j q1 q2 => by cases q2; have := (o6.lt _ q1).1; omega)
      have GV : Hid (w7.grownBy (w6.setCell ⟨q, 1, none⟩ (.slice (some ⟨g, 0, none⟩) L2.length c)) (some q)) := growSelf gr6 (grownSet w6 q 1 (.slice (some ⟨g, 0, none⟩) L2.length c))
      have k1 := rq6.at_ 1 _ rfl
      have k2 := rq6.fz 1
      clear own8 rq8 gr8 nD o6 g6 rq6 gr6 hL2 y1
      go_wp2
      go_roundw
      case rel => exact ⟨k + 1, L2, _, by omega, by go_num, RV.out, OV.out, GV.out, HL.out⟩
      case measure => first | (simp [intOf]; omega) | simp [intOf]
end Go.Proofs.YtkgcpndnlefkoaaGreatDoor.Fl
