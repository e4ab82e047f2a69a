/- PreOf of the program: the answer. No statement is proved here. -/
import Derived.Test.YtmmccpdaklkciaaGreatDoorRows
import Derived.Test.YtmmccpdaklkciaaGreatDoorLemQ
import Derived.Test.YtmmccpdaklkciaaGreatDoorLFLemQ
import Derived.Test.YtmmccpdaklkciaaGreatDoorDTabQ
import Derived.Test.YtmmccpdaklkciaaGreatDoorHkTQ
import Derived.Test.YtmmccpdaklkciaaGreatDoorObLQ
import Derived.Test.YtmmccpdaklkciaaGreatDoorDigCQ
import Derived.Test.YtmmccpdaklkciaaGreatDoorShMQ
import Derived.Test.YtmmccpdaklkciaaGreatDoorShQQ
import Derived.Test.YtmmccpdaklkciaaGreatDoorFlLQ
import Derived.Test.YtmmccpdaklkciaaGreatDoorFlTQ
import Derived.Test.YtmmccpdaklkciaaGreatDoorEnLQ
import Derived.Test.YtmmccpdaklkciaaGreatDoorIxMQ
import Derived.Test.YtmmccpdaklkciaaGreatDoorDiCQ
import Derived.Test.YtmmccpdaklkciaaGreatDoorSgCQ
import Derived.Test.YtmmccpdaklkciaaGreatDoorFmCQ
import Derived.Test.YtmmccpdaklkciaaGreatDoorPvMQ
import Derived.Test.YtmmccpdaklkciaaGreatDoorIxIQ
import Derived.Test.YtmmccpdaklkciaaGreatDoorPvSQ
import Derived.Test.YtmmccpdaklkciaaGreatDoorTvMQ
import Derived.Test.YtmmccpdaklkciaaGreatDoorNoIQ
import Derived.Test.YtmmccpdaklkciaaGreatDoorSplIQ
import Derived.Test.YtmmccpdaklkciaaGreatDoorPvDQ
import Derived.WalkKit
import Derived.ProofKit
import Derived.Below
import Derived.WalkSpells
import Derived.Deep.QuietTactic
import Derived.BigQuiet
import Derived.Deep.RegionWith
import Derived.Deep.RegionHeld
import Derived.Deep.Cut
import Derived.Deep.CutRange
import Derived.Maps.AppendAt
import Derived.Laws.Cover1
set_option linter.unusedVariables false
namespace Go.Proofs.YtmmccpdaklkciaaGreatDoor.Pv
open Go.ChangeShapes Go.WideShapes Go.ChangeAt Go.RowKit
theorem less_g {st : List Ob} {f g h : Fl.Ob} (e : g = Fl.onil) : less3 st f g h = true := by unfold less3; rw [decide_eq_true e]; rfl
theorem less_h {st : List Ob} {f g h : Fl.Ob} (e : h = Fl.onil) : less3 st f g h = true := by unfold less3; rw [decide_eq_true e]; simp
theorem less_b {st : List Ob} {f g h : Fl.Ob} (e1 : ¬ g = Fl.onil) (e2 : ¬ h = Fl.onil) : less3 st f g h = !hbF st (som [f, g, h]) := by unfold less3; rw [decide_eq_false e1, decide_eq_false e2]; rfl
theorem som3 (f g h : Fl.Ob) : (som [f, g, h]).length ≤ 3 := List.length_filter_le _ _
theorem po_of {C : Int} {X : ByteArray} {c : Int} {t : ByteArray} {w w' : World} {q : Nat} (hq : w.heap.size = q) (h1 : C = c) (h2 : X = t) (hB : Below q w w') : Ending.returned (.agg #[.int .i64 c, .string t]) = .returned (.agg #[.int .i64 C, .string X]) ∧ Below w.heap.size w w' := by
  subst hq h1 h2
  exact ⟨rfl, hB⟩
set_option maxRecDepth 20000 in
set_option maxHeartbeats 8000000 in
theorem preOfC (p b : Nat) (st : List Ob) (x : Value) (f0 f2 g0 g2 h0 h2 : ByteArray) (f1 g1 h1 : Int) (w : World) (hz : sf st = 0) (hs : SmallO st) (hR : Rf w p [.map (some b), x]) (hp : p < w.heap.size) (hS : Sh w b st) (hT : No.TaG w) (hgB : 3 < w.heap.size) :
    Calls Tryz.prog 74 #[.pointer (some ⟨p, 0, none⟩), .agg #[.string f0, .int .i64 f1, .string f2, .string g0, .int .i64 g1, .string g2, .string h0, .int .i64 h1, .string h2]] w fun e w' => e = .returned (.agg #[.int .i64 (pvC st (f0, f1, f2) (g0, g1, g2) (h0, h1, h2)), .string (pvT st (f0, f1, f2) (g0, g1, g2) (h0, h1, h2))]) ∧ Below w.heap.size w w' := by
  obtain ⟨q, hq⟩ : ∃ q, w.heap.size = q := ⟨_, rfl⟩
  have HQ : Hid (w.heap.size = q) := hq
  obtain ⟨W1, hW1⟩ : ∃ W, (w.alloc (.cells #[.string f0, .int .i64 f1, .string f2, .string g0, .int .i64 g1, .string g2, .string h0, .int .i64 h1, .string h2] 75)).alloc (.cells #[.int .i64 0, .string ⟨#[]⟩] 59) = W := ⟨_, rfl⟩
  have za : (w.alloc (.cells #[.string f0, .int .i64 f1, .string f2, .string g0, .int .i64 g1, .string g2, .string h0, .int .i64 h1, .string h2] 75)).heap.size = q + 1 := by rw [← hq]; simp
  have b1 : Below q w W1 := by rw [← hW1, ← hq]; exact ((Below.refl _ _).alloc (Nat.le_refl _) _).alloc (by simp) _
  have ra : Rf W1 q [.string f0, .int .i64 f1, .string f2, .string g0, .int .i64 g1, .string g2, .string h0, .int .i64 h1, .string h2] := by rw [← hW1, ← hq]; exact (Rf.new w #[.string f0, .int .i64 f1, .string f2, .string g0, .int .i64 g1, .string g2, .string h0, .int .i64 h1, .string h2] _).below (by simp) (allocBelow _ _)
  have rb : Rf W1 (q + 1) [.int .i64 0, .string ⟨#[]⟩] := by rw [← hW1, ← za]; exact Rf.new _ #[.int .i64 0, .string ⟨#[]⟩] _
  have z1 : q + 2 ≤ W1.heap.size := by rw [← hW1, ← hq]; simp
  have c0 := ra.at_ 0 _ rfl
  have c1 := ra.at_ 1 _ rfl
  have c2 := ra.at_ 2 _ rfl
  have c3 := ra.at_ 3 _ rfl
  have c4 := ra.at_ 4 _ rfl
  have c5 := ra.at_ 5 _ rfl
  have c6 := ra.at_ 6 _ rfl
  have c7 := ra.at_ 7 _ rfl
  have c8 := ra.at_ 8 _ rfl
  have HRR : Hid (∀ W, Below q w W → Rf W p [.map (some b), x] ∧ p < W.heap.size ∧ Sh W b st ∧ No.TaG W ∧ 3 < W.heap.size) := fun W bW => by
    rw [← hq] at bW
    exact ⟨hR.below hp bW, Nat.lt_of_lt_of_le hp bW.size, hS.below bW, hT.below bW hgB, Nat.lt_of_lt_of_le hgB bW.size⟩
  clear hR hS hT hgB hp
  by_cases eg : ((g0, g1, g2) : Fl.Ob) = Fl.onil
  · have hE := Fl.ef_nil eg
    have HC : Hid (pvC st (f0, f1, f2) (g0, g1, g2) (h0, h1, h2) = 4 ∧ pvT st (f0, f1, f2) (g0, g1, g2) (h0, h1, h2) = ⟨#[]⟩) := pv_less (less_g eg)
    clear eg HRR
    go_enter Tryz.func74, Tryz.ntmps74
    have y0 := rb.at_ 0 _ rfl
    have y1 := rb.at_ 1 _ rfl
    have k0 := rb.fz 0
    have k1 := rb.fz 1
    have RV := (rb.set (o := 0) (by simp) (.int .i64 4)).set (o := 1) (by simp) (.string ⟨#[]⟩)
    have BV := (b1.setCell (p := ⟨q + 1, 0, none⟩) (by show q ≤ q + 1; omega) (.int .i64 4)).setCell (p := ⟨q + 1, 1, none⟩) (by show q ≤ q + 1; omega) (.string ⟨#[]⟩)
    obtain ⟨V, hV⟩ : ∃ V, (W1.setCell ⟨q + 1, 0, none⟩ (.int .i64 4)).setCell ⟨q + 1, 1, none⟩ (.string ⟨#[]⟩) = V := ⟨_, rfl⟩
    rw [hV] at RV BV
    have HVV : Hid (_ = V) := hV
    have v0 := RV.at_ 0 _ rfl
    have v1 := RV.at_ 1 _ rfl
    clear hV RV ra rb b1
    go_wp2
    rw [HVV.out]
    refine bodyPost_ret (v := .agg #[.int .i64 4, .string ⟨#[]⟩]) (by simp [results, Tryz.results74, go_sem, v0, v1]) rfl ?_
    exact po_of HQ.out HC.out.1 HC.out.2 BV
  by_cases eh : ((h0, h1, h2) : Fl.Ob) = Fl.onil
  · have hE := Fl.ef_some eg
    have hE2 := Fl.ef_nil eh
    have HC : Hid (pvC st (f0, f1, f2) (g0, g1, g2) (h0, h1, h2) = 4 ∧ pvT st (f0, f1, f2) (g0, g1, g2) (h0, h1, h2) = ⟨#[]⟩) := pv_less (less_h eh)
    clear eg eh HRR
    go_enter Tryz.func74, Tryz.ntmps74
    have y0 := rb.at_ 0 _ rfl
    have y1 := rb.at_ 1 _ rfl
    have k0 := rb.fz 0
    have k1 := rb.fz 1
    have RV := (rb.set (o := 0) (by simp) (.int .i64 4)).set (o := 1) (by simp) (.string ⟨#[]⟩)
    have BV := (b1.setCell (p := ⟨q + 1, 0, none⟩) (by show q ≤ q + 1; omega) (.int .i64 4)).setCell (p := ⟨q + 1, 1, none⟩) (by show q ≤ q + 1; omega) (.string ⟨#[]⟩)
    obtain ⟨V, hV⟩ : ∃ V, (W1.setCell ⟨q + 1, 0, none⟩ (.int .i64 4)).setCell ⟨q + 1, 1, none⟩ (.string ⟨#[]⟩) = V := ⟨_, rfl⟩
    rw [hV] at RV BV
    have HVV : Hid (_ = V) := hV
    have v0 := RV.at_ 0 _ rfl
    have v1 := RV.at_ 1 _ rfl
    clear hV RV ra rb b1
    go_wp2
    rw [HVV.out]
    refine bodyPost_ret (v := .agg #[.int .i64 4, .string ⟨#[]⟩]) (by simp [results, Tryz.results74, go_sem, v0, v1]) rfl ?_
    exact po_of HQ.out HC.out.1 HC.out.2 BV
  have hE := Fl.ef_some eg
  have hE2 := Fl.ef_some eh
  have hLB := less_b (st := st) (f := (f0, f1, f2)) eg eh
  have hF := filesC f0 f2 g0 g2 h0 h2 f1 g1 h1 W1
  have hsm := som3 (f0, f1, f2) (g0, g1, g2) (h0, h1, h2)
  clear eg eh
  obtain ⟨L, hL⟩ : ∃ L, som [((f0, f1, f2) : Fl.Ob), (g0, g1, g2), (h0, h1, h2)] = L := ⟨_, rfl⟩
  rw [hL] at hF hLB hsm
  clear hL
  go_enter Tryz.func74, Tryz.ntmps74
  go_wp2_with fail
  refine hF.mono ?_; rintro e w2 ⟨v2, rfl, o2, b2⟩
  obtain ⟨va, vc, ev⟩ := En.shapeK3 o2
  subst ev
  have B2 : Below q w w2 := b1.trans (b2.mono (by omega))
  have ra2 := ra.below (by omega) b2
  have rb2 := rb.below (by omega) b2
  have z2 : q + 2 ≤ w2.heap.size := Nat.le_trans z1 b2.size
  obtain ⟨x1, x2, x3, x4, x5⟩ := HRR.out w2 B2
  have hH := hasBlobsC p b st x va vc L w2 hz x1 x2 x3 (Fl.OB.of o2) (by omega)
  have e0 := ra2.at_ 0 _ rfl
  have e1 := ra2.at_ 1 _ rfl
  have e2 := ra2.at_ 2 _ rfl
  have e3 := ra2.at_ 3 _ rfl
  have e4 := ra2.at_ 4 _ rfl
  have e5 := ra2.at_ 5 _ rfl
  have e6 := ra2.at_ 6 _ rfl
  have e7 := ra2.at_ 7 _ rfl
  have e8 := ra2.at_ 8 _ rfl
  clear hF hW1 o2 b1 b2 ra rb z1 x1 x2 x3 x4 x5 c0 c1 c2 c3 c4 c5 c6 c7 c8
  go_wp2_with fail
  refine hH.mono ?_; rintro e w3 ⟨rfl, b3⟩
  have B3 : Below q w w3 := B2.trans (b3.mono (by omega))
  have ra3 := ra2.below (by omega) b3
  have rb3 := rb2.below (by omega) b3
  have z3 : q + 2 ≤ w3.heap.size := Nat.le_trans z2 b3.size
  clear hH B2 b3 ra2 rb2 z2 e0 e1 e2 e3 e4 e5 e6 e7 e8
  have c0 := ra3.at_ 0 _ rfl
  have c1 := ra3.at_ 1 _ rfl
  have c2 := ra3.at_ 2 _ rfl
  have c3 := ra3.at_ 3 _ rfl
  have c4 := ra3.at_ 4 _ rfl
  have c5 := ra3.at_ 5 _ rfl
  have c6 := ra3.at_ 6 _ rfl
  have c7 := ra3.at_ 7 _ rfl
  have c8 := ra3.at_ 8 _ rfl
  cases hb : hbF st L with
  | false =>
    have HC : Hid (pvC st (f0, f1, f2) (g0, g1, g2) (h0, h1, h2) = 4 ∧ pvT st (f0, f1, f2) (g0, g1, g2) (h0, h1, h2) = ⟨#[]⟩) := pv_less (by rw [hLB, hb]; rfl)
    clear hLB hb HRR
    have y0 := rb3.at_ 0 _ rfl
    have y1 := rb3.at_ 1 _ rfl
    have k0 := rb3.fz 0
    have k1 := rb3.fz 1
    have RV := (rb3.set (o := 0) (by simp) (.int .i64 4)).set (o := 1) (by simp) (.string ⟨#[]⟩)
    have BV := (B3.setCell (p := ⟨q + 1, 0, none⟩) (by show q ≤ q + 1; omega) (.int .i64 4)).setCell (p := ⟨q + 1, 1, none⟩) (by show q ≤ q + 1; omega) (.string ⟨#[]⟩)
    obtain ⟨V, hV⟩ : ∃ V, (w3.setCell ⟨q + 1, 0, none⟩ (.int .i64 4)).setCell ⟨q + 1, 1, none⟩ (.string ⟨#[]⟩) = V := ⟨_, rfl⟩
    rw [hV] at RV BV
    have HVV : Hid (_ = V) := hV
    have v0 := RV.at_ 0 _ rfl
    have v1 := RV.at_ 1 _ rfl
    clear hV RV ra3 rb3 B3
    go_wp2
    rw [HVV.out]
    refine bodyPost_ret (v := .agg #[.int .i64 4, .string ⟨#[]⟩]) (by simp [results, Tryz.results74, go_sem, v0, v1]) rfl ?_
    exact po_of HQ.out HC.out.1 HC.out.2 BV
  | true =>
    have hLF : less3 st (f0, f1, f2) (g0, g1, g2) (h0, h1, h2) = false := by rw [hLB, hb]; rfl
    obtain ⟨x1, x2, x3, x4, x5⟩ := HRR.out w3 B3
    have hTM := textsToMergeC p b st x f0 f2 g0 g2 h0 h2 f1 g1 h1 w3 hz x1 x2 x3
    have HBI : Hid (bin3 (tx st (f0, f1, f2)) (tx st (g0, g1, g2)) (tx st (h0, h1, h2)) = true → pvC st (f0, f1, f2) (g0, g1, g2) (h0, h1, h2) = 1 ∧ pvT st (f0, f1, f2) (g0, g1, g2) (h0, h1, h2) = ⟨#[]⟩) := fun e => pv_bin hLF e
    have HTX : Hid (bin3 (tx st (f0, f1, f2)) (tx st (g0, g1, g2)) (tx st (h0, h1, h2)) = false → pvC st (f0, f1, f2) (g0, g1, g2) (h0, h1, h2) = No.noC (tx st (f0, f1, f2)) (tx st (g0, g1, g2)) (tx st (h0, h1, h2)) ∧ pvT st (f0, f1, f2) (g0, g1, g2) (h0, h1, h2) = No.noX (tx st (f0, f1, f2)) (tx st (g0, g1, g2)) (tx st (h0, h1, h2))) := fun e => pv_text hLF e
    have s0 := tx_size hs (f0, f1, f2)
    have s1 := tx_size hs (g0, g1, g2)
    have s2 := tx_size hs (h0, h1, h2)
    unfold TM at hTM
    obtain ⟨t0, ht0⟩ : ∃ t, tx st (f0, f1, f2) = t := ⟨_, rfl⟩
    obtain ⟨t1, ht1⟩ : ∃ t, tx st (g0, g1, g2) = t := ⟨_, rfl⟩
    obtain ⟨t2, ht2⟩ : ∃ t, tx st (h0, h1, h2) = t := ⟨_, rfl⟩
    rw [ht0, ht1, ht2] at hTM HBI HTX
    rw [ht0] at s0
    rw [ht1] at s1
    rw [ht2] at s2
    have hNT := fun W (k1 : No.TaG W) k2 => No.implNormalText t0 t1 t2 W s0 s1 s2 k1 k2
    clear ht0 ht1 ht2 hLB hLF x1 x2 x3 x4 x5 hE hE2
    cases hbi : bin3 t0 t1 t2 with
    | true =>
      have HC : Hid (pvC st (f0, f1, f2) (g0, g1, g2) (h0, h1, h2) = 1 ∧ pvT st (f0, f1, f2) (g0, g1, g2) (h0, h1, h2) = ⟨#[]⟩) := HBI.out hbi
      rw [hbi] at hTM
      clear HBI HTX hbi hNT
      go_wp2_with fail
      refine hTM.mono ?_; rintro e w4 ⟨⟨u0, u1, u2, rfl, _⟩, b4⟩
      have B4 : Below q w (w4.alloc (.cells #[.string u0, .string u1, .string u2] 167)) := (B3.trans (b4.mono (by omega))).alloc (by have := b4.size; omega) _
      have rb4 := (rb3.below (by omega) b4).below (by have := b4.size; omega) (allocBelow w4 (.cells #[.string u0, .string u1, .string u2] 167))
      clear hTM b4 ra3 rb3 B3
      have y0 := rb4.at_ 0 _ rfl
      have y1 := rb4.at_ 1 _ rfl
      have k0 := rb4.fz 0
      have k1 := rb4.fz 1
      have RV := (rb4.set (o := 0) (by simp) (.int .i64 1)).set (o := 1) (by simp) (.string ⟨#[]⟩)
      have BV := (B4.setCell (p := ⟨q + 1, 0, none⟩) (by show q ≤ q + 1; omega) (.int .i64 1)).setCell (p := ⟨q + 1, 1, none⟩) (by show q ≤ q + 1; omega) (.string ⟨#[]⟩)
      obtain ⟨V, hV⟩ : ∃ V, ((w4.alloc (.cells #[.string u0, .string u1, .string u2] 167)).setCell ⟨q + 1, 0, none⟩ (.int .i64 1)).setCell ⟨q + 1, 1, none⟩ (.string ⟨#[]⟩) = V := ⟨_, rfl⟩
      rw [hV] at RV BV
      have HVV : Hid (_ = V) := hV
      have v0 := RV.at_ 0 _ rfl
      have v1 := RV.at_ 1 _ rfl
      clear hV RV rb4 B4
      go_wp2
      rw [HVV.out]
      refine bodyPost_ret (v := .agg #[.int .i64 1, .string ⟨#[]⟩]) (by simp [results, Tryz.results74, go_sem, v0, v1]) rfl ?_
      exact po_of HQ.out HC.out.1 HC.out.2 BV
    | false =>
      have HC := HTX.out hbi
      rw [hbi] at hTM
      clear HBI HTX hbi
      obtain ⟨C, hC⟩ : ∃ C, No.noC t0 t1 t2 = C := ⟨_, rfl⟩
      obtain ⟨X, hX⟩ : ∃ X, No.noX t0 t1 t2 = X := ⟨_, rfl⟩
      rw [hC, hX] at HC hNT
      have HC2 : Hid (pvC st (f0, f1, f2) (g0, g1, g2) (h0, h1, h2) = C ∧ pvT st (f0, f1, f2) (g0, g1, g2) (h0, h1, h2) = X) := HC
      clear hC hX HC
      go_wp2_with fail
      refine hTM.mono ?_; rintro e w4 ⟨⟨u0, u1, u2, rfl, hu⟩, b4⟩
      obtain ⟨rfl, rfl, rfl⟩ := hu (by first | rfl | trivial)
      obtain ⟨W5, hW5⟩ : ∃ W, w4.alloc (.cells #[.string u0, .string u1, .string u2] 167) = W := ⟨_, rfl⟩
      have b5 : Below w4.heap.size w4 W5 := by rw [← hW5]; exact allocBelow _ _
      have o5 : Rs W5 w4.heap.size [.string u0, .string u1, .string u2] := by rw [← hW5]; exact Rs.new w4 #[.string u0, .string u1, .string u2] _
      have B5 : Below q w W5 := (B3.trans (b4.mono (by omega))).trans (b5.mono (by have := b4.size; omega))
      have z5 : q + 2 ≤ W5.heap.size := Nat.le_trans z3 (Nat.le_trans b4.size b5.size)
      have rb5 := (rb3.below (by omega) b4).below (by have := b4.size; omega) b5
      have y0 := o5 0 _ rfl
      have y1 := o5 1 _ rfl
      have y2 := o5 2 _ rfl
      obtain ⟨_, _, _, x4, x5⟩ := HRR.out W5 B5
      have hN5 := hNT W5 x4 x5
      clear hTM b4 b5 o5 ra3 rb3 B3 hNT x4 x5 z3 c0 c1 c2 c3 c4 c5 c6 c7 c8
      go_wp2_with fail
      refine hN5.mono ?_; rintro e w6 ⟨rfl, b6⟩
      clear hW5 y0 y1 y2
      have B6 : Below q w w6 := B5.trans (b6.mono (by omega))
      have rb6 := rb5.below (by omega) b6
      clear hN5 B5 rb5 b6
      have y0 := rb6.at_ 0 _ rfl
      have y1 := rb6.at_ 1 _ rfl
      have k0 := rb6.fz 0
      have k1 := rb6.fz 1
      have RV := (rb6.set (o := 0) (by simp) (.int .i64 C)).set (o := 1) (by simp) (.string X)
      have BV := (B6.setCell (p := ⟨q + 1, 0, none⟩) (by show q ≤ q + 1; omega) (.int .i64 C)).setCell (p := ⟨q + 1, 1, none⟩) (by show q ≤ q + 1; omega) (.string X)
      obtain ⟨V, hV⟩ : ∃ V, (w6.setCell ⟨q + 1, 0, none⟩ (.int .i64 C)).setCell ⟨q + 1, 1, none⟩ (.string X) = V := ⟨_, rfl⟩
      rw [hV] at RV BV
      have HVV : Hid (_ = V) := hV
      have v0 := RV.at_ 0 _ rfl
      have v1 := RV.at_ 1 _ rfl
      clear hV RV rb6 B6
      go_wp2
      rw [HVV.out]
      refine bodyPost_ret (v := .agg #[.int .i64 C, .string X]) (by simp [results, Tryz.results74, go_sem, v0, v1]) rfl ?_
      exact po_of HQ.out HC2.out.1 HC2.out.2 BV
set_option maxRecDepth 20000 in
set_option maxHeartbeats 8000000 in
theorem implPreOf (a : Option Addr) (c : Nat) (st : List Ob) (a2 : Option Addr) (c2 : Nat) (l : List En.Ob) (p : ByteArray) (w : World) (h : OB w.heap.size w a st) (hs : SmallO st) (hn : st.length ≤ 1048576) (h2 : En.OB w.heap.size w a2 l) (hs2 : En.SmallO l) (hn2 : l.length ≤ 1048576) (hT : No.TaG w) (hgB : 3 < w.heap.size) :
    Calls Tryz.prog 31 #[.slice a st.length c, .slice a2 l.length c2, .string p] w fun e w' => e = .returned (.agg #[.int .i64 (poC st l p), .string (poT st l p)]) ∧ Below w.heap.size w w' := by
  obtain ⟨q, hq⟩ : ∃ q, w.heap.size = q := ⟨_, rfl⟩
  have HQ : Hid (w.heap.size = q) := hq
  obtain ⟨W1, hW1⟩ : ∃ W, w.alloc (.cells #[.int .i64 0, .string ⟨#[]⟩] 59) = W := ⟨_, rfl⟩
  have b1 : Below q w W1 := by rw [← hW1, ← hq]; exact allocBelow _ _
  have rb : Rf W1 q [.int .i64 0, .string ⟨#[]⟩] := by rw [← hW1, ← hq]; exact Rf.new _ #[.int .i64 0, .string ⟨#[]⟩] _
  have z1 : q + 1 ≤ W1.heap.size := by rw [← hW1, ← hq]; simp
  have HRR : Hid (∀ W, Below q w W → OB W.heap.size W a st ∧ En.OB W.heap.size W a2 l ∧ No.TaG W ∧ 3 < W.heap.size) := fun W bW => by
    rw [← hq] at bW
    exact ⟨(h.below bW).mono bW.size, (h2.below bW).mono bW.size, hT.below bW hgB, Nat.lt_of_lt_of_le hgB bW.size⟩
  clear h h2 hT hgB
  obtain ⟨x1, x2, _, _⟩ := HRR.out W1 b1
  have hA := implStoreFault a c st W1 x1 hs hn
  clear x1 x2
  by_cases e0 : sf st = 0
  · rw [e0] at hA
    go_enter Tryz.func31, Tryz.ntmps31
    go_wp2_with fail
    refine hA.mono ?_; rintro e w2 ⟨rfl, b2⟩
    have B2 : Below q w w2 := b1.trans (b2.mono (by omega))
    have rb2 := rb.below (by omega) b2
    have z2 := Nat.le_trans z1 b2.size
    obtain ⟨x1, x2, _, _⟩ := HRR.out w2 B2
    have hI := En.implIndexFault a2 c2 l w2 x2 hs2 hn2
    clear hA hW1 hq b1 b2 rb z1 x1 x2
    by_cases e1 : En.ixf l = 0
    · rw [e1] at hI
      go_wp2_with fail
      refine hI.mono ?_; rintro e w3 ⟨rfl, b3⟩
      have B3 : Below q w w3 := B2.trans (b3.mono (by omega))
      have rb3 := rb2.below (by omega) b3
      have z3 := Nat.le_trans z2 b3.size
      obtain ⟨x1, x2, _, _⟩ := HRR.out w3 B3
      have hSh := shelfOfC a c st w3 x1 e0
      have HC0 := po_ok (p := p) e0 e1
      have hV := fun W y => versionsAtC a2 c2 l p W y e1
      have hPre := fun P Bk X F0 F2 G0 G2 H0 H2 F1 G1 H1 W k1 k2 k3 k4 k5 => preOfC P Bk st X F0 F2 G0 G2 H0 H2 F1 G1 H1 W e0 hs k1 k2 k3 k4 k5
      clear hI b3 B2 rb2 z2 x1 x2 e0 e1
      go_wp2_with fail
      refine hSh.mono ?_; rintro e w4 ⟨rfl, r4, s4, b4, zz4⟩
      have B4 : Below q w w4 := B3.trans (b4.mono (by omega))
      have rb4 := rb3.below (by omega) b4
      have z4 := Nat.le_trans z3 b4.size
      obtain ⟨x1, x2, x3, x4⟩ := HRR.out w4 B4
      have hV4 := hV w4 x2
      obtain ⟨F, hF⟩ : ∃ F, En.vf l p 1 = F := ⟨_, rfl⟩
      obtain ⟨G, hG⟩ : ∃ F, En.vf l p 2 = F := ⟨_, rfl⟩
      obtain ⟨H, hH⟩ : ∃ F, En.vf l p 3 = F := ⟨_, rfl⟩
      obtain ⟨f0, f1, f2⟩ := F
      obtain ⟨g0, g1, g2⟩ := G
      obtain ⟨h0, h1, h2⟩ := H
      rw [hF, hG, hH] at hV4 HC0
      unfold VQ c9 at hV4
      simp only [] at hV4
      obtain ⟨P, hP⟩ : ∃ P, w3.heap.size = P := ⟨_, rfl⟩
      rw [hP] at r4 s4 zz4 ⊢
      clear hSh hV b4 B3 rb3 z3 x1 x2 x3 x4 hF hG hH hP
      go_wp2_with fail
      refine hV4.mono ?_; rintro e w5 ⟨rfl, b5⟩
      have B5 : Below q w w5 := B4.trans (b5.mono (by omega))
      have rb5 := rb4.below (by omega) b5
      have z5 := Nat.le_trans z4 b5.size
      obtain ⟨_, _, x3, x4⟩ := HRR.out w5 B5
      have hP5 := hPre (P + 1) P _ f0 f2 g0 g2 h0 h2 f1 g1 h1 w5 (r4.below zz4 b5) (Nat.lt_of_lt_of_le zz4 b5.size) (s4.below b5) x3 x4
      obtain ⟨C, hC⟩ : ∃ C, pvC st (f0, f1, f2) (g0, g1, g2) (h0, h1, h2) = C := ⟨_, rfl⟩
      obtain ⟨X, hX⟩ : ∃ X, pvT st (f0, f1, f2) (g0, g1, g2) (h0, h1, h2) = X := ⟨_, rfl⟩
      rw [hC, hX] at hP5 HC0
      have HC : Hid (poC st l p = C ∧ poT st l p = X) := HC0
      clear hV4 hPre HC0 r4 s4 b5 B4 rb4 z4 x3 x4 hC hX zz4
      go_wp2_with fail
      refine hP5.mono ?_; rintro e w6 ⟨rfl, b6⟩
      have B6 : Below q w w6 := B5.trans (b6.mono (by omega))
      have rb6 := rb5.below (by omega) b6
      clear hP5 B5 rb5 z5 b6
      have y0 := rb6.at_ 0 _ rfl
      have y1 := rb6.at_ 1 _ rfl
      have k0 := rb6.fz 0
      have k1 := rb6.fz 1
      have RV := (rb6.set (o := 0) (by simp) (.int .i64 C)).set (o := 1) (by simp) (.string X)
      have BV := (B6.setCell (p := ⟨q, 0, none⟩) (Nat.le_refl _) (.int .i64 C)).setCell (p := ⟨q, 1, none⟩) (Nat.le_refl _) (.string X)
      obtain ⟨V, hV⟩ : ∃ V, (w6.setCell ⟨q, 0, none⟩ (.int .i64 C)).setCell ⟨q, 1, none⟩ (.string X) = V := ⟨_, rfl⟩
      rw [hV] at RV BV
      have HVV : Hid (_ = V) := hV
      have v0 := RV.at_ 0 _ rfl
      have v1 := RV.at_ 1 _ rfl
      clear hV RV rb6 B6
      go_wp2
      rw [HVV.out]
      refine bodyPost_ret (v := .agg #[.int .i64 C, .string X]) (by simp [results, Tryz.results31, go_sem, v0, v1]) rfl ?_
      exact po_of HQ.out HC.out.1 HC.out.2 BV
    · have HC0 := po_index (p := p) e0 e1
      have qn : (En.ixf l != 0) = true := by simpa using e1
      obtain ⟨C, hC⟩ : ∃ C, En.ixf l = C := ⟨_, rfl⟩
      rw [hC] at hI HC0 qn
      have HC : Hid (poC st l p = C ∧ poT st l p = ⟨#[]⟩) := HC0
      clear hC HC0 e1 e0
      go_wp2_with fail
      refine hI.mono ?_; rintro e w3 ⟨rfl, b3⟩
      have B3 : Below q w w3 := B2.trans (b3.mono (by omega))
      have rb3 := rb2.below (by omega) b3
      clear hI b3 B2 rb2 z2
      have y0 := rb3.at_ 0 _ rfl
      have y1 := rb3.at_ 1 _ rfl
      have k0 := rb3.fz 0
      have k1 := rb3.fz 1
      have RV := (rb3.set (o := 0) (by simp) (.int .i64 C)).set (o := 1) (by simp) (.string ⟨#[]⟩)
      have BV := (B3.setCell (p := ⟨q, 0, none⟩) (Nat.le_refl _) (.int .i64 C)).setCell (p := ⟨q, 1, none⟩) (Nat.le_refl _) (.string ⟨#[]⟩)
      obtain ⟨V, hV⟩ : ∃ V, (w3.setCell ⟨q, 0, none⟩ (.int .i64 C)).setCell ⟨q, 1, none⟩ (.string ⟨#[]⟩) = V := ⟨_, rfl⟩
      rw [hV] at RV BV
      have HVV : Hid (_ = V) := hV
      have v0 := RV.at_ 0 _ rfl
      have v1 := RV.at_ 1 _ rfl
      clear hV RV rb3 B3
      go_wp2
      rw [HVV.out]
      refine bodyPost_ret (v := .agg #[.int .i64 C, .string ⟨#[]⟩]) (by simp [results, Tryz.results31, go_sem, v0, v1]) rfl ?_
      exact po_of HQ.out HC.out.1 HC.out.2 BV
  · have HC0 := po_store (l := l) (p := p) e0
    have qn : (sf st != 0) = true := by simpa using e0
    obtain ⟨C, hC⟩ : ∃ C, sf st = C := ⟨_, rfl⟩
    rw [hC] at hA HC0 qn
    have HC : Hid (poC st l p = C ∧ poT st l p = ⟨#[]⟩) := HC0
    clear hC HC0 e0
    go_enter Tryz.func31, Tryz.ntmps31
    go_wp2_with fail
    refine hA.mono ?_; rintro e w2 ⟨rfl, b2⟩
    have B2 : Below q w w2 := b1.trans (b2.mono (by omega))
    have rb2 := rb.below (by omega) b2
    clear hA hW1 hq b1 b2 rb z1
    have y0 := rb2.at_ 0 _ rfl
    have y1 := rb2.at_ 1 _ rfl
    have k0 := rb2.fz 0
    have k1 := rb2.fz 1
    have RV := (rb2.set (o := 0) (by simp) (.int .i64 C)).set (o := 1) (by simp) (.string ⟨#[]⟩)
    have BV := (B2.setCell (p := ⟨q, 0, none⟩) (Nat.le_refl _) (.int .i64 C)).setCell (p := ⟨q, 1, none⟩) (Nat.le_refl _) (.string ⟨#[]⟩)
    obtain ⟨V, hV⟩ : ∃ V, (w2.setCell ⟨q, 0, none⟩ (.int .i64 C)).setCell ⟨q, 1, none⟩ (.string ⟨#[]⟩) = V := ⟨_, rfl⟩
    rw [hV] at RV BV
    have HVV : Hid (_ = V) := hV
    have v0 := RV.at_ 0 _ rfl
    have v1 := RV.at_ 1 _ rfl
    clear hV RV rb2 B2
    go_wp2
    rw [HVV.out]
    refine bodyPost_ret (v := .agg #[.int .i64 C, .string ⟨#[]⟩]) (by simp [results, Tryz.results31, go_sem, v0, v1]) rfl ?_
    exact po_of HQ.out HC.out.1 HC.out.2 BV
end Go.Proofs.YtmmccpdaklkciaaGreatDoor.Pv
