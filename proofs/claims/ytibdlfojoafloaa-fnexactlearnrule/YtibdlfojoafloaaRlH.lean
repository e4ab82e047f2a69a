/- A rule is put in the midst of the program's sorted list, or in place of one that is like it. No statement is proved here. -/
import Derived.Test.YtibdlfojoafloaaRows
import Derived.Test.YtibdlfojoafloaaLem
import Derived.Test.YtibdlfojoafloaaStrs
import Derived.Test.YtibdlfojoafloaaLFLem
import Derived.Test.YtibdlfojoafloaaDTab
import Derived.Test.YtibdlfojoafloaaOwn
import Derived.Test.YtibdlfojoafloaaFr
import Derived.Test.YtibdlfojoafloaaHkT
import Derived.Test.YtibdlfojoafloaaRuL
import Derived.Test.YtibdlfojoafloaaRuF
import Derived.Test.YtibdlfojoafloaaFrC
import Derived.Test.YtibdlfojoafloaaRlB
import Derived.Test.YtibdlfojoafloaaRlC
import Derived.Test.YtibdlfojoafloaaRlE
import Derived.Test.YtibdlfojoafloaaCpK
import Derived.Test.YtibdlfojoafloaaInU
import Derived.WalkKit
import Derived.ProofKit
import Derived.Below
import Derived.WalkSpells
import Derived.Maps.AppendAt
import Derived.Laws.BitsLemmas
import Derived.Laws.Cover1
import Derived.Deep.QuietTactic
import Derived.BigQuiet
import Derived.Deep.RegionWith
import Derived.Deep.RegionHeld
import Derived.Deep.CutRange
set_option linter.unusedVariables false
namespace Go.Proofs.Ytibdlfojoafloaa.Ru
open Go.ChangeShapes Go.WideShapes Go.ChangeAt Go.RowKit
/-- slices.Insert in the midst, whether there is room or not. -/
theorem insertMidC (base : Nat) (a : Option Addr) (c g i : Nat) (l : List Ob) (E : Ob) (w : World) (h : w.ownsRow base 36 2 (.slice a l.length c) l.length (ocells l)) (hi : i < l.length) (hn : l.length ≤ 1048576)
    (hE : w.heap[g]? = some (.cells (ocells [E]).toArray 36 (0, 0))) (hg : (Value.slice a l.length c).ownBlock ≠ some g) (hb : base ≤ w.heap.size) :
    Calls Try.prog 65 #[.slice a l.length c, .int .i64 i, .slice (some ⟨g, 0, none⟩) 1 1] w fun e w' => GE base (.slice a l.length c) (insL l i E) w e w' := by
  obtain ⟨b, rfl⟩ : ∃ b, a = some ⟨b, 0, none⟩ := by
    rcases h.2 with ⟨_, h0⟩ | ⟨b, c', cur, e, _⟩
    · omega
    · simp only [Value.slice.injEq] at e
      exact ⟨b, e.1⟩
  by_cases hr : l.length + 1 ≤ c
  · exact insertRoom base b c g i l E w h hi hn hr hE (fun e => hg (by rw [e]; rfl))
  · exact insertGrow base b c g i l E w h hi hn (by omega) hE hb
set_option maxRecDepth 20000 in
set_option maxHeartbeats 4000000 in
theorem addMidC (b : Nat) (l : List Ob) (v : Value) (E : Ob) (p : Nat) (w : World) (h : SL w b l v) (hn : l.length ≤ 1048575) (hl : Cuts l E p) (hpl : p < l.length) (hh : hit l E p = false) :
    Calls Try.prog 36 #[.pointer (some ⟨b, 0, none⟩), .agg #[.string E.1, .string E.2]] w fun e w' => AD b (insL l p E) w e w' := by
  obtain ⟨va, vc, rfl⟩ := shapeK3 h.own
  have hS := fun W q => searchC va vc l E p W q (by omega) hl
  simp only [hh] at hS
  have hI := fun g W q r s t => insertMidC (b + 1) va vc g p l E W q hpl (by omega) r s t
  clear hl hh
  obtain ⟨x0, x1⟩ := E
  simp only [] at hS hI ⊢
  obtain ⟨W, hW⟩ : ∃ W, w.alloc (.cells #[.string x0, .string x1] 36) = W := ⟨_, rfl⟩
  have bW : Below w.heap.size w W := by rw [← hW]; exact allocBelow _ _
  have oW : Rf W w.heap.size [.string x0, .string x1] := by rw [← hW]; exact Rf.new _ _ _
  have zW : w.heap.size < W.heap.size := by rw [← hW]; simp
  have h1 := h.below bW
  have k0 := h1.rf.at_ 0 _ rfl
  have k1 := h1.rf.at_ 1 _ rfl
  have m0 := oW.at_ 0 _ rfl
  have m1 := oW.at_ 1 _ rfl
  have hbw := h.lt
  go_enter Try.func36, Try.ntmps36
  go_wp2_with fail
  go_cut [4, 5] from 6 to 18 (fun s t wx => s = .int .i64 p ∧ t = .bool false ∧ Below W.heap.size W wx)
  case first =>
    have OD : OB W.drew.heap.size W.drew va l := OB.of h1.own
    clear hI h1 oW h hbw hW bW zW
    go_region_held (fun w' => w'.cell? ⟨b, 0, none⟩ = some (.func (.func 63) #[] #[]) ∧ w'.cell? ⟨b, 1, none⟩ = some (.slice va l.length vc) ∧ w'.cell? ⟨w.heap.size, 0, none⟩ = some (.string x0) ∧ w'.cell? ⟨w.heap.size, 1, none⟩ = some (.string x1)) (first | with_reducible exact ⟨k0, k1, m0, m1⟩ | with_reducible exact ⟨f0, f1, e0, e1⟩ | exact ⟨k0, k1, m0, m1⟩)
      ((go_at_call 64; refine (hS _ OD).mono ?_; rintro e wb ⟨rfl, bb⟩; have fb := Fr.ofBelow (lo := 0) (hi := 0) bb; have e0 := fb.cell m0 (.inr (Nat.zero_le _)); have e1 := fb.cell m1 (.inr (Nat.zero_le _)); have f0 := fb.cell k0 (.inr (Nat.zero_le _)); have f1 := fb.cell k1 (.inr (Nat.zero_le _)); have Bt1 : Below W.heap.size W wb := (below_drew (Below.refl _ _)).trans bb))
    all_goals (go_wp2_with fail; go_meet; exact ⟨rfl, rfl, Bt1⟩)
  case rest =>
  obtain ⟨rfl, rfl, hB⟩ := hcut
  have h2 := h1.below hB
  have o2 := oW.below zW hB
  have k1 := h2.rf.at_ 1 _ rfl
  have fz := h2.rf.fz 1
  have m0 := o2.at_ 0 _ rfl
  have m1 := o2.at_ 1 _ rfl
  have BA : Below b w wc := ((bW.trans (hB.mono bW.size)).mono (Nat.le_of_lt hbw))
  have hbc : b + 1 ≤ wc.heap.size := h2.lt
  obtain ⟨V, hV⟩ : ∃ V, wc.alloc (.cells #[.string x0, .string x1] 36) = V := ⟨_, rfl⟩
  have nw : V.drew.heap[wc.heap.size]? = some (.cells (ocells [(x0, x1)]).toArray 36 (0, 0)) := by rw [← hV, ocells_one]; exact heap_alloc_new wc _
  have bV : Below wc.heap.size wc V := by rw [← hV]; exact allocBelow _ _
  have h3 := h2.below bV
  have hII := hI wc.heap.size V.drew h3.own.drew nw (fun e => (by have h9 := (h2.own.lt _ e).2; omega)) h3.lt
  have BV : Below b w V := BA.trans (bV.mono (by omega))
  have R3 := h3.rf
  have zV := h3.lt
  have hvb : ∀ j, (Value.slice va l.length vc).ownBlock = some j → b + 1 ≤ j := fun j hj => (h3.own.lt j hj).1
  clear hS hI h h1 h2 h3 oW o2 bW zW hW hB BA nw bV k0
  go_wp2_with fail
  have hne : some b ≠ (Value.slice va l.length vc).ownBlock := fun e => absurd (hvb b e.symm) (by omega)
  have R3D : Rf V.drew b [.func (.func 63) #[] #[], .slice va l.length vc] := ⟨R3.at_, R3.fz⟩
  have BVD : Below b w V.drew := BV.drew
  have k1V := R3.at_ 1 _ rfl
  have fzV := R3.fz 1
  go_region_with (go_at_call 65; refine hII.mono ?_; rintro e w5 ⟨v5, rfl, o5, g5, _⟩; obtain ⟨ua, uc, rfl⟩ := shapeK3 o5; have R5 := rfGrew R3D g5 hne zV; have c5 := R5.at_ 1 _ rfl; have z5 := R5.fz 1)
  all_goals
    have z6 : b < w5.heap.size := Nat.lt_of_lt_of_le zV g5.size
    have R6 : Rf (w5.setCell ⟨b, 1, none⟩ (.slice ua (insL l p (x0, x1)).length uc)) b [.func (.func 63) #[] #[], .slice ua (insL l p (x0, x1)).length uc] := R5.set (o := 1) (by simp) _
    have o6 := o5.kept (grownSet w5 b 1 (.slice ua (insL l p (x0, x1)).length uc)) (blockCases _ _ fun j c1 c2 => by cases c2; have := (o5.lt _ c1).1; omega)
    have B6 : Below b w (w5.setCell ⟨b, 1, none⟩ (.slice ua (insL l p (x0, x1)).length uc)) := (BVD.grown g5 (Nat.le_of_lt zV) (fun j hj => by have := hvb j hj; omega)).setCell (p := ⟨b, 1, none⟩) (Nat.le_refl _) _
    have HF : Hid (AD b (insL l p (x0, x1)) w (.returned (.tuple #[])) (w5.setCell ⟨b, 1, none⟩ (.slice ua (insL l p (x0, x1)).length uc))) := ⟨rfl, ⟨_, R6, o6, by rw [World.size_setCell]; exact z6⟩, B6⟩
    clear R6 o6 B6 R5 o5 g5 c5 z5 R3 R3D BV BVD
    go_wp2
    refine bodyPost_end (results_none rfl _ _ _) rfl ?_
    exact HF.out
set_option maxRecDepth 20000 in
set_option maxHeartbeats 4000000 in
theorem addHitC (b : Nat) (l : List Ob) (v : Value) (E : Ob) (p : Nat) (w : World) (h : SL w b l v) (hn : l.length ≤ 1048575) (hl : Cuts l E p) (hpl : p < l.length) (hh : hit l E p = true) :
    Calls Try.prog 36 #[.pointer (some ⟨b, 0, none⟩), .agg #[.string E.1, .string E.2]] w fun e w' => AD b (l.set p E) w e w' := by
  obtain ⟨va, vc, rfl⟩ := shapeK3 h.own
  have hS := fun W q => searchC va vc l E p W q (by omega) hl
  simp only [hh] at hS
  clear hl hh
  obtain ⟨x0, x1⟩ := E
  simp only [] at hS ⊢
  obtain ⟨W, hW⟩ : ∃ W, w.alloc (.cells #[.string x0, .string x1] 36) = W := ⟨_, rfl⟩
  have bW : Below w.heap.size w W := by rw [← hW]; exact allocBelow _ _
  have oW : Rf W w.heap.size [.string x0, .string x1] := by rw [← hW]; exact Rf.new _ _ _
  have zW : w.heap.size < W.heap.size := by rw [← hW]; simp
  have h1 := h.below bW
  have k0 := h1.rf.at_ 0 _ rfl
  have k1 := h1.rf.at_ 1 _ rfl
  have m0 := oW.at_ 0 _ rfl
  have m1 := oW.at_ 1 _ rfl
  have hbw := h.lt
  go_enter Try.func36, Try.ntmps36
  go_wp2_with fail
  go_cut [4, 5] from 6 to 18 (fun s t wx => s = .int .i64 p ∧ t = .bool true ∧ Below W.heap.size W wx)
  case first =>
    have OD : OB W.drew.heap.size W.drew va l := OB.of h1.own
    clear h1 oW h hbw hW bW zW
    go_region_held (fun w' => w'.cell? ⟨b, 0, none⟩ = some (.func (.func 63) #[] #[]) ∧ w'.cell? ⟨b, 1, none⟩ = some (.slice va l.length vc) ∧ w'.cell? ⟨w.heap.size, 0, none⟩ = some (.string x0) ∧ w'.cell? ⟨w.heap.size, 1, none⟩ = some (.string x1)) (first | with_reducible exact ⟨k0, k1, m0, m1⟩ | with_reducible exact ⟨f0, f1, e0, e1⟩ | exact ⟨k0, k1, m0, m1⟩)
      ((go_at_call 64; refine (hS _ OD).mono ?_; rintro e wb ⟨rfl, bb⟩; have fb := Fr.ofBelow (lo := 0) (hi := 0) bb; have e0 := fb.cell m0 (.inr (Nat.zero_le _)); have e1 := fb.cell m1 (.inr (Nat.zero_le _)); have f0 := fb.cell k0 (.inr (Nat.zero_le _)); have f1 := fb.cell k1 (.inr (Nat.zero_le _)); have Bt1 : Below W.heap.size W wb := (below_drew (Below.refl _ _)).trans bb))
    all_goals (go_wp2_with fail; go_meet; exact ⟨rfl, rfl, Bt1⟩)
  case rest =>
  obtain ⟨rfl, rfl, hB⟩ := hcut
  have h2 := h1.below hB
  have o2 := oW.below zW hB
  have k1 := h2.rf.at_ 1 _ rfl
  have fz := h2.rf.fz 1
  have m0 := o2.at_ 0 _ rfl
  have m1 := o2.at_ 1 _ rfl
  have BA : Below b w wc := ((bW.trans (hB.mono bW.size)).mono (Nat.le_of_lt hbw))
  obtain ⟨r, rfl⟩ : ∃ r, va = some ⟨r, 0, none⟩ := by
    rcases h2.own.2 with ⟨_, h0⟩ | ⟨g, c, cur, e, _⟩
    · omega
    · simp only [Value.slice.injEq] at e
      exact ⟨g, e.1⟩
  have hr := h2.own.lt r rfl
  have hl2 : p * 2 < l.length * 2 := by omega
  have hl3 : p * 2 + 1 < l.length * 2 := by omega
  have c0 := h2.own.cellAt (p * 2) hl2
  have c1 := h2.own.cellAt (p * 2 + 1) hl3
  rw [ocells, rowG_at _ _ _ hl2] at c0
  rw [ocells, rowG_at _ _ _ hl3] at c1
  have f0 := h2.own.frozenAt (p * 2)
  have f1 := h2.own.frozenAt (p * 2 + 1)
  have s1 := h2.own.stored (p * 2) (.string x0)
  have s2 := s1.1.stored (p * 2 + 1) (.string x1)
  have qp : (p : Int) < (l.length : Int) := by omega
  have HF : ∀ W : World, W.heap = wc.heap → W.os = wc.os → W.tape = wc.tape → W.output = wc.output → Hid (AD b (l.set p (x0, x1)) w (.returned (.tuple #[])) ((W.setCell ⟨r, p * 2, none⟩ (.string x0)).setCell ⟨r, p * 2 + 1, none⟩ (.string x1))) := by
    intro W e1 e2 e3 e4
    have B0 : Below b w W := ⟨e2.trans BA.os, e3.trans BA.tape, e4.trans BA.output, by rw [e1]; exact BA.size, fun k hk => by rw [e1]; exact BA.block k hk⟩
    have oW : W.ownsRow (b + 1) 36 2 (.slice (some ⟨r, 0, none⟩) l.length vc) l.length (ocells l) := by
      refine ⟨h2.own.1, ?_⟩
      have h9 := h2.own.2
      rw [← e1] at h9
      exact h9
    have t1 := oW.stored (p * 2) (.string x0)
    have t2 := t1.1.stored (p * 2 + 1) (.string x1)
    have e := ocells_set l p (x0, x1) hpl
    simp only [] at e
    have o3 := t2.1
    rw [e] at o3
    have RW : Rf W b [.func (.func 63) #[] #[], .slice (some ⟨r, 0, none⟩) l.length vc] := ⟨fun k v hk => by unfold World.cell?; rw [e1]; exact h2.rf.at_ k v hk, fun k => by unfold World.frozen?; rw [e1]; exact h2.rf.fz k⟩
    have R1 := (RW.other (b' := r) (o := p * 2) (by omega) (.string x0)).other (b' := r) (o := p * 2 + 1) (by omega) (.string x1)
    refine ⟨rfl, ⟨_, R1, ?_, by rw [World.size_setCell, World.size_setCell, e1]; exact h2.lt⟩, (B0.setCell (p := ⟨r, p * 2, none⟩) (by show b ≤ r; omega) _).setCell (p := ⟨r, p * 2 + 1, none⟩) (by show b ≤ r; omega) _⟩
    rw [List.length_set]
    exact o3
  clear hS h h1 h2 oW o2 bW zW hW hB BA k0 s1 s2
  go_wp2_with fail
  go_region_law (fail)
  all_goals
    go_wp2
    refine bodyPost_end (results_none rfl _ _ _) rfl ?_
    first | exact (HF wc.drew rfl rfl rfl rfl).out | exact (HF wc rfl rfl rfl rfl).out
end Go.Proofs.Ytibdlfojoafloaa.Ru
