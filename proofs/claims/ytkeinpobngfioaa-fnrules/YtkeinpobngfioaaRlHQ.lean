/- A rule is put in the midst of the program's sorted list, or in place of one that is like it. No statement is proved here. -/
import Derived.Test.YtkeinpobngfioaaRows
import Derived.Test.YtkeinpobngfioaaLemQ
import Derived.Test.YtkeinpobngfioaaLFLemQ
import Derived.Test.YtkeinpobngfioaaDTabQ
import Derived.Test.YtkeinpobngfioaaHkTQ
import Derived.Test.YtkeinpobngfioaaRuLQ
import Derived.Test.YtkeinpobngfioaaRuFQ
import Derived.Test.YtkeinpobngfioaaFrCQ
import Derived.Test.YtkeinpobngfioaaRlBQ
import Derived.Test.YtkeinpobngfioaaRlEQ
import Derived.Test.YtkeinpobngfioaaCpKQ
import Derived.WalkKit
import Derived.ProofKit
import Derived.Below
import Derived.WalkSpells
import Derived.Maps.AppendAt
import Derived.Laws.BitsLemmas
import Derived.Laws.Cover1
import Derived.Deep.QuietTactic
import Derived.BigQuiet
import Derived.Deep.RegionWith
import Derived.Deep.RegionHeld
import Derived.Deep.CutRange
import Derived.Test.YtkeinpobngfioaaTFQ
import Derived.Test.YtkeinpobngfioaaSplQ
import Derived.Test.YtkeinpobngfioaaFpSQ
import Derived.Test.YtkeinpobngfioaaRlDQ
set_option linter.unusedVariables false
namespace Go.Proofs.Ytkeinpobngfioaa.Ru
open Go.ChangeShapes Go.WideShapes Go.ChangeAt Go.RowKit
/-- slices.Insert in the midst, whether there is room or not. -/
theorem insertMidC (base : Nat) (a : Option Addr) (c g i : Nat) (l : List Ob) (E : Ob) (w : World) (h : w.ownsRow base 36 2 (.slice a l.length c) l.length (ocells l)) (hi : i < l.length) (hn : l.length ≤ 1048576)
    (hE : w.heap[g]? = some (.cells (ocells [E]).toArray 36 (0, 0))) (hg : (Value.slice a l.length c).ownBlock ≠ some g) (hb : base ≤ w.heap.size) :
    Calls Try.prog 37 #[.slice a l.length c, .int .i64 i, .slice (some ⟨g, 0, none⟩) 1 1] w fun e w' => GE base (.slice a l.length c) (insL l i E) w e w' := by
  obtain ⟨b, rfl⟩ : ∃ b, a = some ⟨b, 0, none⟩ := by
    rcases h.2 with ⟨_, h0⟩ | ⟨b, c', cur, e, _⟩
    · omega
    · simp only [Value.slice.injEq] at e
      exact ⟨b, e.1⟩
  by_cases hr : l.length + 1 ≤ c
  · exact insertRoom base b c g i l E w h hi hn hr hE (fun e => hg (by rw [e]; rfl))
  · exact insertGrow base b c g i l E w h hi hn (by omega) hE hb
set_option maxRecDepth 20000 in
set_option maxHeartbeats 4000000 in
theorem addMidC (b : Nat) (l : List Ob) (v : Value) (E : Ob) (p : Nat) (w : World) (h : SL w b l v) (hn : l.length ≤ 1048575) (hl : Cuts l E p) (hpl : p < l.length) (hh : hit l E p = false) :
    Calls Try.prog 20 #[.pointer (some ⟨b, 0, none⟩), .agg #[.string E.1, .string E.2]] w fun e w' => AD b (insL l p E) w e w' := by
  obtain ⟨va, vc, rfl⟩ := shapeK3 h.own
  have hS := fun W q => searchC va vc l E p W q (by omega) hl
  simp only [hh] at hS
  have hI := fun g W q r s t => insertMidC (b + 1) va vc g p l E W q hpl (by omega) r s t
  clear hl hh
  obtain ⟨x0, x1⟩ := E
  simp only [] at hS hI ⊢
  obtain ⟨W, hW⟩ : ∃ W, w.alloc (.cells #[.string x0, .string x1] 36) = W := ⟨_, rfl⟩
  have bW : Below w.heap.size w W := by rw [← hW]; exact allocBelow _ _
  have oW : Rf W w.heap.size [.string x0, .string x1] := by rw [← hW]; exact Rf.new _ _ _
  have zW : w.heap.size < W.heap.size := by rw [← hW]; simp
  have h1 := h.below bW
  have k0 := h1.rf.at_ 0 _ rfl
  have k1 := h1.rf.at_ 1 _ rfl
  have m0 := oW.at_ 0 _ rfl
  have m1 := oW.at_ 1 _ rfl
  have hbw := h.lt
  go_enter Try.func20, Try.ntmps20
  go_wp2_with fail
  go_cut [4, 5] from 6 to 18 (fun s t wx => s = .int .i64 p ∧ t = .bool false ∧ Below W.heap.size W wx)
  case first =>
    have OD : OB W.drew.heap.size W.drew va l := OB.of h1.own
    clear hI h1 oW h hbw hW bW zW
    go_region_held (fun w' => w'.cell? ⟨b, 0, none⟩ = some (.func (.func 35) #[] #[]) ∧ w'.cell? ⟨b, 1, none⟩ = some (.slice va l.length vc) ∧ w'.cell? ⟨w.heap.size, 0, none⟩ = some (.string x0) ∧ w'.cell? ⟨w.heap.size, 1, none⟩ = some (.string x1)) (first | with_reducible exact ⟨k0, k1, m0, m1⟩ | with_reducible exact ⟨f0, f1, e0, e1⟩ | exact ⟨k0, k1, m0, m1⟩)
      ((go_at_call 36; refine (hS _ OD).mono ?_; rintro e wb ⟨rfl, bb⟩; have fb := Fr.ofBelow (lo := 0) (hi := 0) bb; have e0 := fb.cell m0 (.inr (Nat.zero_le _)); have e1 := fb.cell m1 (.inr (Nat.zero_le _)); have f0 := fb.cell k0 (.inr (Nat.zero_le _)); have f1 := fb.cell k1 (.inr (Nat.zero_le _)); have Bt1 : Below W.heap.size W wb := (below_drew (Below.refl _ _)).trans bb))
    all_goals (go_wp2_with fail; go_meet; exact ⟨rfl, rfl, Bt1⟩)
  case rest =>
  obtain ⟨rfl, rfl, hB⟩ := hcut
  have h2 := h1.below hB
  have o2 := oW.below zW hB
  have k1 := h2.rf.at_ 1 _ rfl
  have fz := h2.rf.fz 1
  have m0 := o2.at_ 0 _ rfl
  have m1 := o2.at_ 1 _ rfl
  have BA : Below b w wc := ((bW.trans (hB.mono bW.size)).mono (Nat.le_of_lt hbw))
  have hbc : b + 1 ≤ wc.heap.size := h2.lt
  obtain ⟨V, hV⟩ : ∃ V, wc.alloc (.cells #[.string x0, .string x1] 36) = V := ⟨_, rfl⟩
  have nw : V.drew.heap[wc.heap.size]? = some (.cells (ocells [(x0, x1)]).toArray 36 (0, 0)) := by rw [← hV, ocells_one]; exact heap_alloc_new wc _
  have bV : Below wc.heap.size wc V := by rw [← hV]; exact allocBelow _ _
  have h3 := h2.below bV
  have hII := hI wc.heap.size V.drew h3.own.drew nw (fun e => (by have h9 := (h2.own.lt _ e).2; omega)) h3.lt
  have BV : Below b w V := BA.trans (bV.mono (by omega))
  have R3 := h3.rf
  have zV := h3.lt
  have hvb : ∀ j, (Value.slice va l.length vc).ownBlock = some j → b + 1 ≤ j := fun j hj => (h3.own.lt j hj).1
  clear hS hI h h1 h2 h3 oW o2 bW zW hW hB BA nw bV k0
  go_wp2_with fail
  have hne : some b ≠ (Value.slice va l.length vc).ownBlock := fun e => absurd (hvb b e.symm) (by omega)
  have R3D : Rf V.drew b [.func (.func 35) #[] #[], .slice va l.length vc] := ⟨R3.at_, R3.fz⟩
  have BVD : Below b w V.drew := BV.drew
  have k1V := R3.at_ 1 _ rfl
  have fzV := R3.fz 1
  go_region_with (go_at_call 37; refine hII.mono ?_; rintro e w5 ⟨v5, rfl, o5, g5, _⟩; obtain ⟨ua, uc, rfl⟩ := shapeK3 o5; have R5 := rfGrew R3D g5 hne zV; have c5 := R5.at_ 1 _ rfl; have z5 := R5.fz 1)
  all_goals
    have z6 : b < w5.heap.size := Nat.lt_of_lt_of_le zV g5.size
    have R6 : Rf (w5.setCell ⟨b, 1, none⟩ (.slice ua (insL l p (x0, x1)).length uc)) b [.func (.func 35) #[] #[], .slice ua (insL l p (x0, x1)).length uc] := R5.set (o := 1) (by simp) _
    have o6 := o5.kept (grownSet w5 b 1 (.slice ua (insL l p (x0, x1)).length uc)) (blockCases _ _ fun j c1 c2 => by cases c2; have := (o5.lt _ c1).1; omega)
    have B6 : Below b w (w5.setCell ⟨b, 1, none⟩ (.slice ua (insL l p (x0, x1)).length uc)) := (BVD.grown g5 (Nat.le_of_lt zV) (fun j hj => by have := hvb j hj; omega)).setCell (p := ⟨b, 1, none⟩) (Nat.le_refl _) _
    have HF : Hid (AD b (insL l p (x0, x1)) w (.returned (.tuple #[])) (w5.setCell ⟨b, 1, none⟩ (.slice ua (insL l p (x0, x1)).length uc))) := ⟨rfl, ⟨_, R6, o6, by rw [World.size_setCell]; exact z6⟩, B6⟩
    clear R6 o6 B6 R5 o5 g5 c5 z5 R3 R3D BV BVD
    go_wp2
    refine bodyPost_end (results_none rfl _ _ _) rfl ?_
    exact HF.out
set_option maxRecDepth 20000 in
set_option maxHeartbeats 4000000 in
theorem addHitC (b : Nat) (l : List Ob) (v : Value) (E : Ob) (p : Nat) (w : World) (h : SL w b l v) (hn : l.length ≤ 1048575) (hl : Cuts l E p) (hpl : p < l.length) (hh : hit l E p = true) :
    Calls Try.prog 20 #[.pointer (some ⟨b, 0, none⟩), .agg #[.string E.1, .string E.2]] w fun e w' => AD b (l.set p E) w e w' := by
  obtain ⟨va, vc, rfl⟩ := shapeK3 h.own
  have hS := fun W q => searchC va vc l E p W q (by omega) hl
  simp only [hh] at hS
  clear hl hh
  obtain ⟨x0, x1⟩ := E
  simp only [] at hS ⊢
  obtain ⟨W, hW⟩ : ∃ W, w.alloc (.cells #[.string x0, .string x1] 36) = W := ⟨_, rfl⟩
  have bW : Below w.heap.size w W := by rw [← hW]; exact allocBelow _ _
  have oW : Rf W w.heap.size [.string x0, .string x1] := by rw [← hW]; exact Rf.new _ _ _
  have zW : w.heap.size < W.heap.size := by rw [← hW]; simp
  have h1 := h.below bW
  have k0 := h1.rf.at_ 0 _ rfl
  have k1 := h1.rf.at_ 1 _ rfl
  have m0 := oW.at_ 0 _ rfl
  have m1 := oW.at_ 1 _ rfl
  have hbw := h.lt
  go_enter Try.func20, Try.ntmps20
  go_wp2_with fail
  go_cut [4, 5] from 6 to 18 (fun s t wx => s = .int .i64 p ∧ t = .bool true ∧ Below W.heap.size W wx)
  case first =>
    have OD : OB W.drew.heap.size W.drew va l := OB.of h1.own
    clear h1 oW h hbw hW bW zW
    go_region_held (fun w' => w'.cell? ⟨b, 0, none⟩ = some (.func (.func 35) #[] #[]) ∧ w'.cell? ⟨b, 1, none⟩ = some (.slice va l.length vc) ∧ w'.cell? ⟨w.heap.size, 0, none⟩ = some (.string x0) ∧ w'.cell? ⟨w.heap.size, 1, none⟩ = some (.string x1)) (first | with_reducible exact ⟨k0, k1, m0, m1⟩ | with_reducible exact ⟨f0, f1, e0, e1⟩ | exact ⟨k0, k1, m0, m1⟩)
      ((go_at_call 36; refine (hS _ OD).mono ?_; rintro e wb ⟨rfl, bb⟩; have fb := Fr.ofBelow (lo := 0) (hi := 0) bb; have e0 := fb.cell m0 (.inr (Nat.zero_le _)); have e1 := fb.cell m1 (.inr (Nat.zero_le _)); have f0 := fb.cell k0 (.inr (Nat.zero_le _)); have f1 := fb.cell k1 (.inr (Nat.zero_le _)); have Bt1 : Below W.heap.size W wb := (below_drew (Below.refl _ _)).trans bb))
    all_goals (go_wp2_with fail; go_meet; exact ⟨rfl, rfl, Bt1⟩)
  case rest =>
  obtain ⟨rfl, rfl, hB⟩ := hcut
  have h2 := h1.below hB
  have o2 := oW.below zW hB
  have k1 := h2.rf.at_ 1 _ rfl
  have fz := h2.rf.fz 1
  have m0 := o2.at_ 0 _ rfl
  have m1 := o2.at_ 1 _ rfl
  have BA : Below b w wc := ((bW.trans (hB.mono bW.size)).mono (Nat.le_of_lt hbw))
  obtain ⟨r, rfl⟩ : ∃ r, va = some ⟨r, 0, none⟩ := by
    rcases h2.own.2 with ⟨_, h0⟩ | ⟨g, c, cur, e, _⟩
    · omega
    · simp only [Value.slice.injEq] at e
      exact ⟨g, e.1⟩
  have hr := h2.own.lt r rfl
  have hl2 : p * 2 < l.length * 2 := by omega
  have hl3 : p * 2 + 1 < l.length * 2 := by omega
  have c0 := h2.own.cellAt (p * 2) hl2
  have c1 := h2.own.cellAt (p * 2 + 1) hl3
  rw [ocells, rowG_at _ _ _ hl2] at c0
  rw [ocells, rowG_at _ _ _ hl3] at c1
  have f0 := h2.own.frozenAt (p * 2)
  have f1 := h2.own.frozenAt (p * 2 + 1)
  have s1 := h2.own.stored (p * 2) (.string x0)
  have s2 := s1.1.stored (p * 2 + 1) (.string x1)
  have qp : (p : Int) < (l.length : Int) := by omega
  have HF : ∀ W : World, W.heap = wc.heap → W.os = wc.os → W.tape = wc.tape → W.output = wc.output → Hid (AD b (l.set p (x0, x1)) w (.returned (.tuple #[])) ((W.setCell ⟨r, p * 2, none⟩ (.string x0)).setCell ⟨r, p * 2 + 1, none⟩ (.string x1))) := by
    intro W e1 e2 e3 e4
    have B0 : Below b w W := ⟨e2.trans BA.os, e3.trans BA.tape, e4.trans BA.output, by rw [e1]; exact BA.size, fun k hk => by rw [e1]; exact BA.block k hk⟩
    have oW : W.ownsRow (b + 1) 36 2 (.slice (some ⟨r, 0, none⟩) l.length vc) l.length (ocells l) := by
      refine ⟨h2.own.1, ?_⟩
      have h9 := h2.own.2
      rw [← e1] at h9
      exact h9
    have t1 := oW.stored (p * 2) (.string x0)
    have t2 := t1.1.stored (p * 2 + 1) (.string x1)
    have e := ocells_set l p (x0, x1) hpl
    simp only [] at e
    have o3 := t2.1
    rw [e] at o3
    have RW : Rf W b [.func (.func 35) #[] #[], .slice (some ⟨r, 0, none⟩) l.length vc] := ⟨fun k v hk => by unfold World.cell?; rw [e1]; exact h2.rf.at_ k v hk, fun k => by unfold World.frozen?; rw [e1]; exact h2.rf.fz k⟩
    have R1 := (RW.other (b' := r) (o := p * 2) (by omega) (.string x0)).other (b' := r) (o := p * 2 + 1) (by omega) (.string x1)
    refine ⟨rfl, ⟨_, R1, ?_, by rw [World.size_setCell, World.size_setCell, e1]; exact h2.lt⟩, (B0.setCell (p := ⟨r, p * 2, none⟩) (by show b ≤ r; omega) _).setCell (p := ⟨r, p * 2 + 1, none⟩) (by show b ≤ r; omega) _⟩
    rw [List.length_set]
    exact o3
  clear hS h h1 h2 oW o2 bW zW hW hB BA k0 s1 s2
  go_wp2_with fail
  go_region_law (fail)
  all_goals
    go_wp2
    refine bodyPost_end (results_none rfl _ _ _) rfl ?_
    first | exact (HF wc.drew rfl rfl rfl rfl).out | exact (HF wc rfl rfl rfl rfl).out
end Go.Proofs.Ytkeinpobngfioaa.Ru
/- A rule is learnt: the mathematics, and the program. No statement is proved here. -/
set_option linter.unusedVariables false
namespace Go.Proofs.Ytkeinpobngfioaa.Ru
open Go.ChangeShapes Go.WideShapes Go.ChangeAt Go.RowKit

/-- How many rules stand ahead of a text. -/
def plF (l : List Ob) (p : ByteArray) : Nat → Nat → Nat
  | 0, k => k
  | n + 1, k => if Op.bytesLess (l.getD k onil).1.toList p.toList then plF l p n (k + 1) else k
def pl (l : List Ob) (p : ByteArray) : Nat := plF l p l.length 0
theorem plF_go {l : List Ob} {p : ByteArray} {n k : Nat} (h : Op.bytesLess (l.getD k onil).1.toList p.toList = true) : plF l p (n + 1) k = plF l p n (k + 1) := by rw [plF, if_pos h]
theorem plF_stop {l : List Ob} {p : ByteArray} {n k : Nat} (h : Op.bytesLess (l.getD k onil).1.toList p.toList = false) : plF l p (n + 1) k = k := by rw [plF, if_neg (by rw [h]; simp)]
theorem plF_spec (l : List Ob) (p : ByteArray) : ∀ n k, k + n = l.length → k ≤ plF l p n k ∧ plF l p n k ≤ l.length ∧ (∀ j, k ≤ j → j < plF l p n k → Op.bytesLess (l.getD j onil).1.toList p.toList = true) ∧ (plF l p n k < l.length → Op.bytesLess (l.getD (plF l p n k) onil).1.toList p.toList = false) := by
  intro n
  induction n with
  | zero => intro k hk; exact ⟨Nat.le_refl _, by show k ≤ _; omega, fun j h1 h2 => absurd h2 (by show ¬ j < k; omega), fun h => absurd h (by show ¬ k < _; omega)⟩
  | succ n ih =>
    intro k hk
    cases hb : Op.bytesLess (l.getD k onil).1.toList p.toList with
    | true =>
      rw [plF_go hb]
      obtain ⟨h1, h2, h3, h4⟩ := ih (k + 1) (by omega)
      refine ⟨by omega, h2, fun j q1 q2 => ?_, h4⟩
      by_cases e : j = k
      · rw [e]; exact hb
      · exact h3 j (by omega) q2
    | false =>
      rw [plF_stop hb]
      exact ⟨Nat.le_refl _, by omega, fun j q1 q2 => absurd q2 (by omega), fun _ => hb⟩
theorem pl_le (l : List Ob) (p : ByteArray) : pl l p ≤ l.length := (plF_spec l p l.length 0 (by omega)).2.1
theorem cmR_lt (x y : Ob) : cmR x y < 0 ↔ Op.bytesLess x.1.toList y.1.toList = true := by
  rw [ByteArray.toList_eq, ByteArray.toList_eq, ← cmp_lt]
  unfold cmR
  simp
theorem pl_cuts {l : List Ob} (h0 : rf l = 0) (E : Ob) : Cuts l E (pl l E.1) := by
  obtain ⟨_, h2, h3, h4⟩ := plF_spec l E.1 l.length 0 (by omega)
  refine ⟨h2, fun k hk => (cmR_lt _ _).2 (h3 k (Nat.zero_le _) hk), fun k hk hl => ?_⟩
  have h5 := h4 (Nat.lt_of_le_of_lt hk hl)
  rcases Int.lt_or_le (cmR (l.getD k onil) E) 0 with q | q
  · exfalso
    have q2 := (cmR_lt _ _).1 q
    by_cases e : pl l E.1 = k
    · have h6 : Op.bytesLess (l.getD (pl l E.1) onil).1.toList E.1.toList = false := h5
      rw [e, q2] at h6; cases h6
    · have h7 := bl_trans _ _ _ (rises h0 (pl l E.1) k (by omega) hl) q2
      have h6 : Op.bytesLess (l.getD (pl l E.1) onil).1.toList E.1.toList = false := h5
      rw [h7] at h6; cases h6
  · exact q
theorem cmp_zero : ∀ a b : List UInt8, Lib.compareBytes a b = 0 → a = b
  | [], [], _ => rfl
  | [], _ :: _, h => by simp [Lib.compareBytes] at h
  | _ :: _, [], h => by simp [Lib.compareBytes] at h
  | x :: a, y :: b, h => by
    unfold Lib.compareBytes at h
    by_cases h1 : x < y
    · simp [h1] at h
    · by_cases h2 : y < x
      · simp [h1, h2] at h
      · have e : x = y := by
          apply UInt8.toNat_inj.1
          have a1 : ¬ x.toNat < y.toNat := h1
          have a2 : ¬ y.toNat < x.toNat := h2
          omega
        subst e
        simp only [h1, if_false] at h
        rw [cmp_zero a b h]
theorem cmp_self : ∀ a : List UInt8, Lib.compareBytes a a = 0
  | [] => rfl
  | x :: a => by
    unfold Lib.compareBytes
    have : ¬ x < x := by simp
    simp [this, cmp_self a]
theorem fdF_none {l : List Ob} {p : ByteArray} : ∀ n k, k + n = l.length → fdF l p n k = -1 → ∀ j, k ≤ j → j < l.length → ¬ (l.getD j onil).1 = p := by
  intro n
  induction n with
  | zero => intro k hk _ j h1 h2; omega
  | succ n ih =>
    intro k hk h j h1 h2
    by_cases e : (l.getD k onil).1 = p
    · rw [fdF_hit e] at h; omega
    · rw [fdF_miss e] at h
      by_cases q : j = k
      · rw [q]; exact e
      · exact ih (k + 1) (by omega) h j (by omega) h2
theorem fd_none {l : List Ob} {p : ByteArray} (h : fd l p = -1) : ∀ j, j < l.length → ¬ (l.getD j onil).1 = p := fun j hj => fdF_none l.length 0 (by omega) h j (Nat.zero_le _) hj
/-- Where the text stands already it is hit, and else it is not. -/
theorem pl_miss {l : List Ob} {E : Ob} (h : fd l E.1 = -1) : hit l E (pl l E.1) = false := by
  unfold hit
  by_cases hp : pl l E.1 < l.length
  · have hne := fd_none h _ hp
    have : ¬ cmR (l.getD (pl l E.1) onil) E = 0 := fun e => hne (by
      unfold cmR at e
      have := cmp_zero _ _ e
      apply ByteArray.ext
      exact Array.ext' this)
    rw [beq_eq_false_iff_ne.2 this, Bool.and_false]
  · simp [hp]
theorem pl_hit {l : List Ob} {E : Ob} {j : Nat} (h0 : rf l = 0) (h : fd l E.1 = (j : Int)) (hj : j < l.length) : pl l E.1 = j ∧ hit l E (pl l E.1) = true := by
  obtain ⟨q1, q2, q3⟩ := pl_cuts h0 E
  have e1 := fd_at h
  have hz : cmR (l.getD j onil) E = 0 := by unfold cmR; rw [e1]; exact cmp_self _
  have hle : pl l E.1 ≤ j := by
    rcases Nat.lt_or_ge j (pl l E.1) with q | q
    · have := q2 j q; omega
    · exact q
  have he : pl l E.1 = j := by
    by_cases e : pl l E.1 = j
    · exact e
    · exfalso
      have h1 := rises h0 (pl l E.1) j (by omega) hj
      have h2 := q3 (pl l E.1) (Nat.le_refl _) (by omega)
      have h3 : cmR (l.getD (pl l E.1) onil) E < 0 := (cmR_lt _ _).2 (by rw [e1] at h1; exact h1)
      omega
  refine ⟨he, ?_⟩
  unfold hit
  rw [he, hz]
  simp [hj]
/-- What LearnRule answers. -/
def lnC (l : List Ob) (p q : ByteArray) : Int := if rf l = 0 then (if okPre p = true then (if tf q = 0 then (if fd l p = -1 ∧ l.length = 40 then 2 else 0) else tf q) else 1) else rf l
def lnM (l : List Ob) (p q : ByteArray) : List Ob := if fd l p = -1 then insL l (pl l p) (p, q) else l.set (fd l p).toNat (p, q)
def lnL (l : List Ob) (p q : ByteArray) : List Ob := if rf l = 0 ∧ okPre p = true ∧ tf q = 0 ∧ ¬ (fd l p = -1 ∧ l.length = 40) then lnM l p q else []
theorem ln_ok {l : List Ob} {p q : ByteArray} (h0 : rf l = 0) (h1 : okPre p = true) (h2 : tf q = 0) (h3 : ¬ (fd l p = -1 ∧ l.length = 40)) : lnC l p q = 0 ∧ lnL l p q = lnM l p q := by
  unfold lnC lnL
  rw [if_pos h0, if_pos h1, if_pos h2, if_neg h3, if_pos ⟨h0, h1, h2, h3⟩]
  exact ⟨rfl, rfl⟩
theorem ln_many {l : List Ob} {p q : ByteArray} (h0 : rf l = 0) (h1 : okPre p = true) (h2 : tf q = 0) (h3 : fd l p = -1 ∧ l.length = 40) : lnC l p q = 2 ∧ lnL l p q = [] := by
  unfold lnC lnL
  rw [if_pos h0, if_pos h1, if_pos h2, if_pos h3, if_neg (fun c => c.2.2.2 h3)]
  exact ⟨rfl, rfl⟩
theorem ln_text {l : List Ob} {p q : ByteArray} (h0 : rf l = 0) (h1 : okPre p = true) (h2 : ¬ tf q = 0) : lnC l p q = tf q ∧ lnL l p q = [] := by
  unfold lnC lnL
  rw [if_pos h0, if_pos h1, if_neg h2, if_neg (fun c => h2 c.2.2.1)]
  exact ⟨rfl, rfl⟩
theorem ln_pre {l : List Ob} {p q : ByteArray} (h0 : rf l = 0) (h1 : okPre p = false) : lnC l p q = 1 ∧ lnL l p q = [] := by
  unfold lnC lnL
  rw [if_pos h0, if_neg (by rw [h1]; simp), if_neg (fun c => by rw [h1] at c; simp at c)]
  exact ⟨rfl, rfl⟩
theorem ln_bad {l : List Ob} {p q : ByteArray} (h0 : ¬ rf l = 0) : lnC l p q = rf l ∧ lnL l p q = [] := by
  unfold lnC lnL
  rw [if_neg h0, if_neg (fun c => h0 c.1)]
  exact ⟨rfl, rfl⟩
/-- add, wherever the element belongs. -/
theorem addC (b : Nat) (l : List Ob) (v : Value) (p q : ByteArray) (w : World) (h : SL w b l v) (h0 : rf l = 0) :
    Calls Try.prog 20 #[.pointer (some ⟨b, 0, none⟩), .agg #[.string p, .string q]] w fun e w' => AD b (lnM l p q) w e w' := by
  have hn := (rf_zero h0).1
  have hc := pl_cuts h0 (p, q)
  unfold lnM
  rcases fd_bd l p with hf | ⟨j, hf, hj⟩
  · rw [if_pos hf]
    have hm := pl_miss (E := (p, q)) hf
    by_cases hp : pl l p < l.length
    · exact addMidC b l v (p, q) (pl l p) w h (by omega) hc hp hm
    · have e : pl l p = l.length := by have := pl_le l p; omega
      have e2 : insL l (pl l p) (p, q) = l ++ [(p, q)] := by unfold insL; rw [e, List.take_length, List.drop_length]; simp
      rw [e2]
      refine addEndC b l v (p, q) w h (by omega) ?_
      rw [show ((p, q) : Ob).1 = p from rfl, e] at hc
      exact hc.2.1
  · rw [if_neg (by rw [hf]; omega), hf, Int.toNat_natCast]
    obtain ⟨e, hm⟩ := pl_hit (E := (p, q)) h0 hf hj
    rw [e] at hc hm
    exact addHitC b l v (p, q) j w h (by omega) hc hj hm
set_option maxRecDepth 20000 in
set_option maxHeartbeats 4000000 in
theorem implLearnRule (a : Option Addr) (c : Nat) (l : List Ob) (p q : ByteArray) (w : World) (h : OB w.heap.size w a l) (hs : SmallO l) (hn : l.length ≤ 1048576) (hp : p.size ≤ 1048576) (hq : q.size ≤ 1048576) :
    Calls Try.prog 6 #[.slice a l.length c, .string p, .string q] w fun e w' => RQ (lnC l p q) (lnL l p q) w e w' := by
  obtain ⟨b, hb⟩ : ∃ b, w.heap.size = b := ⟨_, rfl⟩
  obtain ⟨W1, hW1⟩ : ∃ W, w.alloc (.cells #[.int .i64 0, .slice none 0 0] 28) = W := ⟨_, rfl⟩
  have b1 : Below b w W1 := by rw [← hW1, ← hb]; exact allocBelow _ _
  have r1 : Rf W1 b [.int .i64 0, .slice none 0 0] := by rw [← hW1, ← hb]; exact Rf.new _ #[.int .i64 0, .slice none 0 0] _
  have z1 : W1.heap.size = b + 1 := by rw [← hW1, ← hb]; simp
  have h1 := (h.below (by rw [hb]; exact b1)).mono (B' := W1.heap.size) (by omega)
  have hR := implRulesFault a c l W1 h1 hs hn
  have hP := fun W => implPre p W hp
  have hT := fun W => implTextFault q W hq
  by_cases h0 : rf l = 0
  case neg =>
    have HR := ln_bad (p := p) (q := q) h0
    have HRR : Hid (lnC l p q = rf l ∧ lnL l p q = []) := HR
    have q : (rf l != 0) = true := by simpa using h0
    obtain ⟨R, hRe⟩ : ∃ R, rf l = R := ⟨_, rfl⟩
    rw [hRe] at hR q HRR
    clear h0 hRe HR hP hT
    go_enter Try.func6, Try.ntmps6
    go_wp2_with fail
    refine hR.mono ?_
    clear hR hW1
    rintro e w2 ⟨rfl, b2⟩
    have B2 : Below b w w2 := b1.trans (b2.mono (by omega))
    have r2 := r1.below (by omega) b2
    have d0 := r2.at_ 0 _ rfl
    have d1 := r2.at_ 1 _ rfl
    have f0 := r2.fz 0
    have f1 := r2.fz 1
    clear r2 r1 b2 b1 h1
    go_wp2
    refine bodyPost_ret (v := .agg #[.int .i64 R, .slice none 0 0]) (by simp [results, Try.results6, go_sem, d0, d1]) rfl ?_
    rw [HRR.out.1, HRR.out.2]
    exact rq0 (by rw [hb]; exact below_sets B2 (by omega) _ _)
  rw [h0] at hR
  have hl40 := (rf_zero h0).1
  go_enter Try.func6, Try.ntmps6
  go_wp2_with fail
  refine hR.mono ?_
  clear hR hW1
  rintro e w2 ⟨rfl, b2⟩
  have B2 : Below b w w2 := b1.trans (b2.mono (by omega))
  have z2 := b2.size
  have r2 := r1.below (by omega) b2
  have h2 := (h1.below b2).mono (B' := w2.heap.size) (by omega)
  clear h1 b2 b1 r1
  cases hpre : okPre p with
  | false =>
    have HRR : Hid (lnC l p q = 1 ∧ lnL l p q = []) := ln_pre h0 hpre
    rw [hpre] at hP
    have d0 := r2.at_ 0 _ rfl
    have d1 := r2.at_ 1 _ rfl
    have f0 := r2.fz 0
    have f1 := r2.fz 1
    clear r2 h2 h0 hpre hT
    go_wp2_with fail
    refine (hP _).mono ?_; rintro e W2 ⟨rfl, rfl⟩
    go_wp2
    refine bodyPost_ret (v := .agg #[.int .i64 1, .slice none 0 0]) (by simp [results, Try.results6, go_sem, d0, d1]) rfl ?_
    rw [HRR.out.1, HRR.out.2]
    exact rq0 (by rw [hb]; exact below_sets B2 (by omega) _ _)
  | true =>
  rw [hpre] at hP
  go_wp2_with fail
  refine (hP _).mono ?_; rintro e w2 ⟨rfl, rfl⟩
  clear hP
  by_cases ht : tf q = 0
  case neg =>
    have HRR : Hid (lnC l p q = tf q ∧ lnL l p q = []) := ln_text h0 hpre ht
    have hq2 : (tf q != 0) = true := by simpa using ht
    obtain ⟨R, hRe⟩ : ∃ R, tf q = R := ⟨_, rfl⟩
    rw [hRe] at hT hq2 HRR
    clear ht hRe
    go_wp2_with fail
    refine (hT _).mono ?_; rintro e w3 ⟨rfl, b3⟩
    have B3 : Below b w w3 := B2.trans (b3.mono (by omega))
    have r3 := r2.below (by omega) b3
    have d0 := r3.at_ 0 _ rfl
    have d1 := r3.at_ 1 _ rfl
    have f0 := r3.fz 0
    have f1 := r3.fz 1
    clear r3 r2 b3 B2 h2 h0 hT
    go_wp2
    refine bodyPost_ret (v := .agg #[.int .i64 R, .slice none 0 0]) (by simp [results, Try.results6, go_sem, d0, d1]) rfl ?_
    rw [HRR.out.1, HRR.out.2]
    exact rq0 (by rw [hb]; exact below_sets B3 (by omega) _ _)
  rw [ht] at hT
  go_wp2_with fail
  refine (hT _).mono ?_; rintro e w3 ⟨rfl, b3⟩
  have B3 : Below b w w3 := B2.trans (b3.mono (by omega))
  have z3 := b3.size
  have r3 := r2.below (by omega) b3
  have h3 := (h2.below b3).mono (B' := w3.heap.size) (by omega)
  clear hT b3 B2 r2 h2
  have hF := ruleAt a c l p w3 h3 hn
  by_cases hm : fd l p = -1 ∧ l.length = 40
  case pos =>
    have HRR : Hid (lnC l p q = 2 ∧ lnL l p q = []) := ln_many h0 hpre ht hm
    obtain ⟨hf, hl⟩ := hm
    rw [hf] at hF
    have ql : ((l.length : Int) == 40) = true := by rw [hl]; rfl
    have d0 := r3.at_ 0 _ rfl
    have d1 := r3.at_ 1 _ rfl
    have f0 := r3.fz 0
    have f1 := r3.fz 1
    clear r3 h3 h0 hf hl
    go_wp2_with fail
    refine hF.mono ?_; rintro e w3 ⟨rfl, rfl⟩
    go_wp2
    refine bodyPost_ret (v := .agg #[.int .i64 2, .slice none 0 0]) (by simp [results, Try.results6, go_sem, d0, d1]) rfl ?_
    rw [HRR.out.1, HRR.out.2]
    exact rq0 (by rw [hb]; exact below_sets B3 (by omega) _ _)
  have HRR : Hid (lnC l p q = 0 ∧ lnL l p q = lnM l p q) := ln_ok h0 hpre ht hm
  have hO := rulesOfC a c l w3 h3 hs (by omega) h0
  have hA := fun W B v (x : SL W B l v) => addC B l v p q W x h0
  obtain ⟨D, hD⟩ : ∃ D, fd l p = D := ⟨_, rfl⟩
  rw [hD] at hF hm
  have key : (D = -1 ∧ ((l.length : Int) == 40) = false) ∨ (D == -1) = false := by
    by_cases e : D = -1
    · exact .inl ⟨e, beq_eq_false_iff_ne.2 (fun c => hm ⟨e, by omega⟩)⟩
    · exact .inr (beq_eq_false_iff_ne.2 e)
  obtain ⟨g, hg⟩ : ∃ g, w3.heap.size = g := ⟨_, rfl⟩
  clear h0 hpre ht hm hD h3
  rcases key with ⟨rfl, ql⟩ | qd
  all_goals
    go_wp2_with fail
    refine hF.mono ?_; rintro e W3 ⟨rfl, rfl⟩
    clear hF
    go_wp2_with fail
    refine hO.mono ?_
    clear hO
    rintro e w4 ⟨rfl, ⟨v4, S4⟩, b4⟩
    have r4 := r3.below (by omega) b4
    have B4 : Below b w w4 := B3.trans (b4.mono (by omega))
    rw [hg] at S4
    have z4 := S4.lt
    have b5 := allocBelow w4 (.cells #[.string p] 9)
    have J1 := joined1 (w4.alloc (.cells #[.string p] 9)) w4.heap.size p (new0 _ _ _) hp
    clear r3 B3 b4
    go_wp2_with fail
    refine J1.mono ?_; rintro e w6 ⟨rfl, b6⟩
    have b46 : Below w4.heap.size w4 w6 := b5.trans (b6.mono b5.size)
    have r6 := r4.below (by omega) b46
    have B6 : Below b w w6 := B4.trans (b46.mono (by omega))
    have S6 := S4.below b46
    have z6 := S6.lt
    have b7 := allocBelow w6 (.cells #[.string q] 9)
    have J2 := joined1 (w6.alloc (.cells #[.string q] 9)) w6.heap.size q (new0 _ _ _) hq
    clear J1 r4 B4 b46 S4 b5 b6
    go_wp2_with fail
    refine J2.mono ?_; rintro e w8 ⟨rfl, b8⟩
    have b68 : Below w6.heap.size w6 w8 := b7.trans (b8.mono b7.size)
    have r8 := r6.below (by omega) b68
    have B8 : Below b w w8 := B6.trans (b68.mono (by omega))
    have S8 := S6.below b68
    have z8 := S8.lt
    have hA8 := hA w8 g v4 S8
    clear J2 r6 B6 b68 S6 b7 b8 hA
    go_wp2_with fail
    refine hA8.mono ?_
    clear hA8
    rintro e w9 ⟨rfl, ⟨v9, S9⟩, b9⟩
    obtain ⟨ua, uc, rfl⟩ := shapeK3 S9.own
    have B9 : Below b w w9 := B8.trans (b9.mono (by omega))
    have r9 : Rf w9 b [.int .i64 0, .slice none 0 0] := ⟨fun k v hk => (b9.cell (p := ⟨b, k, none⟩) (show b < g by omega)).trans (r8.at_ k v hk), fun k => (b9.frozen (p := ⟨b, k, none⟩) (show b < g by omega)).trans (r8.fz k)⟩
    have c9 := S9.rf.at_ 1 _ rfl
    have d0 := r9.at_ 0 _ rfl
    have d1 := r9.at_ 1 _ rfl
    have f0 := r9.fz 0
    have f1 := r9.fz 1
    obtain ⟨L, hL⟩ : ∃ L, lnM l p q = L := ⟨_, rfl⟩
    rw [hL] at S9 HRR c9
    have HQ : Hid (RQ 0 L w (.returned (.agg #[.int .i64 0, .slice ua L.length uc])) ((w9.setCell ⟨b, 0, none⟩ (.int .i64 0)).setCell ⟨b, 1, none⟩ (.slice ua L.length uc))) := by
      have o1 := S9.own.kept (grownSet w9 b 0 (.int .i64 0)) (blockCases _ _ fun i c1 c2 => by cases c2; have := (S9.own.lt _ c1).1; omega)
      have o2 := o1.kept (grownSet _ b 1 (.slice ua L.length uc)) (blockCases _ _ fun i c1 c2 => by cases c2; have := (S9.own.lt _ c1).1; omega)
      exact ⟨_, rfl, ownMonoR o2 (by omega), by rw [hb]; exact below_sets B9 (by omega) _ _⟩
    clear S9 r9 r8 B8 B9 b9 S8 hL
    go_wp2
    refine bodyPost_ret (v := .agg #[.int .i64 0, .slice ua L.length uc]) (by simp [results, Try.results6, go_sem, d0, d1]) rfl ?_
    rw [HRR.out.1, HRR.out.2]
    exact HQ.out
end Go.Proofs.Ytkeinpobngfioaa.Ru
