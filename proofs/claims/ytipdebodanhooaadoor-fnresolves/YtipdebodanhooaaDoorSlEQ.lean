/- An entry is put in the midst of the program's sorted list. No statement is proved here. -/
import Derived.Test.YtipdebodanhooaaDoorRows
import Derived.Test.YtipdebodanhooaaDoorLemQ
import Derived.Test.YtipdebodanhooaaDoorDTabQ
import Derived.Test.YtipdebodanhooaaDoorHkTQ
import Derived.Test.YtipdebodanhooaaDoorWvCQ
import Derived.Test.YtipdebodanhooaaDoorFmCQ
import Derived.Test.YtipdebodanhooaaDoorFlLQ
import Derived.Test.YtipdebodanhooaaDoorEnLQ
import Derived.Test.YtipdebodanhooaaDoorIxMQ
import Derived.Test.YtipdebodanhooaaDoorIxOQ
import Derived.Test.YtipdebodanhooaaDoorSgCQ
import Derived.Test.YtipdebodanhooaaDoorSlBQ
import Derived.Test.YtipdebodanhooaaDoorCpKQ
import Derived.Test.YtipdebodanhooaaDoorInEQ
import Derived.WalkKit
import Derived.ProofKit
import Derived.Below
import Derived.WalkSpells
import Derived.Deep.QuietTactic
import Derived.BigQuiet
import Derived.Deep.RegionWith
import Derived.Deep.RegionHeld
import Derived.Deep.CutRange
import Derived.Maps.AppendAt
import Derived.Laws.Cover1
import Derived.Laws.BitsLemmas
set_option linter.unusedVariables false
namespace Go.Proofs.YtipdebodanhooaaDoor.En
open Go.ChangeShapes Go.WideShapes Go.ChangeAt Go.RowKit
/-- slices.Insert in the midst, whether there is room or not. -/
theorem insertMidC (base : Nat) (a : Option Addr) (c g i : Nat) (l : List Ob) (E : Ob) (w : World) (h : w.ownsRow base 62 4 (.slice a l.length c) l.length (ocells l)) (hi : i < l.length) (hn : l.length ≤ 1048576)
    (hE : w.heap[g]? = some (.cells (ocells [E]).toArray 62 (0, 0))) (hg : (Value.slice a l.length c).ownBlock ≠ some g) (hb : base ≤ w.heap.size) :
    Calls Tryd.prog 56 #[.slice a l.length c, .int .i64 i, .slice (some ⟨g, 0, none⟩) 1 1] w fun e w' => GE base (.slice a l.length c) (insL l i E) w e w' := by
  obtain ⟨b, rfl⟩ : ∃ b, a = some ⟨b, 0, none⟩ := by
    rcases h.2 with ⟨_, h0⟩ | ⟨b, c', cur, e, _⟩
    · omega
    · simp only [Value.slice.injEq] at e
      exact ⟨b, e.1⟩
  by_cases hr : l.length + 1 ≤ c
  · exact insertRoom base b c g i l E w h hi hn hr hE (fun e => hg (by rw [e]; rfl))
  · exact insertGrow base b c g i l E w h hi hn (by omega) hE hb
set_option maxRecDepth 20000 in
set_option maxHeartbeats 4000000 in
theorem addMidC (b : Nat) (l : List Ob) (v : Value) (E : Ob) (p : Nat) (w : World) (h : SL w b l v) (hn : l.length ≤ 1048575) (hl : Cuts l E p) (hpl : p < l.length) (hh : hit l E p = false) :
    Calls Tryd.prog 30 #[.pointer (some ⟨b, 0, none⟩), .agg #[.string E.1, .int .i64 E.2.1, .int .i64 E.2.2.1, .string E.2.2.2]] w fun e w' => AD b (insL l p E) w e w' := by
  obtain ⟨va, vc, rfl⟩ := shapeK3 h.own
  have hS := fun W q => searchC va vc l E p W q (by omega) hl
  simp only [hh] at hS
  have hI := fun g W q r s t => insertMidC (b + 1) va vc g p l E W q hpl (by omega) r s t
  clear hl hh
  obtain ⟨x0, x1, x2, x3⟩ := E
  simp only [] at hS hI ⊢
  obtain ⟨W, hW⟩ : ∃ W, w.alloc (.cells #[.string x0, .int .i64 x1, .int .i64 x2, .string x3] 62) = W := ⟨_, rfl⟩
  have bW : Below w.heap.size w W := by rw [← hW]; exact allocBelow _ _
  have oW : Rf W w.heap.size [.string x0, .int .i64 x1, .int .i64 x2, .string x3] := by rw [← hW]; exact Rf.new _ _ _
  have zW : w.heap.size < W.heap.size := by rw [← hW]; simp
  have h1 := h.below bW
  have k0 := h1.rf.at_ 0 _ rfl
  have k1 := h1.rf.at_ 1 _ rfl
  have m0 := oW.at_ 0 _ rfl
  have m1 := oW.at_ 1 _ rfl
  have m2 := oW.at_ 2 _ rfl
  have m3 := oW.at_ 3 _ rfl
  have hbw := h.lt
  go_enter Tryd.func30, Tryd.ntmps30
  go_wp2_with fail
  go_cut [4, 5] from 6 to 18 (fun s t wx => s = .int .i64 p ∧ t = .bool false ∧ Below W.heap.size W wx)
  case first =>
    have OD : OB W.drew.heap.size W.drew va l := OB.of h1.own
    clear hI h1 oW h hbw hW bW zW
    go_region_held (fun w' => w'.cell? ⟨b, 0, none⟩ = some (.func (.func 53) #[] #[]) ∧ w'.cell? ⟨b, 1, none⟩ = some (.slice va l.length vc) ∧ w'.cell? ⟨w.heap.size, 0, none⟩ = some (.string x0) ∧ w'.cell? ⟨w.heap.size, 1, none⟩ = some (.int .i64 x1) ∧ w'.cell? ⟨w.heap.size, 2, none⟩ = some (.int .i64 x2) ∧ w'.cell? ⟨w.heap.size, 3, none⟩ = some (.string x3)) (first | with_reducible exact ⟨k0, k1, m0, m1, m2, m3⟩ | with_reducible exact ⟨f0, f1, e0, e1, e2, e3⟩ | exact ⟨k0, k1, m0, m1, m2, m3⟩)
      ((go_at_call 55; refine (hS _ OD).mono ?_; rintro e wb ⟨rfl, bb⟩; have fb := Fr.ofBelow (lo := 0) (hi := 0) bb; have e0 := fb.cell m0 (.inr (Nat.zero_le _)); have e1 := fb.cell m1 (.inr (Nat.zero_le _)); have e2 := fb.cell m2 (.inr (Nat.zero_le _)); have e3 := fb.cell m3 (.inr (Nat.zero_le _)); have f0 := fb.cell k0 (.inr (Nat.zero_le _)); have f1 := fb.cell k1 (.inr (Nat.zero_le _)); have Bt1 : Below W.heap.size W wb := (below_drew (Below.refl _ _)).trans bb))
    all_goals (go_wp2_with fail; go_meet; exact ⟨rfl, rfl, Bt1⟩)
  case rest =>
  obtain ⟨rfl, rfl, hB⟩ := hcut
  have h2 := h1.below hB
  have o2 := oW.below zW hB
  have k1 := h2.rf.at_ 1 _ rfl
  have fz := h2.rf.fz 1
  have m0 := o2.at_ 0 _ rfl
  have m1 := o2.at_ 1 _ rfl
  have m2 := o2.at_ 2 _ rfl
  have m3 := o2.at_ 3 _ rfl
  have BA : Below b w wc := ((bW.trans (hB.mono bW.size)).mono (Nat.le_of_lt hbw))
  have hbc : b + 1 ≤ wc.heap.size := h2.lt
  obtain ⟨V, hV⟩ : ∃ V, wc.alloc (.cells #[.string x0, .int .i64 x1, .int .i64 x2, .string x3] 62) = V := ⟨_, rfl⟩
  have nw : V.drew.heap[wc.heap.size]? = some (.cells (ocells [(x0, x1, x2, x3)]).toArray 62 (0, 0)) := by rw [← hV, ocells_one]; exact heap_alloc_new wc _
  have bV : Below wc.heap.size wc V := by rw [← hV]; exact allocBelow _ _
  have h3 := h2.below bV
  have hII := hI wc.heap.size V.drew h3.own.drew nw (fun e => (by have h9 := (h2.own.lt _ e).2; omega)) h3.lt
  have BV : Below b w V := BA.trans (bV.mono (by omega))
  have R3 := h3.rf
  have zV := h3.lt
  have hvb : ∀ j, (Value.slice va l.length vc).ownBlock = some j → b + 1 ≤ j := fun j hj => (h3.own.lt j hj).1
  clear hS hI h h1 h2 h3 oW o2 bW zW hW hB BA nw bV k0
  go_wp2_with fail
  have hne : some b ≠ (Value.slice va l.length vc).ownBlock := fun e => absurd (hvb b e.symm) (by omega)
  have R3D : Rf V.drew b [.func (.func 53) #[] #[], .slice va l.length vc] := ⟨R3.at_, R3.fz⟩
  have BVD : Below b w V.drew := BV.drew
  have k1V := R3.at_ 1 _ rfl
  have fzV := R3.fz 1
  go_region_with (go_at_call 56; refine hII.mono ?_; rintro e w5 ⟨v5, rfl, o5, g5, _⟩; obtain ⟨ua, uc, rfl⟩ := shapeK3 o5; have R5 := rfGrew R3D g5 hne zV; have c5 := R5.at_ 1 _ rfl; have z5 := R5.fz 1)
  all_goals
    have z6 : b < w5.heap.size := Nat.lt_of_lt_of_le zV g5.size
    have R6 : Rf (w5.setCell ⟨b, 1, none⟩ (.slice ua (insL l p (x0, x1, x2, x3)).length uc)) b [.func (.func 53) #[] #[], .slice ua (insL l p (x0, x1, x2, x3)).length uc] := R5.set (o := 1) (by simp) _
    have o6 := o5.kept (grownSet w5 b 1 (.slice ua (insL l p (x0, x1, x2, x3)).length uc)) (blockCases _ _ fun j c1 c2 => by cases c2; have := (o5.lt _ c1).1; omega)
    have B6 : Below b w (w5.setCell ⟨b, 1, none⟩ (.slice ua (insL l p (x0, x1, x2, x3)).length uc)) := (BVD.grown g5 (Nat.le_of_lt zV) (fun j hj => by have := hvb j hj; omega)).setCell (p := ⟨b, 1, none⟩) (Nat.le_refl _) _
    have HF : Hid (AD b (insL l p (x0, x1, x2, x3)) w (.returned (.tuple #[])) (w5.setCell ⟨b, 1, none⟩ (.slice ua (insL l p (x0, x1, x2, x3)).length uc))) := ⟨rfl, ⟨_, R6, o6, by rw [World.size_setCell]; exact z6⟩, B6⟩
    clear R6 o6 B6 R5 o5 g5 c5 z5 R3 R3D BV BVD
    go_wp2
    refine bodyPost_end (results_none rfl _ _ _) rfl ?_
    exact HF.out
end Go.Proofs.YtipdebodanhooaaDoor.En
