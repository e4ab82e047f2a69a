/- The contracts of the laws' helpers that mark lists of deltas (markDeltaS, heldDeltaS). No statement is proved here. -/
import Derived.Test.YtaggjnaogmhfpaaDoorRows
import Derived.Test.YtaggjnaogmhfpaaDoorLemQ
import Derived.Test.YtaggjnaogmhfpaaDoorMarksQ
import Derived.Test.YtaggjnaogmhfpaaDoorDTabQ
import Derived.Test.YtaggjnaogmhfpaaDoorDlLQ
import Derived.WalkKit
import Derived.ProofKit
import Derived.Below
import Derived.WalkSpells
namespace Go.Proofs.YtaggjnaogmhfpaaDoor.Dl
open Go.ChangeShapes Go.WideShapes Go.ChangeAt Go.RowKit

/-- Deltas that are marks, from m on. -/
def mkO (m n : Nat) : List Ob := (List.range n).map fun j => (mtxt (m + 7 * j), (mtxt (m + 7 * j + 1), ((m + 7 * j + 2 : Nat) : Int), mtxt (m + 7 * j + 3)), (mtxt (m + 7 * j + 4), ((m + 7 * j + 5 : Nat) : Int), mtxt (m + 7 * j + 6)))
theorem mkO_length (m n : Nat) : (mkO m n).length = n := by simp [mkO]
theorem mkO_at (m n k : Nat) (h : k < n) : (mkO m n).getD k onil = (mtxt (m + 7 * k), (mtxt (m + 7 * k + 1), ((m + 7 * k + 2 : Nat) : Int), mtxt (m + 7 * k + 3)), (mtxt (m + 7 * k + 4), ((m + 7 * k + 5 : Nat) : Int), mtxt (m + 7 * k + 6))) := by simp [mkO, List.getD, h]
def mixP (l : List Ob) (xs : List Value) (k j : Nat) : Value := if j < k * 7 then ocell l j else xs.getD j (.int .i64 0)
theorem mixP_zero (l : List Ob) (xs : List Value) : rowG (mixP l xs 0) xs.length = xs := by
  apply List.ext_getElem?
  intro j
  by_cases hj : j < xs.length
  · rw [rowG_at _ _ _ hj]
    unfold mixP
    rw [if_neg (by omega)]
    simp [List.getD, hj]
  · rw [List.getElem?_eq_none (by rw [rowG_length]; omega), List.getElem?_eq_none (by omega)]
theorem mixP_set (l : List Ob) (xs : List Value) (k m : Nat) :
    ((((((((rowG (mixP l xs k) m).set (k * 7) (.string (l.getD k onil).1)).set (k * 7 + 1) (.string (l.getD k onil).2.1.1)).set (k * 7 + 2) (.int .i64 (l.getD k onil).2.1.2.1)).set (k * 7 + 3) (.string (l.getD k onil).2.1.2.2)).set (k * 7 + 4) (.string (l.getD k onil).2.2.1)).set (k * 7 + 5) (.int .i64 (l.getD k onil).2.2.2.1)).set (k * 7 + 6) (.string (l.getD k onil).2.2.2.2)) = rowG (mixP l xs (k + 1)) m := by
  rw [rowG_set, rowG_set, rowG_set, rowG_set, rowG_set, rowG_set, rowG_set]
  apply rowG_congr
  intro j _
  by_cases e6 : j = k * 7 + 6
  · rw [if_pos e6]; unfold mixP; rw [if_pos (by omega), e6, ocell6]
  · rw [if_neg e6]
    by_cases e5 : j = k * 7 + 5
    · rw [if_pos e5]; unfold mixP; rw [if_pos (by omega), e5, ocell5]
    · rw [if_neg e5]
      by_cases e4 : j = k * 7 + 4
      · rw [if_pos e4]; unfold mixP; rw [if_pos (by omega), e4, ocell4]
      · rw [if_neg e4]
        by_cases e3 : j = k * 7 + 3
        · rw [if_pos e3]; unfold mixP; rw [if_pos (by omega), e3, ocell3]
        · rw [if_neg e3]
          by_cases e2 : j = k * 7 + 2
          · rw [if_pos e2]; unfold mixP; rw [if_pos (by omega), e2, ocell2]
          · rw [if_neg e2]
            by_cases e1 : j = k * 7 + 1
            · rw [if_pos e1]; unfold mixP; rw [if_pos (by omega), e1, ocell1]
            · rw [if_neg e1]
              by_cases e0 : j = k * 7
              · rw [if_pos e0]; unfold mixP; rw [if_pos (by omega), e0, ocell0]
              · rw [if_neg e0]
                unfold mixP
                by_cases h : j < k * 7
                · rw [if_pos h, if_pos (by omega)]
                · have h1 : ¬ j < (k + 1) * 7 := by omega
                  rw [if_neg h, if_neg h1]
theorem mixP_full (l : List Ob) (xs : List Value) : rowG (mixP l xs l.length) (l.length * 7) = ocells l := by
  apply rowG_congr
  intro j hj
  unfold mixP
  rw [if_pos hj]

set_option maxRecDepth 20000 in
set_option maxHeartbeats 8000000 in
theorem markDeltaS (base : Nat) (a : Option Addr) (n cap m : Nat) (xs : List Value) (w : World) (h1 : 1 ≤ m) (h2 : m + 7 * n ≤ 8388608)
    (ho : w.ownsRow base 55 7 (.slice a n cap) n xs) :
    Calls Tryd.prog 20 #[.slice a n cap, .int .i64 m] w fun e w' => e = .returned (.int .i64 ((m + 7 * n : Nat) : Int)) ∧
      w'.ownsRow base 55 7 (.slice a n cap) n (ocells (mkO m n)) ∧ w.grownBy w' (Value.slice a n cap).ownBlock := by
  have hxl : xs.length = n * 7 := ho.1
  have hst := fun k => mixP_set (mkO m n) xs k (n * 7)
  have hz := mixP_zero (mkO m n) xs
  have hfull := mixP_full (mkO m n) xs
  rw [mkO_length] at hfull
  rw [hxl] at hz
  have hat := fun k h => mkO_at m n k h
  obtain ⟨L, hL⟩ : ∃ L, mkO m n = L := ⟨_, rfl⟩
  rw [hL] at hst hz hfull hat ⊢
  clear hL
  go_enter Tryd.func20, Tryd.ntmps20
  go_wp2
  go_loopw [1, 5] (fun t i wr => ∃ k : Nat, k ≤ n ∧ i = .int .i64 k ∧ t = .int .i64 ((m + 7 * k : Nat) : Int) ∧ wr.ownsRow base 55 7 (.slice a n cap) n (rowG (mixP L xs k) (n * 7)) ∧ w.grownBy wr (Value.slice a n cap).ownBlock) (fun _ i _ => n - (intOf i).toNat)
  case atStart => exact ⟨0, Nat.zero_le _, rfl, rfl, by rw [hz]; exact ho, World.grownBy.refl _ _⟩
  case round =>
    obtain ⟨k, hk, rfl, rfl, hor, hgr⟩ := hrel
    by_cases hlt : k < n
    · have q : (k : Int) < (n : Int) := by omega
      obtain ⟨g, rfl⟩ : ∃ g, a = some ⟨g, 0, none⟩ := by
        rcases hor.2 with ⟨h', h0⟩ | ⟨g, c, cur, h', _⟩
        · omega
        · simp only [Value.slice.injEq] at h'; exact ⟨g, h'.1⟩
      have hM0 := fun w => markText (m + 7 * k) (by omega) (by omega) w
      have hM1 := fun w => markText (m + 7 * k + 1) (by omega) (by omega) w
      have hM3 := fun w => markText (m + 7 * k + 3) (by omega) (by omega) w
      have hM4 := fun w => markText (m + 7 * k + 4) (by omega) (by omega) w
      have hM6 := fun w => markText (m + 7 * k + 6) (by omega) (by omega) w
      have hs3 := hst k
      rw [hat k hlt] at hs3
      simp only [] at hs3
      obtain ⟨t0, ht0⟩ : ∃ t, mtxt (m + 7 * k) = t := ⟨_, rfl⟩
      obtain ⟨t1, ht1⟩ : ∃ t, mtxt (m + 7 * k + 1) = t := ⟨_, rfl⟩
      obtain ⟨t3, ht3⟩ : ∃ t, mtxt (m + 7 * k + 3) = t := ⟨_, rfl⟩
      obtain ⟨t4, ht4⟩ : ∃ t, mtxt (m + 7 * k + 4) = t := ⟨_, rfl⟩
      obtain ⟨t6, ht6⟩ : ∃ t, mtxt (m + 7 * k + 6) = t := ⟨_, rfl⟩
      obtain ⟨M, hMe⟩ : ∃ M, m + 7 * k = M := ⟨_, rfl⟩
      rw [hMe] at hM0 hM1 hM3 hM4 hM6 ht0 ht1 ht3 ht4 ht6 hs3 ⊢
      rw [ht0] at hM0 hs3
      rw [ht1] at hM1 hs3
      rw [ht3] at hM3 hs3
      rw [ht4] at hM4 hs3
      rw [ht6] at hM6 hs3
      have hMb : M + 7 ≤ 8388608 := by omega
      have HMe : Hid (m + 7 * (k + 1) = M + 7) := by show _ = _; omega
      have cc2 : ((M + 2 : Nat) : Int) = (M : Int) + 1 + 1 := by omega
      have cc5 : ((M + 5 : Nat) : Int) = (M : Int) + 1 + 1 + 1 + 1 + 1 := by omega
      rw [cc2, cc5] at hs3
      have HS3 : Hid (_ = _) := hs3
      clear ht0 ht1 ht3 ht4 ht6 hMe hst hat hs3 cc2 cc5
      have own1 : ∀ {w w' : World} {xs : List Value}, w.ownsRow base 55 7 (.slice (some ⟨g, 0, none⟩) n cap) n xs → Below w.heap.size w w' → w'.ownsRow base 55 7 (.slice (some ⟨g, 0, none⟩) n cap) n xs := fun h b => h.kept (grownOfBelow b none) (blockCases _ _ fun b c1 c2 => by cases c2)
      have hcell : ∀ {w : World} {xs : List Value}, w.ownsRow base 55 7 (.slice (some ⟨g, 0, none⟩) n cap) n xs → ∀ j, j < 7 → ∃ u, w.cell? ⟨g, k * 7 + j, none⟩ = some u := fun h j hj => by
        have hl := h.1
        rw [h.cellAt (k * 7 + j) (by omega), List.getElem?_eq_getElem (by omega)]; exact ⟨_, rfl⟩
      have own1H : Hid (∀ {w w' : World} {xs : List Value}, w.ownsRow base 55 7 (.slice (some ⟨g, 0, none⟩) n cap) n xs → Below w.heap.size w w' → w'.ownsRow base 55 7 (.slice (some ⟨g, 0, none⟩) n cap) n xs) := own1
      have hcellH : Hid (∀ {w : World} {xs : List Value}, w.ownsRow base 55 7 (.slice (some ⟨g, 0, none⟩) n cap) n xs → ∀ j, j < 7 → ∃ u, w.cell? ⟨g, k * 7 + j, none⟩ = some u) := hcell
      clear own1 hcell
      go_wp2_with fail
      refine (hM0 _).mono ?_; rintro e w0 ⟨rfl, b0⟩
      have o0 := own1H.out hor b0
      obtain ⟨u0, e0⟩ := hcellH.out o0 0 (by omega)
      rw [Nat.add_zero] at e0
      have f0 := o0.frozenAt (k * 7)
      have s0 := o0.stored (k * 7) (.string t0)
      have g0 := grownTrans (grownTrans hgr (grownOfBelow b0 _)) s0.2
      have S0 : Hid (World.ownsRow _ _ _ _ _ _ _) := s0.1
      have G0 : Hid (World.grownBy _ _ _) := g0
      clear hM0 hor hgr b0 o0 s0 g0 
      go_wp2_with fail
      refine (hM1 _).mono ?_; rintro e w1 ⟨rfl, b1⟩
      have o1 := own1H.out S0.out b1
      obtain ⟨u1, e1⟩ := hcellH.out o1 1 (by omega)
      have f1 := o1.frozenAt (k * 7 + 1)
      have s1 := o1.stored (k * 7 + 1) (.string t1)
      have g1 := grownTrans (grownTrans G0.out (grownOfBelow b1 _)) s1.2
      obtain ⟨u2, e2⟩ := hcellH.out s1.1 2 (by omega)
      have f2 := s1.1.frozenAt (k * 7 + 2)
      have s2 := s1.1.stored (k * 7 + 2) (.int .i64 ((M : Int) + 1 + 1))
      have g2 := grownTrans (g1) s2.2
      have S1 : Hid (World.ownsRow _ _ _ _ _ _ _) := s2.1
      have G1 : Hid (World.grownBy _ _ _) := g2
      clear hM1 S0 G0 b1 o1 s1 g1 s2 g2 e0 f0
      go_wp2_with fail
      refine (hM3 _).mono ?_; rintro e w3 ⟨rfl, b3⟩
      have o3 := own1H.out S1.out b3
      obtain ⟨u3, e3⟩ := hcellH.out o3 3 (by omega)
      have f3 := o3.frozenAt (k * 7 + 3)
      have s3 := o3.stored (k * 7 + 3) (.string t3)
      have g3 := grownTrans (grownTrans G1.out (grownOfBelow b3 _)) s3.2
      have S3 : Hid (World.ownsRow _ _ _ _ _ _ _) := s3.1
      have G3 : Hid (World.grownBy _ _ _) := g3
      clear hM3 S1 G1 b3 o3 s3 g3 e1 f1 e2 f2
      go_wp2_with fail
      refine (hM4 _).mono ?_; rintro e w4 ⟨rfl, b4⟩
      have o4 := own1H.out S3.out b4
      obtain ⟨u4, e4⟩ := hcellH.out o4 4 (by omega)
      have f4 := o4.frozenAt (k * 7 + 4)
      have s4 := o4.stored (k * 7 + 4) (.string t4)
      have g4 := grownTrans (grownTrans G3.out (grownOfBelow b4 _)) s4.2
      obtain ⟨u5, e5⟩ := hcellH.out s4.1 5 (by omega)
      have f5 := s4.1.frozenAt (k * 7 + 5)
      have s5 := s4.1.stored (k * 7 + 5) (.int .i64 ((M : Int) + 1 + 1 + 1 + 1 + 1))
      have g5 := grownTrans (g4) s5.2
      have S4 : Hid (World.ownsRow _ _ _ _ _ _ _) := s5.1
      have G4 : Hid (World.grownBy _ _ _) := g5
      clear hM4 S3 G3 b4 o4 s4 g4 s5 g5 e3 f3
      go_wp2_with fail
      refine (hM6 _).mono ?_; rintro e w6 ⟨rfl, b6⟩
      have o6 := own1H.out S4.out b6
      obtain ⟨u6, e6⟩ := hcellH.out o6 6 (by omega)
      have f6 := o6.frozenAt (k * 7 + 6)
      have s6 := o6.stored (k * 7 + 6) (.string t6)
      have g6 := grownTrans (grownTrans G4.out (grownOfBelow b6 _)) s6.2
      have o9 := s6.1
      rw [HS3.out] at o9
      have S9 : Hid (World.ownsRow _ _ _ _ _ _ _) := o9
      have G9 : Hid (World.grownBy _ _ _) := g6
      clear hM6 S4 G4 b6 o6 s6 g6 o9 e4 f4 e5 f5 own1H hcellH
      go_wp2
      go_roundw
      case rel => exact ⟨k + 1, by omega, by go_num, by rw [HMe.out]; go_num, S9.out, G9.out⟩
      case measure => first | (simp [intOf]; omega) | simp [intOf]
    · have q : ¬ (k : Int) < (n : Int) := by omega
      obtain rfl : k = n := by omega
      rw [hfull] at hor
      clear hst hz hfull hat
      go_wp2
      go_ret
      exact ⟨rfl, hor, hgr⟩
end Go.Proofs.YtaggjnaogmhfpaaDoor.Dl
