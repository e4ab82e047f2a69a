/- The contracts of the laws' helpers that mark lists of files (markFileS, heldFileS). No statement is proved here. -/
import Derived.Test.YtaggjnaogmhfpaaDoorRows
import Derived.Test.YtaggjnaogmhfpaaDoorLemQ
import Derived.Test.YtaggjnaogmhfpaaDoorMarksQ
import Derived.Test.YtaggjnaogmhfpaaDoorDTabQ
import Derived.Test.YtaggjnaogmhfpaaDoorFlLQ
import Derived.WalkKit
import Derived.ProofKit
import Derived.Below
import Derived.WalkSpells
namespace Go.Proofs.YtaggjnaogmhfpaaDoor.Fl
open Go.ChangeShapes Go.WideShapes Go.ChangeAt Go.RowKit

/-- Files that are marks, from m on. -/
def mkO (m n : Nat) : List Ob := (List.range n).map fun j => (mtxt (m + 3 * j), ((m + 3 * j + 1 : Nat) : Int), mtxt (m + 3 * j + 2))
theorem mkO_length (m n : Nat) : (mkO m n).length = n := by simp [mkO]
theorem mkO_at (m n k : Nat) (h : k < n) : (mkO m n).getD k onil = (mtxt (m + 3 * k), ((m + 3 * k + 1 : Nat) : Int), mtxt (m + 3 * k + 2)) := by simp [mkO, List.getD, h]
def mixP (l : List Ob) (xs : List Value) (k j : Nat) : Value := if j < k * 3 then ocell l j else xs.getD j (.int .i64 0)
theorem mixP_zero (l : List Ob) (xs : List Value) : rowG (mixP l xs 0) xs.length = xs := by
  apply List.ext_getElem?
  intro j
  by_cases hj : j < xs.length
  · rw [rowG_at _ _ _ hj]
    unfold mixP
    rw [if_neg (by omega)]
    simp [List.getD, hj]
  · rw [List.getElem?_eq_none (by rw [rowG_length]; omega), List.getElem?_eq_none (by omega)]
theorem mixP_set (l : List Ob) (xs : List Value) (k m : Nat) :
    (((rowG (mixP l xs k) m).set (k * 3) (.string (l.getD k onil).1)).set (k * 3 + 1) (.int .i64 (l.getD k onil).2.1)).set (k * 3 + 2) (.string (l.getD k onil).2.2) = rowG (mixP l xs (k + 1)) m := by
  rw [rowG_set, rowG_set, rowG_set]
  apply rowG_congr
  intro j _
  by_cases e2 : j = k * 3 + 2
  · rw [if_pos e2]; unfold mixP; rw [if_pos (by omega), e2, ocell2]
  · rw [if_neg e2]
    by_cases e1 : j = k * 3 + 1
    · rw [if_pos e1]; unfold mixP; rw [if_pos (by omega), e1, ocell1]
    · rw [if_neg e1]
      by_cases e0 : j = k * 3
      · rw [if_pos e0]; unfold mixP; rw [if_pos (by omega), e0, ocell0]
      · rw [if_neg e0]
        unfold mixP
        by_cases h : j < k * 3
        · rw [if_pos h, if_pos (by omega)]
        · have h1 : ¬ j < (k + 1) * 3 := by omega
          rw [if_neg h, if_neg h1]
theorem mixP_full (l : List Ob) (xs : List Value) : rowG (mixP l xs l.length) (l.length * 3) = ocells l := by
  apply rowG_congr
  intro j hj
  unfold mixP
  rw [if_pos hj]

set_option maxRecDepth 20000 in
set_option maxHeartbeats 2000000 in
theorem markFileS (base : Nat) (a : Option Addr) (n cap m : Nat) (xs : List Value) (w : World) (h1 : 1 ≤ m) (h2 : m + 3 * n ≤ 4194304)
    (ho : w.ownsRow base 52 3 (.slice a n cap) n xs) :
    Calls Tryd.prog 11 #[.slice a n cap, .int .i64 m] w fun e w' => e = .returned (.int .i64 ((m + 3 * n : Nat) : Int)) ∧
      w'.ownsRow base 52 3 (.slice a n cap) n (ocells (mkO m n)) ∧ w.grownBy w' (Value.slice a n cap).ownBlock := by
  have hxl : xs.length = n * 3 := ho.1
  have hst := fun k => mixP_set (mkO m n) xs k (n * 3)
  have hz := mixP_zero (mkO m n) xs
  have hfull := mixP_full (mkO m n) xs
  rw [mkO_length] at hfull
  rw [hxl] at hz
  have hat := fun k h => mkO_at m n k h
  obtain ⟨L, hL⟩ : ∃ L, mkO m n = L := ⟨_, rfl⟩
  rw [hL] at hst hz hfull hat ⊢
  clear hL
  go_enter Tryd.func11, Tryd.ntmps11
  go_wp2
  go_loopw [1, 5] (fun t i wr => ∃ k : Nat, k ≤ n ∧ i = .int .i64 k ∧ t = .int .i64 ((m + 3 * k : Nat) : Int) ∧ wr.ownsRow base 52 3 (.slice a n cap) n (rowG (mixP L xs k) (n * 3)) ∧ w.grownBy wr (Value.slice a n cap).ownBlock) (fun _ i _ => n - (intOf i).toNat)
  case atStart => exact ⟨0, Nat.zero_le _, rfl, rfl, by rw [hz]; exact ho, World.grownBy.refl _ _⟩
  case round =>
    obtain ⟨k, hk, rfl, rfl, hor, hgr⟩ := hrel
    by_cases hlt : k < n
    · have q : (k : Int) < (n : Int) := by omega
      obtain ⟨g, rfl⟩ : ∃ g, a = some ⟨g, 0, none⟩ := by
        rcases hor.2 with ⟨h', h0⟩ | ⟨g, c, cur, h', _⟩
        · omega
        · simp only [Value.slice.injEq] at h'; exact ⟨g, h'.1⟩
      have hM0 := fun w => markText (m + 3 * k) (by omega) (by omega) w
      have hM2 := fun w => markText (m + 3 * k + 2) (by omega) (by omega) w
      have hs3 := hst k
      rw [hat k hlt] at hs3
      simp only [] at hs3
      obtain ⟨t0, ht0⟩ : ∃ t, mtxt (m + 3 * k) = t := ⟨_, rfl⟩
      obtain ⟨t2, ht2⟩ : ∃ t, mtxt (m + 3 * k + 2) = t := ⟨_, rfl⟩
      obtain ⟨M, hMe⟩ : ∃ M, m + 3 * k = M := ⟨_, rfl⟩
      rw [hMe] at hM0 hM2 ht0 ht2 hs3 ⊢
      rw [ht0] at hM0 hs3
      rw [ht2] at hM2 hs3
      have hMb : M + 2 ≤ 4194304 := by omega
      have HMe : Hid (m + 3 * (k + 1) = M + 3) := by show _ = _; omega
      have HS3 : Hid (_ = _) := hs3
      clear ht0 ht2 hMe hst hat hs3
      have own1 : ∀ {w w' : World} {xs : List Value}, w.ownsRow base 52 3 (.slice (some ⟨g, 0, none⟩) n cap) n xs → Below w.heap.size w w' → w'.ownsRow base 52 3 (.slice (some ⟨g, 0, none⟩) n cap) n xs := fun h b => h.kept (grownOfBelow b none) (blockCases _ _ fun b c1 c2 => by cases c2)
      have hcell : ∀ {w : World} {xs : List Value}, w.ownsRow base 52 3 (.slice (some ⟨g, 0, none⟩) n cap) n xs → ∀ j, j < 3 → ∃ u, w.cell? ⟨g, k * 3 + j, none⟩ = some u := fun h j hj => by
        have hl := h.1
        rw [h.cellAt (k * 3 + j) (by omega), List.getElem?_eq_getElem (by omega)]; exact ⟨_, rfl⟩
      have own1H : Hid (∀ {w w' : World} {xs : List Value}, w.ownsRow base 52 3 (.slice (some ⟨g, 0, none⟩) n cap) n xs → Below w.heap.size w w' → w'.ownsRow base 52 3 (.slice (some ⟨g, 0, none⟩) n cap) n xs) := own1
      have hcellH : Hid (∀ {w : World} {xs : List Value}, w.ownsRow base 52 3 (.slice (some ⟨g, 0, none⟩) n cap) n xs → ∀ j, j < 3 → ∃ u, w.cell? ⟨g, k * 3 + j, none⟩ = some u) := hcell
      clear own1 hcell
      go_wp2_with fail
      refine (hM0 _).mono ?_; rintro e w1 ⟨rfl, b1⟩
      have o1 := own1H.out hor b1
      obtain ⟨u0, e0⟩ := hcellH.out o1 0 (by omega)
      rw [Nat.add_zero] at e0
      have f0 := o1.frozenAt (k * 3)
      have s0 := o1.stored (k * 3) (.string t0)
      have g0 := grownTrans (grownTrans hgr (grownOfBelow b1 _)) s0.2
      obtain ⟨u1, e1⟩ := hcellH.out s0.1 1 (by omega)
      have f1 := s0.1.frozenAt (k * 3 + 1)
      have s1 := s0.1.stored (k * 3 + 1) (.int .i64 ((M + 1 : Nat) : Int))
      have g1 := grownTrans g0 s1.2
      have S1 : Hid (World.ownsRow _ _ _ _ _ _ _) := s1.1
      have G1 : Hid (World.grownBy _ _ _) := g1
      clear hM0 hor hgr b1 o1 s0 g0 s1 g1
      go_wp2_with fail
      refine (hM2 _).mono ?_; rintro e w2 ⟨rfl, b2⟩
      have o2 := own1H.out S1.out b2
      obtain ⟨u2, e2⟩ := hcellH.out o2 2 (by omega)
      have f2 := o2.frozenAt (k * 3 + 2)
      have s2 := o2.stored (k * 3 + 2) (.string t2)
      have g2 := grownTrans (grownTrans G1.out (grownOfBelow b2 _)) s2.2
      have o3 := s2.1
      rw [HS3.out] at o3
      have S3 : Hid (World.ownsRow _ _ _ _ _ _ _) := o3
      have G3 : Hid (World.grownBy _ _ _) := g2
      clear hM2 S1 G1 b2 o2 s2 g2 o3 e0 f0 e1 f1 own1H hcellH
      go_wp2
      go_roundw
      case rel => exact ⟨k + 1, by omega, by go_num, by rw [HMe.out]; go_num, S3.out, G3.out⟩
      case measure => first | (simp [intOf]; omega) | simp [intOf]
    · have q : ¬ (k : Int) < (n : Int) := by omega
      obtain rfl : k = n := by omega
      rw [hfull] at hor
      clear hst hz hfull hat
      go_wp2
      go_ret
      exact ⟨rfl, hor, hgr⟩
end Go.Proofs.YtaggjnaogmhfpaaDoor.Fl
