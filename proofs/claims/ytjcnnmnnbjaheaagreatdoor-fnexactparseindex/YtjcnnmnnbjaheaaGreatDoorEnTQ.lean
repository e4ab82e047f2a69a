/- The contracts of the laws' helpers over lists of entries (szEntryS, toEntryS, eqEntryS). No statement is proved here. -/
import Derived.Test.YtjcnnmnnbjaheaaGreatDoorRows
import Derived.Test.YtjcnnmnnbjaheaaGreatDoorLemQ
import Derived.Test.YtjcnnmnnbjaheaaGreatDoorDTabQ
import Derived.Test.YtjcnnmnnbjaheaaGreatDoorEnLQ
import Derived.WalkKit
import Derived.ProofKit
import Derived.Below
import Derived.WalkSpells
import Derived.Deep.QuietTactic
import Derived.BigQuiet
import Derived.Deep.RegionWith
import Derived.Test.YtjcnnmnnbjaheaaGreatDoorMarksQ
namespace Go.Proofs.YtjcnnmnnbjaheaaGreatDoor.En
open Go.ChangeShapes Go.WideShapes Go.ChangeAt Go.RowKit

theorem beqSelf (s : ByteArray) : (s.toList == s.toList) = true := beq_bytes_true rfl
set_option maxHeartbeats 1000000 in
theorem eqEntry (s t : ByteArray) (k k2 : Int) (w : World) :
    Calls Tryz.prog 65 #[.agg #[.string s, .int .i64 k, .int .i64 k2, .string t], .agg #[.string s, .int .i64 k, .int .i64 k2, .string t]] w fun e w' => e = .returned (.bool true) ∧ Below w.heap.size w w' := by
  have hb := beqSelf s
  have hc := beqSelf t
  go_enter Tryz.func65, Tryz.ntmps65
  go_wp2
  go_ret
  exact ⟨rfl, ((Below.refl _ _).alloc (Nat.le_refl _) _).alloc (by simp) _⟩
set_option maxRecDepth 20000 in
set_option maxHeartbeats 2000000 in
theorem eqEntryS (a1 a2 : Option Addr) (c1 c2 : Nat) (l : List Ob) (w : World) (h1 : OB w.heap.size w a1 l) (h2 : OB w.heap.size w a2 l) (hn : l.length ≤ 1048576) :
    Calls Tryz.prog 35 #[.slice a1 l.length c1, .slice a2 l.length c2] w fun e w' => e = .returned (.bool true) ∧ Below w.heap.size w w' := by
  have hl : ((l.length : Int) != (l.length : Int)) = false := by simp
  go_enter Tryz.func35, Tryz.ntmps35
  go_wp2
  go_loopw [5] (fun i wr => ∃ k : Nat, k ≤ l.length ∧ i = .int .i64 k ∧ Below w.heap.size w wr) (fun i _ => l.length - (intOf i).toNat)
  case atStart => exact ⟨0, Nat.zero_le _, rfl, Below.refl _ _⟩
  case round =>
    obtain ⟨k, hk, rfl, hbel⟩ := hrel
    have hsz := hbel.size
    by_cases hlt : k < l.length
    · have q : (k : Int) < (l.length : Int) := by omega
      obtain ⟨g, off, e, _, d0, d1, d2, d3⟩ := h1.below hbel k hlt
      obtain ⟨g', off', e', _, f0, f1, f2, f3⟩ := h2.below hbel k hlt
      subst e e'
      obtain ⟨C, hCe⟩ : ∃ C, l.getD k onil = C := ⟨_, rfl⟩
      obtain ⟨x0, x1, y1, x2⟩ := C
      rw [hCe] at d0 d1 d2 d3 f0 f1 f2 f3
      simp only [] at d0 d1 d2 d3 f0 f1 f2 f3
      clear hCe h1 h2
      go_wp2
      go_region_with (go_at_call 65; refine (eqEntry x0 x2 x1 y1 _).mono ?_; rintro e w' ⟨rfl, b⟩)
      all_goals
        have b' : Below wr.heap.size wr w' := (below_drew (Below.refl wr.heap.size wr)).trans b
        have HB : Hid (Below w.heap.size w w') := below_step hbel hsz b'
        clear d0 d1 d2 d3 f0 f1 f2 f3 b b' hbel
        go_wp2
        go_roundw
        case rel => exact ⟨k + 1, by omega, by go_num, by first | exact HB.out | exact below_drew HB.out | exact below_drewN' HB.out _⟩
        case measure => first | (simp [intOf]; omega) | simp [intOf]
    · have q : ¬ (k : Int) < (l.length : Int) := by omega
      go_wp2
      go_ret
      exact ⟨rfl, hbel⟩
end Go.Proofs.YtjcnnmnnbjaheaaGreatDoor.En
/- The contracts of the laws' helpers that mark lists of entries (markEntryS, heldEntryS). No statement is proved here. -/
namespace Go.Proofs.YtjcnnmnnbjaheaaGreatDoor.En
open Go.ChangeShapes Go.WideShapes Go.ChangeAt Go.RowKit

/-- Entries that are marks, from m on. -/
def mkO (m n : Nat) : List Ob := (List.range n).map fun j => (mtxt (m + 4 * j), ((m + 4 * j + 1 : Nat) : Int), ((m + 4 * j + 2 : Nat) : Int), mtxt (m + 4 * j + 3))
theorem mkO_length (m n : Nat) : (mkO m n).length = n := by simp [mkO]
theorem mkO_at (m n k : Nat) (h : k < n) : (mkO m n).getD k onil = (mtxt (m + 4 * k), ((m + 4 * k + 1 : Nat) : Int), ((m + 4 * k + 2 : Nat) : Int), mtxt (m + 4 * k + 3)) := by simp [mkO, List.getD, h]
def mixP (l : List Ob) (xs : List Value) (k j : Nat) : Value := if j < k * 4 then ocell l j else xs.getD j (.int .i64 0)
theorem mixP_zero (l : List Ob) (xs : List Value) : rowG (mixP l xs 0) xs.length = xs := by
  apply List.ext_getElem?
  intro j
  by_cases hj : j < xs.length
  · rw [rowG_at _ _ _ hj]
    unfold mixP
    rw [if_neg (by omega)]
    simp [List.getD, hj]
  · rw [List.getElem?_eq_none (by rw [rowG_length]; omega), List.getElem?_eq_none (by omega)]
theorem mixP_set (l : List Ob) (xs : List Value) (k m : Nat) :
    ((((rowG (mixP l xs k) m).set (k * 4) (.string (l.getD k onil).1)).set (k * 4 + 1) (.int .i64 (l.getD k onil).2.1)).set (k * 4 + 2) (.int .i64 (l.getD k onil).2.2.1)).set (k * 4 + 3) (.string (l.getD k onil).2.2.2) = rowG (mixP l xs (k + 1)) m := by
  rw [rowG_set, rowG_set, rowG_set, rowG_set]
  apply rowG_congr
  intro j _
  by_cases e3 : j = k * 4 + 3
  · rw [if_pos e3]; unfold mixP; rw [if_pos (by omega), e3, ocell3]
  · rw [if_neg e3]
    by_cases e2 : j = k * 4 + 2
    · rw [if_pos e2]; unfold mixP; rw [if_pos (by omega), e2, ocell2]
    · rw [if_neg e2]
      by_cases e1 : j = k * 4 + 1
      · rw [if_pos e1]; unfold mixP; rw [if_pos (by omega), e1, ocell1]
      · rw [if_neg e1]
        by_cases e0 : j = k * 4
        · rw [if_pos e0]; unfold mixP; rw [if_pos (by omega), e0, ocell0]
        · rw [if_neg e0]
          unfold mixP
          by_cases h : j < k * 4
          · rw [if_pos h, if_pos (by omega)]
          · have h1 : ¬ j < (k + 1) * 4 := by omega
            rw [if_neg h, if_neg h1]
theorem mixP_full (l : List Ob) (xs : List Value) : rowG (mixP l xs l.length) (l.length * 4) = ocells l := by
  apply rowG_congr
  intro j hj
  unfold mixP
  rw [if_pos hj]

set_option maxRecDepth 20000 in
set_option maxHeartbeats 2000000 in
theorem markEntryS (base : Nat) (a : Option Addr) (n cap m : Nat) (xs : List Value) (w : World) (h1 : 1 ≤ m) (h2 : m + 4 * n ≤ 8388608)
    (ho : w.ownsRow base 51 4 (.slice a n cap) n xs) :
    Calls Tryz.prog 36 #[.slice a n cap, .int .i64 m] w fun e w' => e = .returned (.int .i64 ((m + 4 * n : Nat) : Int)) ∧
      w'.ownsRow base 51 4 (.slice a n cap) n (ocells (mkO m n)) ∧ w.grownBy w' (Value.slice a n cap).ownBlock := by
  have hxl : xs.length = n * 4 := ho.1
  have hst := fun k => mixP_set (mkO m n) xs k (n * 4)
  have hz := mixP_zero (mkO m n) xs
  have hfull := mixP_full (mkO m n) xs
  rw [mkO_length] at hfull
  rw [hxl] at hz
  have hat := fun k h => mkO_at m n k h
  obtain ⟨L, hL⟩ : ∃ L, mkO m n = L := ⟨_, rfl⟩
  rw [hL] at hst hz hfull hat ⊢
  clear hL
  go_enter Tryz.func36, Tryz.ntmps36
  go_wp2
  go_loopw [1, 5] (fun t i wr => ∃ k : Nat, k ≤ n ∧ i = .int .i64 k ∧ t = .int .i64 ((m + 4 * k : Nat) : Int) ∧ wr.ownsRow base 51 4 (.slice a n cap) n (rowG (mixP L xs k) (n * 4)) ∧ w.grownBy wr (Value.slice a n cap).ownBlock) (fun _ i _ => n - (intOf i).toNat)
  case atStart => exact ⟨0, Nat.zero_le _, rfl, rfl, by rw [hz]; exact ho, World.grownBy.refl _ _⟩
  case round =>
    obtain ⟨k, hk, rfl, rfl, hor, hgr⟩ := hrel
    by_cases hlt : k < n
    · have q : (k : Int) < (n : Int) := by omega
      obtain ⟨g, rfl⟩ : ∃ g, a = some ⟨g, 0, none⟩ := by
        rcases hor.2 with ⟨h', h0⟩ | ⟨g, c, cur, h', _⟩
        · omega
        · simp only [Value.slice.injEq] at h'; exact ⟨g, h'.1⟩
      have hM0 := fun w => markText (m + 4 * k) (by omega) (by omega) w
      have hM2 := fun w => markText (m + 4 * k + 3) (by omega) (by omega) w
      have hs3 := hst k
      rw [hat k hlt] at hs3
      simp only [] at hs3
      obtain ⟨t0, ht0⟩ : ∃ t, mtxt (m + 4 * k) = t := ⟨_, rfl⟩
      obtain ⟨t2, ht2⟩ : ∃ t, mtxt (m + 4 * k + 3) = t := ⟨_, rfl⟩
      obtain ⟨M, hMe⟩ : ∃ M, m + 4 * k = M := ⟨_, rfl⟩
      rw [hMe] at hM0 hM2 ht0 ht2 hs3 ⊢
      rw [ht0] at hM0 hs3
      rw [ht2] at hM2 hs3
      have hMb : M + 4 ≤ 8388608 := by omega
      have HMe : Hid (m + 4 * (k + 1) = M + 4) := by show _ = _; omega
      have cc1 : ((M + 1 : Nat) : Int) = (M : Int) + 1 := by omega
      have cc2 : ((M + 2 : Nat) : Int) = (M : Int) + 1 + 1 := by omega
      rw [cc1, cc2] at hs3
      have HS3 : Hid (_ = _) := hs3
      clear ht0 ht2 hMe hst hat hs3 cc1 cc2
      have own1 : ∀ {w w' : World} {xs : List Value}, w.ownsRow base 51 4 (.slice (some ⟨g, 0, none⟩) n cap) n xs → Below w.heap.size w w' → w'.ownsRow base 51 4 (.slice (some ⟨g, 0, none⟩) n cap) n xs := fun h b => h.kept (grownOfBelow b none) (blockCases _ _ fun b c1 c2 => by cases c2)
      have hcell : ∀ {w : World} {xs : List Value}, w.ownsRow base 51 4 (.slice (some ⟨g, 0, none⟩) n cap) n xs → ∀ j, j < 4 → ∃ u, w.cell? ⟨g, k * 4 + j, none⟩ = some u := fun h j hj => by
        have hl := h.1
        rw [h.cellAt (k * 4 + j) (by omega), List.getElem?_eq_getElem (by omega)]; exact ⟨_, rfl⟩
      have own1H : Hid (∀ {w w' : World} {xs : List Value}, w.ownsRow base 51 4 (.slice (some ⟨g, 0, none⟩) n cap) n xs → Below w.heap.size w w' → w'.ownsRow base 51 4 (.slice (some ⟨g, 0, none⟩) n cap) n xs) := own1
      have hcellH : Hid (∀ {w : World} {xs : List Value}, w.ownsRow base 51 4 (.slice (some ⟨g, 0, none⟩) n cap) n xs → ∀ j, j < 4 → ∃ u, w.cell? ⟨g, k * 4 + j, none⟩ = some u) := hcell
      clear own1 hcell
      go_wp2_with fail
      refine (hM0 _).mono ?_; rintro e w1 ⟨rfl, b1⟩
      have o1 := own1H.out hor b1
      obtain ⟨u0, e0⟩ := hcellH.out o1 0 (by omega)
      rw [Nat.add_zero] at e0
      have f0 := o1.frozenAt (k * 4)
      have s0 := o1.stored (k * 4) (.string t0)
      have g0 := grownTrans (grownTrans hgr (grownOfBelow b1 _)) s0.2
      obtain ⟨u1, e1⟩ := hcellH.out s0.1 1 (by omega)
      have f1 := s0.1.frozenAt (k * 4 + 1)
      have s1 := s0.1.stored (k * 4 + 1) (.int .i64 ((M : Int) + 1))
      have g1 := grownTrans g0 s1.2
      obtain ⟨v1, r1⟩ := hcellH.out s1.1 2 (by omega)
      have p1 := s1.1.frozenAt (k * 4 + 2)
      have q1 := s1.1.stored (k * 4 + 2) (.int .i64 ((M : Int) + 1 + 1))
      have g11 := grownTrans g1 q1.2
      have S1 : Hid (World.ownsRow _ _ _ _ _ _ _) := q1.1
      have G1 : Hid (World.grownBy _ _ _) := g11
      clear hM0 hor hgr b1 o1 s0 g0 s1 g1 q1 g11
      go_wp2_with fail
      refine (hM2 _).mono ?_; rintro e w2 ⟨rfl, b2⟩
      have o2 := own1H.out S1.out b2
      obtain ⟨u2, e2⟩ := hcellH.out o2 3 (by omega)
      have f2 := o2.frozenAt (k * 4 + 3)
      have s2 := o2.stored (k * 4 + 3) (.string t2)
      have g2 := grownTrans (grownTrans G1.out (grownOfBelow b2 _)) s2.2
      have o3 := s2.1
      rw [HS3.out] at o3
      have S3 : Hid (World.ownsRow _ _ _ _ _ _ _) := o3
      have G3 : Hid (World.grownBy _ _ _) := g2
      clear hM2 S1 G1 b2 o2 s2 g2 o3 e0 f0 e1 f1 r1 p1 own1H hcellH
      go_wp2
      go_roundw
      case rel => exact ⟨k + 1, by omega, by go_num, by rw [HMe.out]; go_num, S3.out, G3.out⟩
      case measure => first | (simp [intOf]; omega) | simp [intOf]
    · have q : ¬ (k : Int) < (n : Int) := by omega
      obtain rfl : k = n := by omega
      rw [hfull] at hor
      clear hst hz hfull hat
      go_wp2
      go_ret
      exact ⟨rfl, hor, hgr⟩
end Go.Proofs.YtjcnnmnnbjaheaaGreatDoor.En
