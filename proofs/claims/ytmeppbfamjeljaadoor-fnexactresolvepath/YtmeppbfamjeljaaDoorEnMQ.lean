/- The contracts of the laws' helpers that mark lists of entries (markEntryS, heldEntryS). No statement is proved here. -/
import Derived.Test.YtmeppbfamjeljaaDoorRows
import Derived.Test.YtmeppbfamjeljaaDoorLemQ
import Derived.Test.YtmeppbfamjeljaaDoorMarksQ
import Derived.Test.YtmeppbfamjeljaaDoorDTabQ
import Derived.Test.YtmeppbfamjeljaaDoorEnLQ
import Derived.WalkKit
import Derived.ProofKit
import Derived.Below
import Derived.WalkSpells
import Derived.Test.YtmeppbfamjeljaaDoorHkTQ
import Derived.Test.YtmeppbfamjeljaaDoorEnTQ
import Derived.Deep.RegionWith
namespace Go.Proofs.YtmeppbfamjeljaaDoor.En
open Go.ChangeShapes Go.WideShapes Go.ChangeAt Go.RowKit

/-- Entries that are marks, from m on. -/
def mkO (m n : Nat) : List Ob := (List.range n).map fun j => (mtxt (m + 4 * j), ((m + 4 * j + 1 : Nat) : Int), ((m + 4 * j + 2 : Nat) : Int), mtxt (m + 4 * j + 3))
theorem mkO_length (m n : Nat) : (mkO m n).length = n := by simp [mkO]
theorem mkO_at (m n k : Nat) (h : k < n) : (mkO m n).getD k onil = (mtxt (m + 4 * k), ((m + 4 * k + 1 : Nat) : Int), ((m + 4 * k + 2 : Nat) : Int), mtxt (m + 4 * k + 3)) := by simp [mkO, List.getD, h]
def mixP (l : List Ob) (xs : List Value) (k j : Nat) : Value := if j < k * 4 then ocell l j else xs.getD j (.int .i64 0)
theorem mixP_zero (l : List Ob) (xs : List Value) : rowG (mixP l xs 0) xs.length = xs := by
  apply List.ext_getElem?
  intro j
  by_cases hj : j < xs.length
  · rw [rowG_at _ _ _ hj]
    unfold mixP
    rw [if_neg (by omega)]
    simp [List.getD, hj]
  · rw [List.getElem?_eq_none (by rw [rowG_length]; omega), List.getElem?_eq_none (by omega)]
theorem mixP_set (l : List Ob) (xs : List Value) (k m : Nat) :
    ((((rowG (mixP l xs k) m).set (k * 4) (.string (l.getD k onil).1)).set (k * 4 + 1) (.int .i64 (l.getD k onil).2.1)).set (k * 4 + 2) (.int .i64 (l.getD k onil).2.2.1)).set (k * 4 + 3) (.string (l.getD k onil).2.2.2) = rowG (mixP l xs (k + 1)) m := by
  rw [rowG_set, rowG_set, rowG_set, rowG_set]
  apply rowG_congr
  intro j _
  by_cases e3 : j = k * 4 + 3
  · rw [if_pos e3]; unfold mixP; rw [if_pos (by omega), e3, ocell3]
  · rw [if_neg e3]
    by_cases e2 : j = k * 4 + 2
    · rw [if_pos e2]; unfold mixP; rw [if_pos (by omega), e2, ocell2]
    · rw [if_neg e2]
      by_cases e1 : j = k * 4 + 1
      · rw [if_pos e1]; unfold mixP; rw [if_pos (by omega), e1, ocell1]
      · rw [if_neg e1]
        by_cases e0 : j = k * 4
        · rw [if_pos e0]; unfold mixP; rw [if_pos (by omega), e0, ocell0]
        · rw [if_neg e0]
          unfold mixP
          by_cases h : j < k * 4
          · rw [if_pos h, if_pos (by omega)]
          · have h1 : ¬ j < (k + 1) * 4 := by omega
            rw [if_neg h, if_neg h1]
theorem mixP_full (l : List Ob) (xs : List Value) : rowG (mixP l xs l.length) (l.length * 4) = ocells l := by
  apply rowG_congr
  intro j hj
  unfold mixP
  rw [if_pos hj]

set_option maxRecDepth 20000 in
set_option maxHeartbeats 2000000 in
theorem markEntryS (base : Nat) (a : Option Addr) (n cap m : Nat) (xs : List Value) (w : World) (h1 : 1 ≤ m) (h2 : m + 4 * n ≤ 8388608)
    (ho : w.ownsRow base 69 4 (.slice a n cap) n xs) :
    Calls Tryd.prog 21 #[.slice a n cap, .int .i64 m] w fun e w' => e = .returned (.int .i64 ((m + 4 * n : Nat) : Int)) ∧
      w'.ownsRow base 69 4 (.slice a n cap) n (ocells (mkO m n)) ∧ w.grownBy w' (Value.slice a n cap).ownBlock := by
  have hxl : xs.length = n * 4 := ho.1
  have hst := fun k => mixP_set (mkO m n) xs k (n * 4)
  have hz := mixP_zero (mkO m n) xs
  have hfull := mixP_full (mkO m n) xs
  rw [mkO_length] at hfull
  rw [hxl] at hz
  have hat := fun k h => mkO_at m n k h
  obtain ⟨L, hL⟩ : ∃ L, mkO m n = L := ⟨_, rfl⟩
  rw [hL] at hst hz hfull hat ⊢
  clear hL
  go_enter Tryd.func21, Tryd.ntmps21
  go_wp2
  go_loopw [1, 5] (fun t i wr => ∃ k : Nat, k ≤ n ∧ i = .int .i64 k ∧ t = .int .i64 ((m + 4 * k : Nat) : Int) ∧ wr.ownsRow base 69 4 (.slice a n cap) n (rowG (mixP L xs k) (n * 4)) ∧ w.grownBy wr (Value.slice a n cap).ownBlock) (fun _ i _ => n - (intOf i).toNat)
  case atStart => exact ⟨0, Nat.zero_le _, rfl, rfl, by rw [hz]; exact ho, World.grownBy.refl _ _⟩
  case round =>
    obtain ⟨k, hk, rfl, rfl, hor, hgr⟩ := hrel
    by_cases hlt : k < n
    · have q : (k : Int) < (n : Int) := by omega
      obtain ⟨g, rfl⟩ : ∃ g, a = some ⟨g, 0, none⟩ := by
        rcases hor.2 with ⟨h', h0⟩ | ⟨g, c, cur, h', _⟩
        · omega
        · simp only [Value.slice.injEq] at h'; exact ⟨g, h'.1⟩
      have hM0 := fun w => markText (m + 4 * k) (by omega) (by omega) w
      have hM2 := fun w => markText (m + 4 * k + 3) (by omega) (by omega) w
      have hs3 := hst k
      rw [hat k hlt] at hs3
      simp only [] at hs3
      obtain ⟨t0, ht0⟩ : ∃ t, mtxt (m + 4 * k) = t := ⟨_, rfl⟩
      obtain ⟨t2, ht2⟩ : ∃ t, mtxt (m + 4 * k + 3) = t := ⟨_, rfl⟩
      obtain ⟨M, hMe⟩ : ∃ M, m + 4 * k = M := ⟨_, rfl⟩
      rw [hMe] at hM0 hM2 ht0 ht2 hs3 ⊢
      rw [ht0] at hM0 hs3
      rw [ht2] at hM2 hs3
      have hMb : M + 4 ≤ 8388608 := by omega
      have HMe : Hid (m + 4 * (k + 1) = M + 4) := by show _ = _; omega
      have cc1 : ((M + 1 : Nat) : Int) = (M : Int) + 1 := by omega
      have cc2 : ((M + 2 : Nat) : Int) = (M : Int) + 1 + 1 := by omega
      rw [cc1, cc2] at hs3
      have HS3 : Hid (_ = _) := hs3
      clear ht0 ht2 hMe hst hat hs3 cc1 cc2
      have own1 : ∀ {w w' : World} {xs : List Value}, w.ownsRow base 69 4 (.slice (some ⟨g, 0, none⟩) n cap) n xs → Below w.heap.size w w' → w'.ownsRow base 69 4 (.slice (some ⟨g, 0, none⟩) n cap) n xs := fun h b => h.kept (grownOfBelow b none) (blockCases _ _ fun b c1 c2 => by cases c2)
      have hcell : ∀ {w : World} {xs : List Value}, w.ownsRow base 69 4 (.slice (some ⟨g, 0, none⟩) n cap) n xs → ∀ j, j < 4 → ∃ u, w.cell? ⟨g, k * 4 + j, none⟩ = some u := fun h j hj => by
        have hl := h.1
        rw [h.cellAt (k * 4 + j) (by omega), List.getElem?_eq_getElem (by omega)]; exact ⟨_, rfl⟩
      have own1H : Hid (∀ {w w' : World} {xs : List Value}, w.ownsRow base 69 4 (.slice (some ⟨g, 0, none⟩) n cap) n xs → Below w.heap.size w w' → w'.ownsRow base 69 4 (.slice (some ⟨g, 0, none⟩) n cap) n xs) := own1
      have hcellH : Hid (∀ {w : World} {xs : List Value}, w.ownsRow base 69 4 (.slice (some ⟨g, 0, none⟩) n cap) n xs → ∀ j, j < 4 → ∃ u, w.cell? ⟨g, k * 4 + j, none⟩ = some u) := hcell
      clear own1 hcell
      go_wp2_with fail
      refine (hM0 _).mono ?_; rintro e w1 ⟨rfl, b1⟩
      have o1 := own1H.out hor b1
      obtain ⟨u0, e0⟩ := hcellH.out o1 0 (by omega)
      rw [Nat.add_zero] at e0
      have f0 := o1.frozenAt (k * 4)
      have s0 := o1.stored (k * 4) (.string t0)
      have g0 := grownTrans (grownTrans hgr (grownOfBelow b1 _)) s0.2
      obtain ⟨u1, e1⟩ := hcellH.out s0.1 1 (by omega)
      have f1 := s0.1.frozenAt (k * 4 + 1)
      have s1 := s0.1.stored (k * 4 + 1) (.int .i64 ((M : Int) + 1))
      have g1 := grownTrans g0 s1.2
      obtain ⟨v1, r1⟩ := hcellH.out s1.1 2 (by omega)
      have p1 := s1.1.frozenAt (k * 4 + 2)
      have q1 := s1.1.stored (k * 4 + 2) (.int .i64 ((M : Int) + 1 + 1))
      have g11 := grownTrans g1 q1.2
      have S1 : Hid (World.ownsRow _ _ _ _ _ _ _) := q1.1
      have G1 : Hid (World.grownBy _ _ _) := g11
      clear hM0 hor hgr b1 o1 s0 g0 s1 g1 q1 g11
      go_wp2_with fail
      refine (hM2 _).mono ?_; rintro e w2 ⟨rfl, b2⟩
      have o2 := own1H.out S1.out b2
      obtain ⟨u2, e2⟩ := hcellH.out o2 3 (by omega)
      have f2 := o2.frozenAt (k * 4 + 3)
      have s2 := o2.stored (k * 4 + 3) (.string t2)
      have g2 := grownTrans (grownTrans G1.out (grownOfBelow b2 _)) s2.2
      have o3 := s2.1
      rw [HS3.out] at o3
      have S3 : Hid (World.ownsRow _ _ _ _ _ _ _) := o3
      have G3 : Hid (World.grownBy _ _ _) := g2
      clear hM2 S1 G1 b2 o2 s2 g2 o3 e0 f0 e1 f1 r1 p1 own1H hcellH
      go_wp2
      go_roundw
      case rel => exact ⟨k + 1, by omega, by go_num, by rw [HMe.out]; go_num, S3.out, G3.out⟩
      case measure => first | (simp [intOf]; omega) | simp [intOf]
    · have q : ¬ (k : Int) < (n : Int) := by omega
      obtain rfl : k = n := by omega
      rw [hfull] at hor
      clear hst hz hfull hat
      go_wp2
      go_ret
      exact ⟨rfl, hor, hgr⟩
end Go.Proofs.YtmeppbfamjeljaaDoor.En
/- The contracts of the laws' helpers over EntriesResult. No statement is proved here. -/
namespace Go.Proofs.YtmeppbfamjeljaaDoor.En
open Go.ChangeShapes Go.WideShapes Go.ChangeAt Go.RowKit

set_option maxHeartbeats 1000000 in
theorem eqEntriesResult (c z : Int) (a1 a2 : Option Addr) (k1 k2 : Nat) (l : List Ob) (w : World) (h1 : OB w.heap.size w a1 l) (h2 : OB w.heap.size w a2 l) (hn : l.length ≤ 1048576) :
    Calls Tryd.prog 19 #[.agg #[.int .i64 c, .int .i64 z, .slice a1 l.length k1], .agg #[.int .i64 c, .int .i64 z, .slice a2 l.length k2]] w fun e w' => e = .returned (.bool true) ∧ Below w.heap.size w w' := by
  have hcc : (c != c) = false := by simp
  have hzz : (z != z) = false := by simp
  have hB : Below w.heap.size w ((w.alloc (.cells #[.int .i64 c, .int .i64 z, .slice a1 l.length k1] 28)).alloc (.cells #[.int .i64 c, .int .i64 z, .slice a2 l.length k2] 28)) := ((Below.refl _ _).alloc (Nat.le_refl _) _).alloc (by simp) _
  have hE := fun w h1 h2 => eqEntryS a1 a2 k1 k2 l w h1 h2 hn
  go_enter Tryd.func19, Tryd.ntmps19
  go_wp2_with fail
  refine (hE _ ((h1.below hB).mono hB.size) ((h2.below hB).mono hB.size)).mono ?_; rintro e w1 ⟨rfl, b1⟩
  have B1 : Hid (Below w.heap.size w w1) := hB.trans (b1.mono hB.size)
  clear b1 hE hB
  go_wp2_with fail
  go_ret
  exact ⟨rfl, B1.out⟩

set_option maxHeartbeats 1000000 in
theorem markEntriesResult (lo hi : Nat) (c z : Int) (a : Option Addr) (n cap m : Nat) (xs : List Value) (w : World) (h1 : 1 ≤ m) (h2 : m + 4 * n ≤ 8388608)
    (ho : w.ownsRow lo 69 4 (.slice a n cap) n xs) (b1 : ∀ j, (Value.slice a n cap).ownBlock = some j → j < hi) :
    Calls Tryd.prog 22 #[.agg #[.int .i64 c, .int .i64 z, .slice a n cap], .int .i64 m] w fun e w' => e = .returned (.int .i64 ((m + 4 * n : Nat) : Int)) ∧
      w'.ownsRow lo 69 4 (.slice a n cap) n (ocells (mkO m n)) ∧ Fr lo hi w w' := by
  go_enter Tryd.func22, Tryd.ntmps22
  go_wp2_with fail
  refine (markEntryS lo _ _ _ _ _ _ h1 h2 (ho.alloc _)).mono ?_; rintro e w1 ⟨rfl, ho1, hg1⟩
  have hF1 : Fr lo hi w w1 := (Fr.ofAlloc _ _).trans (Fr.ofGrown hg1 (fun j hj => ⟨(ho.lt j hj).1, b1 j hj⟩))
  clear hg1
  go_wp2_with fail
  go_ret
  exact ⟨rfl, ho1, hF1⟩

set_option maxRecDepth 20000 in
set_option maxHeartbeats 4000000 in
theorem heldEntryS (a : Option Addr) (n cap m : Nat) (w : World) (h1 : 1 ≤ m) (h2 : m + 4 * n ≤ 8388608) (hs : OB w.heap.size w a (mkO m n)) :
    Calls Tryd.prog 57 #[.slice a n cap, .int .i64 m] w fun e w' => e = .returned (.int .i64 ((m + 4 * n : Nat) : Int)) ∧ Below w.heap.size w w' := by
  go_enter Tryd.func57, Tryd.ntmps57
  go_wp2
  go_loopw [1, 5] (fun t i wr => ∃ k : Nat, k ≤ n ∧ i = .int .i64 k ∧ t = .int .i64 ((m + 4 * k : Nat) : Int) ∧ Below w.heap.size w wr) (fun _ i _ => n - (intOf i).toNat)
  case atStart => exact ⟨0, Nat.zero_le _, rfl, rfl, Below.refl _ _⟩
  case round =>
    obtain ⟨k, hk, rfl, rfl, hbr⟩ := hrel
    have hsz := hbr.size
    by_cases hlt : k < n
    · have q : (k : Int) < (n : Int) := by omega
      obtain ⟨g, off, e, hg, d0, d1, d2, d3⟩ := hs.below hbr k (by rw [mkO_length]; exact hlt)
      subst e
      rw [mkO_at m n k hlt] at d0 d1 d2 d3
      simp only [] at d0 d1 d2 d3
      have hM0 := fun w => markText (m + 4 * k) (by omega) (by omega) w
      have hM2 := fun w => markText (m + 4 * k + 3) (by omega) (by omega) w
      obtain ⟨t0, ht0⟩ : ∃ t, mtxt (m + 4 * k) = t := ⟨_, rfl⟩
      obtain ⟨t2, ht2⟩ : ∃ t, mtxt (m + 4 * k + 3) = t := ⟨_, rfl⟩
      obtain ⟨M, hMe⟩ : ∃ M, m + 4 * k = M := ⟨_, rfl⟩
      rw [hMe] at hM0 hM2 ht0 ht2 d0 d1 d2 d3 ⊢
      rw [ht0] at hM0 d0
      rw [ht2] at hM2 d3
      have HMe : Hid (m + 4 * (k + 1) = M + 4) := by show _ = _; omega
      have hMb : M + 4 ≤ 8388608 := by omega
      obtain ⟨V, hV⟩ : ∃ V : Int, (M : Int) = V := ⟨_, rfl⟩
      have HV : Hid ((M : Int) = V) := hV
      have hV1 : ((M + 1 : Nat) : Int) = V + 1 := by omega
      have hV2 : ((M + 2 : Nat) : Int) = V + 1 + 1 := by omega
      have hV3 : ((M + 3 : Nat) : Int) = V + 1 + 1 + 1 := by omega
      rw [hV] at hM0 ⊢
      rw [hV1] at d1
      rw [hV2] at d2
      rw [hV3] at hM2
      have hVp : 0 ≤ V := by omega
      have hVl : V < 16777216 := by omega
      have e0 := beq_bytes_true (rfl : t0 = t0)
      have e2 := beq_bytes_true (rfl : t2 = t2)
      have e1 : (V + 1 != V + 1) = false := by simp
      have e3 : (V + 1 + 1 != V + 1 + 1) = false := by simp
      have hgw : g < wr.heap.size := by omega
      have HB0 : Hid (Below w.heap.size w wr) := hbr
      clear ht0 ht2 hMe hV hV1 hV2 hV3 hs hbr
      go_wp2
      go_region_with (go_at_call 56; refine (hM0 _).mono ?_; rintro e w1 ⟨rfl, b1⟩; have x0 := (b1.cell (p := ⟨g, off + k * 4, none⟩) hgw).trans d0; have x1 := (b1.cell (p := ⟨g, off + k * 4 + 1, none⟩) hgw).trans d1; have x2 := (b1.cell (p := ⟨g, off + k * 4 + 2, none⟩) hgw).trans d2; have x3 := (b1.cell (p := ⟨g, off + k * 4 + 3, none⟩) hgw).trans d3; have s1 := b1.size; have HB1 : Hid (Below w.heap.size w w1) := HB0.out.drew.trans (b1.mono HB0.out.size))
      all_goals
        have hgw1 : g < w1.heap.size := Nat.lt_of_lt_of_le hgw s1
        clear d0 d1 d2 d3 b1 hM0 s1
        go_wp2
        go_region_with (go_at_call 56; refine (hM2 _).mono ?_; rintro e w2 ⟨rfl, b2⟩; have y3 := (b2.cell (p := ⟨g, off + k * 4 + 3, none⟩) hgw1).trans x3; have HB2 : Hid (Below w.heap.size w w2) := HB1.out.drew.trans (b2.mono HB1.out.size))
        all_goals
          clear x0 x1 x2 x3 b2 hM2
          go_wp2
          go_roundw
          case rel => exact ⟨k + 1, by omega, by first | rfl | go_num, by rw [HMe.out]; have := HV.out; first | go_num | (congr 1; omega), HB2.out⟩
          case measure => first | (simp [intOf]; omega) | simp [intOf]
    · have e : k = n := by omega
      subst e
      go_wp2
      go_ret
      exact ⟨rfl, hbr⟩

set_option maxHeartbeats 1000000 in
theorem heldEntriesResult (c z : Int) (a : Option Addr) (n cap m : Nat) (w : World) (h1 : 1 ≤ m) (h2 : m + 4 * n ≤ 8388608) (hs : OB w.heap.size w a (mkO m n)) :
    Calls Tryd.prog 23 #[.agg #[.int .i64 c, .int .i64 z, .slice a n cap], .int .i64 m] w fun e w' => e = .returned (.int .i64 ((m + 4 * n : Nat) : Int)) ∧ Below w.heap.size w w' := by
  have hB : ∀ o, Below w.heap.size w (w.alloc o) := fun o => (Below.refl _ _).alloc (Nat.le_refl _) _
  have hA := fun W hW => heldEntryS a n cap m W h1 h2 hW
  obtain ⟨M, hM⟩ : ∃ M : Int, ((m + 4 * n : Nat) : Int) = M := ⟨_, rfl⟩
  have hp : ¬ M < 0 := by omega
  rw [hM] at hA ⊢
  clear hM
  go_enter Tryd.func23, Tryd.ntmps23
  go_wp2_with fail
  refine (hA _ ((hs.below (hB _)).mono (by simp))).mono ?_; rintro e w1 ⟨rfl, b1⟩
  have BB := (hB (.cells #[.int .i64 c, .int .i64 z, .slice a n cap] 28)).trans (b1.mono (by simp))
  clear b1
  go_wp2_with fail
  go_ret
  exact ⟨rfl, BB⟩
theorem obMk {w : World} {base n c m : Nat} {a : Option Addr} (h : w.ownsRow base 69 4 (.slice a n c) n (ocells (mkO m n))) : OB w.heap.size w a (mkO m n) :=
  OB.of (c := c) (base := base) (by rw [mkO_length]; exact h)
end Go.Proofs.YtmeppbfamjeljaaDoor.En
