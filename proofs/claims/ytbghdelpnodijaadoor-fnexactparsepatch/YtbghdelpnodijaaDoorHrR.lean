/- The contracts of the laws' helpers over lists of hunks that are owned (markHunkS, heldHunkS) and over HunksResult. No statement is proved here. -/
import Derived.Test.YtbghdelpnodijaaDoorRows
import Derived.Test.YtbghdelpnodijaaDoorLem
import Derived.Test.YtbghdelpnodijaaDoorStrs
import Derived.Test.YtbghdelpnodijaaDoorMarks
import Derived.Test.YtbghdelpnodijaaDoorHeld
import Derived.Test.YtbghdelpnodijaaDoorDTab
import Derived.Test.YtbghdelpnodijaaDoorOwn
import Derived.Test.YtbghdelpnodijaaDoorFr
import Derived.Test.YtbghdelpnodijaaDoorIn
import Derived.Test.YtbghdelpnodijaaDoorHkL
import Derived.Test.YtbghdelpnodijaaDoorHkC
import Derived.Test.YtbghdelpnodijaaDoorHkS
import Derived.Test.YtbghdelpnodijaaDoorHkT
import Derived.Test.YtbghdelpnodijaaDoorHkE
import Derived.Test.YtbghdelpnodijaaDoorHfL
import Derived.Test.YtbghdelpnodijaaDoorHfC
import Derived.Test.YtbghdelpnodijaaDoorHnL
import Derived.Test.YtbghdelpnodijaaDoorHnT
import Derived.WalkKit
import Derived.ProofKit
import Derived.Below
import Derived.WalkSpells
namespace Go.Proofs.YtbghdelpnodijaaDoor
open Go.ChangeShapes Go.WideShapes Go.ChangeAt Go.RowKit

set_option maxHeartbeats 1000000 in
theorem eqHunksResult (c t : Int) (a1 a2 : Option Addr) (c1 c2 : Nat) (l : List Hk) (w : World) (h1 : HB w.heap.size w a1 l) (h2 : HB w.heap.size w a2 l) (hs : Shortly l) (hn : l.length ≤ 1048576) :
    Calls Tryd.prog 13 #[.agg #[.int .i64 c, .int .i64 t, .slice a1 l.length c1], .agg #[.int .i64 c, .int .i64 t, .slice a2 l.length c2]] w fun e w' => e = .returned (.bool true) ∧ Below w.heap.size w w' := by
  have hN : ∀ o1 o2, Below w.heap.size w ((w.alloc o1).alloc o2) := fun o1 o2 => ((Below.refl _ _).alloc (Nat.le_refl _) _).alloc (by simp) _
  have q0 : (c != c) = false := by simp
  have q1 : (t != t) = false := by simp
  go_enter Tryd.func13, Tryd.ntmps13
  go_wp2_with fail
  refine (eqHunkS a1 a2 c1 c2 l _ ((h1.below (hN _ _)).mono (by simp; omega)) ((h2.below (hN _ _)).mono (by simp; omega)) hs hn).mono ?_; rintro e w1 ⟨rfl, b1⟩
  have BB := (hN (.cells #[.int .i64 c, .int .i64 t, .slice a1 l.length c1] 33) (.cells #[.int .i64 c, .int .i64 t, .slice a2 l.length c2] 33)).trans (b1.mono (by simp; omega))
  clear b1
  go_wp2_with fail
  go_ret
  exact ⟨rfl, BB⟩

/-- How many marks the first k hunks take. -/
def mkN (l : List Hk) (k : Nat) : Nat := ((l.take k).map fun h => 2 + h.2.2.length).sum
theorem mkN_succ (l : List Hk) (k : Nat) (h : k < l.length) : mkN l (k + 1) = mkN l k + (2 + (l.getD k (0, 0, [])).2.2.length) := by
  unfold mkN
  rw [List.take_succ_eq_append_getElem h, List.map_append, List.sum_append]
  simp [List.getD, h]
theorem mkN_le (l : List Hk) (k : Nat) : mkN l k ≤ mkN l l.length := by
  unfold mkN
  rw [List.take_length]
  conv => rhs; rw [← List.take_append_drop k l, List.map_append, List.sum_append]
  omega
theorem mkN_full (l : List Hk) : mkN l l.length = 2 * l.length + allN l := by
  unfold mkN allN
  rw [List.take_length]
  induction l with
  | nil => rfl
  | cons h t ih => simp only [List.map_cons, List.sum_cons, List.length_cons]; omega
/-- The hunks that the marks from m on make. -/
def mkH (l : List Hk) (m : Nat) (k : Nat) : Hk := (((m + mkN l k : Nat) : Int), ((m + mkN l k + 1 : Nat) : Int), marks (m + mkN l k + 2) (l.getD k (0, 0, [])).2.2.length)
/-- The first k hunks are marked. -/
def mixM (l : List Hk) (m k : Nat) : List Hk := (List.range l.length).map fun i => if i < k then mkH l m i else l.getD i (0, 0, [])
theorem mixM_length (l : List Hk) (m k : Nat) : (mixM l m k).length = l.length := by simp [mixM]
theorem mixM_at (l : List Hk) (m k i : Nat) (h : i < l.length) : (mixM l m k).getD i (0, 0, []) = if i < k then mkH l m i else l.getD i (0, 0, []) := by
  simp [mixM, List.getD, h]
theorem mixM_zero (l : List Hk) (m : Nat) : mixM l m 0 = l := by
  apply List.ext_getElem?
  intro i
  by_cases h : i < l.length
  · simp [mixM, h, List.getD]
  · rw [List.getElem?_eq_none (by rw [mixM_length]; omega), List.getElem?_eq_none (by omega)]
theorem mixM_succ (l : List Hk) (m k : Nat) (h : k < l.length) : mixM l m (k + 1) = (mixM l m k).set k (mkH l m k) := by
  apply List.ext_getElem?
  intro i
  by_cases hi : i < l.length
  · by_cases e : i = k
    · subst e
      rw [List.getElem?_set_self (by rw [mixM_length]; exact hi)]
      simp [mixM, hi]
    · rw [List.getElem?_set_ne (by omega)]
      simp only [mixM, List.getElem?_map, List.getElem?_range hi, Option.map_some]
      congr 1
      by_cases hk : i < k
      · rw [if_pos hk, if_pos (by omega)]
      · rw [if_neg hk, if_neg (by omega)]
  · rw [List.getElem?_eq_none (by rw [mixM_length]; omega), List.getElem?_eq_none (by rw [List.length_set, mixM_length]; omega)]
theorem setD_same (l : List Hk) (k : Nat) (X : Hk) (h : k < l.length) : (l.set k X).getD k (0, 0, []) = X := by simp [List.getD, h]
theorem setD_other (l : List Hk) (k i : Nat) (X : Hk) (h : ¬ i = k) : (l.set k X).getD i (0, 0, []) = l.getD i (0, 0, []) := by
  rw [List.getD, List.getD, List.getElem?_set_ne (by omega)]
theorem hcell_mark (L : List Hk) (sl : Nat → Value) (k n : Nat) (X : Hk) (hk : k < L.length) :
    ((rowF (hcell L sl) n).set (k * 3) (.int .i64 X.1)).set (k * 3 + 1) (.int .i64 X.2.1) = rowF (hcell (L.set k X) sl) n := by
  rw [rowF_set, rowF_set]
  apply rowF_congr
  intro j _
  show (if j = k * 3 + 1 then _ else if j = k * 3 then _ else _) = _
  by_cases h1 : j = k * 3 + 1
  · subst h1
    rw [if_pos rfl, hcell1, setD_same L k X hk]
  · rw [if_neg h1]
    by_cases h0 : j = k * 3
    · subst h0
      rw [if_pos rfl, hcell0, setD_same L k X hk]
    · rw [if_neg h0]
      unfold hcell
      by_cases e : j / 3 = k
      · have h3 : j % 3 = 2 := by omega
        rw [if_neg (by omega), if_neg (by omega), if_neg (by omega), if_neg (by omega)]
      · rw [setD_other L k (j / 3) X e]
/-- Hunk k is marked: its numbers, then its lines. -/
theorem HO.mark {base g n c : Nat} {w w2 : World} {L : List Hk} {sl : Nat → Value} (h : HO base w (.slice (some ⟨g, 0, none⟩) n c) L sl) (hn : n = L.length) (k : Nat) (hk : k < L.length) (X : Hk)
    (o2 : w2.ownsRow base 9 1 (sl k) X.2.2.length (X.2.2.map Value.string)) (g2 : ((w.setCell ⟨g, k * 3, none⟩ (.int .i64 X.1)).setCell ⟨g, k * 3 + 1, none⟩ (.int .i64 X.2.1)).grownBy w2 (sl k).ownBlock) :
    HO base w2 (.slice (some ⟨g, 0, none⟩) n c) (L.set k X) sl := by
  subst hn
  have hg : ∀ j, j < L.length → ∀ b, (sl j).ownBlock = some b → b ≠ g := fun j hj b hb e => h.off j hj g rfl (e ▸ hb)
  have s0 := h.row.stored (k * 3) (.int .i64 X.1)
  have s1 := s0.1.stored (k * 3 + 1) (.int .i64 X.2.1)
  have hG := grownTrans s0.2 s1.2
  refine ⟨?_, fun j hj => ?_, fun i j hij hj => ?_, fun j hj => ?_⟩
  · have r := s1.1
    rw [hcell_mark L sl k _ X hk] at r
    rw [List.length_set]
    exact r.kept g2 (blockCases _ _ fun b c1 c2 => by
      have e1 : g = b := by simpa [Value.ownBlock] using c1
      exact hg k hk b c2 e1.symm)
  · rw [List.length_set] at hj
    by_cases e : j = k
    · subst e
      rw [setD_same L j X hk]; exact o2
    · rw [setD_other L k j X e]
      have o3 := (h.each j hj).kept hG (blockCases _ _ fun b c1 c2 => by
        have e2 : g = b := by simpa [Value.ownBlock] using c2
        exact hg j hj b c1 e2.symm)
      exact o3.kept g2 (blockCases _ _ fun b c1 c2 => by
        rcases Nat.lt_or_ge j k with h' | h'
        · exact h.apart j k h' hk b c1 c2
        · exact h.apart k j (by omega) hj b c2 c1)
  · rw [List.length_set] at hj; exact h.apart i j hij hj
  · rw [List.length_set] at hj; exact h.off j hj

set_option maxRecDepth 20000 in
set_option maxHeartbeats 4000000 in
theorem markHunkS (base hi g c m : Nat) (l : List Hk) (sl : Nat → Value) (w : World) (h1 : 1 ≤ m) (h2 : m + mkN l l.length ≤ 4194304) (h : HO base w (.slice (some ⟨g, 0, none⟩) l.length c) l sl)
    (hg : g < hi) (hb : ∀ k, k < l.length → ∀ b, (sl k).ownBlock = some b → b < hi) :
    Calls Tryd.prog 27 #[.slice (some ⟨g, 0, none⟩) l.length c, .int .i64 m] w fun e w' => e = .returned (.int .i64 ((m + mkN l l.length : Nat) : Int)) ∧ HO base w' (.slice (some ⟨g, 0, none⟩) l.length c) (mixM l m l.length) sl ∧ Fr base hi w w' := by
  have hgb := (h.row.lt g rfl).1
  have hln : l.length ≤ 4194304 := by have := mkN_full l; omega
  go_enter Tryd.func27, Tryd.ntmps27
  go_wp2
  go_loopw [1, 5] (fun t i wr => ∃ k : Nat, k ≤ l.length ∧ i = .int .i64 k ∧ t = .int .i64 ((m + mkN l k : Nat) : Int) ∧ HO base wr (.slice (some ⟨g, 0, none⟩) l.length c) (mixM l m k) sl ∧ Fr base hi w wr) (fun _ i _ => l.length - (intOf i).toNat)
  case atStart => exact ⟨0, Nat.zero_le _, rfl, by simp [mkN], by rw [mixM_zero]; exact h, Fr.refl _ _ _⟩
  case round =>
    obtain ⟨k, hk, rfl, rfl, hO, hF⟩ := hrel
    have hle := mkN_le l k
    have hml := mixM_length l m k
    by_cases hlt : k < l.length
    · have q : (k : Int) < (l.length : Int) := by omega
      have hsu := mkN_succ l k hlt
      have hle2 := mkN_le l (k + 1)
      have hrow := hO.row
      rw [hml] at hrow
      have hea := hO.each k (by omega)
      have hat := mixM_at l m k k hlt
      rw [if_neg (by omega)] at hat
      rw [hat] at hea
      obtain ⟨ak, ck, eak⟩ := shapeS hea
      have hmk := fun w2 o2 g2 => hO.mark (w2 := w2) hml.symm k (by omega) (mkH l m k) o2 g2
      rw [← mixM_succ l m k hlt] at hmk
      have hbk := hb k hlt
      have hbl := (fun b hbb => (hea.lt b hbb).1 : ∀ b, (sl k).ownBlock = some b → base ≤ b)
      have hoff := hO.off k (by omega)
      have hcl : ∀ j, j < l.length * 3 → wr.cell? ⟨g, j, none⟩ = some (hcell (mixM l m k) sl j) := fun j hj => by
        rw [hrow.cellAt j hj, rowF_at _ _ _ hj]
      have d0 := hcl (k * 3) (by omega)
      have d1 := hcl (k * 3 + 1) (by omega)
      have d2 := hcl (k * 3 + 2) (by omega)
      rw [hcell2, eak] at d2
      have f0 := hrow.frozenAt (k * 3)
      have f1 := hrow.frozenAt (k * 3 + 1)
      obtain ⟨n, hnn⟩ : ∃ n, (l.getD k (0, 0, [])).2.2.length = n := ⟨_, rfl⟩
      obtain ⟨V, hV⟩ : ∃ V : Nat, m + mkN l k = V := ⟨_, rfl⟩
      have eH : mkH l m k = ((V : Int), ((V + 1 : Nat) : Int), marks (V + 2) n) := by unfold mkH; rw [hV, hnn]
      rw [eH] at hmk
      simp only [] at hmk
      obtain ⟨VI, hVI⟩ : ∃ VI : Int, (V : Int) = VI := ⟨_, rfl⟩
      have hV1 : ((V + 1 : Nat) : Int) = VI + 1 := by omega
      rw [hV1, hVI, eak, hnn] at hmk
      rw [hnn] at hea d2 eak
      rw [eak] at hea hbk hbl hoff
      obtain ⟨X, hX⟩ : ∃ X, (l.getD k (0, 0, [])).2.2.map Value.string = X := ⟨_, rfl⟩
      rw [hX] at hea
      have hea1 := (hea.kept (grownTrans (grownSet wr g (k * 3) (.int .i64 VI)) (grownSet _ g (k * 3 + 1) (.int .i64 (VI + 1)))) (blockCases _ _ fun b c1 c2 => by
        have e2 : g = b := by simpa using c2
        exact hoff b (by simp [Value.ownBlock, e2]) c1))
      have hM := markStringS base ak n ck (V + 2) X _ (by omega) (by omega) hea1
      have HK : Hid (m + mkN l (k + 1) = V + 2 + n) := by show _ = _; omega
      have hF1 : Fr base hi w ((wr.setCell ⟨g, k * 3, none⟩ (.int .i64 VI)).setCell ⟨g, k * 3 + 1, none⟩ (.int .i64 (VI + 1))) := hF.trans (Fr.ofGrown (grownTrans (grownSet wr g (k * 3) (.int .i64 VI)) (grownSet _ g (k * 3 + 1) (.int .i64 (VI + 1)))) (fun j hj => by cases hj; exact ⟨hgb, hg⟩))
      have hVb : V + 2 + n ≤ 4194304 := by omega
      have hVp : 0 ≤ VI := by omega
      have hVl : VI < 16777216 := by omega
      rw [show ((V + 2 : Nat) : Int) = VI + 1 + 1 by omega] at hM
      rw [hV, hVI]
      clear hO hF hcl hea hea1 hrow hat hsu hle hle2 hV hX eH hV1 eak hoff
      go_wp2_with fail
      refine hM.mono ?_; rintro e w2 ⟨rfl, o2, g2⟩
      have HH : Hid (HO _ _ _ _ _) := hmk w2 (by rw [marks_length]; exact o2) g2
      have HF2 : Fr base hi w w2 := hF1.trans (Fr.ofGrown g2 (fun j hj => ⟨hbl j hj, hbk j hj⟩))
      clear o2 g2 hM hmk hF1
      go_wp2
      go_roundw
      case rel => exact ⟨k + 1, by omega, by first | rfl | go_num, by rw [HK.out]; congr 1; omega, HH.out, HF2⟩
      case measure => first | (simp [intOf]; omega) | simp [intOf]
    · have q : ¬ (k : Int) < (l.length : Int) := by omega
      obtain rfl : k = l.length := by omega
      go_wp2
      go_ret
      exact ⟨rfl, hO, hF⟩

set_option maxRecDepth 20000 in
set_option maxHeartbeats 4000000 in
theorem heldHunkS (a : Option Addr) (c m : Nat) (l : List Hk) (w : World) (h1 : 1 ≤ m) (h2 : m + mkN l l.length ≤ 4194304) (h : HB w.heap.size w a (mixM l m l.length)) :
    Calls Tryd.prog 28 #[.slice a l.length c, .int .i64 m] w fun e w' => e = .returned (.int .i64 ((m + mkN l l.length : Nat) : Int)) ∧ Below w.heap.size w w' := by
  have hln : l.length ≤ 4194304 := by have := mkN_full l; omega
  go_enter Tryd.func28, Tryd.ntmps28
  go_wp2
  go_loopw [1, 5] (fun t i wr => ∃ k : Nat, k ≤ l.length ∧ i = .int .i64 k ∧ t = .int .i64 ((m + mkN l k : Nat) : Int) ∧ Below w.heap.size w wr) (fun _ i _ => l.length - (intOf i).toNat)
  case atStart => exact ⟨0, Nat.zero_le _, rfl, by simp [mkN], Below.refl _ _⟩
  case round =>
    obtain ⟨k, hk, rfl, rfl, hbel⟩ := hrel
    have hsz := hbel.size
    by_cases hlt : k < l.length
    · have q : (k : Int) < (l.length : Int) := by omega
      have hsu := mkN_succ l k hlt
      have hle2 := mkN_le l (k + 1)
      obtain ⟨g, off, ak, ck, e, hg, d0, d1, d2, hSB⟩ := h.below hbel k (by rw [mixM_length]; exact hlt)
      subst e
      have hat := mixM_at l m l.length k hlt
      rw [if_pos hlt] at hat
      rw [hat] at d0 d1 d2 hSB
      obtain ⟨n, hnn⟩ : ∃ n, (l.getD k (0, 0, [])).2.2.length = n := ⟨_, rfl⟩
      obtain ⟨V, hV⟩ : ∃ V : Nat, m + mkN l k = V := ⟨_, rfl⟩
      have eH : mkH l m k = ((V : Int), ((V + 1 : Nat) : Int), marks (V + 2) n) := by unfold mkH; rw [hV, hnn]
      rw [eH] at d0 d1 d2 hSB
      simp only [] at d0 d1 d2 hSB
      rw [marks_length] at d2
      obtain ⟨VI, hVI⟩ : ∃ VI : Int, (V : Int) = VI := ⟨_, rfl⟩
      have hV1 : ((V + 1 : Nat) : Int) = VI + 1 := by omega
      rw [hVI] at d0
      rw [hV1] at d1
      have hM := heldStringS ak n ck (V + 2) wr (by omega) (by omega) (hSB.toSS hsz)
      rw [show ((V + 2 : Nat) : Int) = VI + 1 + 1 by omega] at hM
      have HK : Hid (m + mkN l (k + 1) = V + 2 + n) := by show _ = _; omega
      obtain ⟨T, hT⟩ : ∃ T : Int, ((V + 2 + n : Nat) : Int) = T := ⟨_, rfl⟩
      have HT : Hid (((V + 2 + n : Nat) : Int) = T) := hT
      have hTp : ¬ T < 0 := by omega
      rw [hT] at hM
      have hVp : 0 ≤ VI := by omega
      have hVl : VI < 16777216 := by omega
      have b0 : (VI != VI) = false := by simp
      have b1 : (VI + 1 != VI + 1) = false := by simp
      rw [hV, hVI]
      clear hat hsu hle2 hV eH hV1 hSB hT
      go_wp2_with fail
      refine hM.mono ?_; rintro e w2 ⟨rfl, b2⟩
      have HB := below_step hbel hsz b2
      clear b2 hM
      go_wp2
      go_roundw
      case rel => exact ⟨k + 1, by omega, by first | rfl | go_num, by rw [HK.out, HT.out], HB⟩
      case measure => first | (simp [intOf]; omega) | simp [intOf]
    · have q : ¬ (k : Int) < (l.length : Int) := by omega
      obtain rfl : k = l.length := by omega
      go_wp2
      go_ret
      exact ⟨rfl, hbel⟩

set_option maxHeartbeats 1000000 in
theorem markHunksResult (x t : Int) (base hi g c m : Nat) (l : List Hk) (sl : Nat → Value) (w : World) (h1 : 1 ≤ m) (h2 : m + mkN l l.length ≤ 4194304) (h : HO base w (.slice (some ⟨g, 0, none⟩) l.length c) l sl)
    (hg : g < hi) (hb : ∀ k, k < l.length → ∀ b, (sl k).ownBlock = some b → b < hi) :
    Calls Tryd.prog 14 #[.agg #[.int .i64 x, .int .i64 t, .slice (some ⟨g, 0, none⟩) l.length c], .int .i64 m] w fun e w' => e = .returned (.int .i64 ((m + mkN l l.length : Nat) : Int)) ∧ HO base w' (.slice (some ⟨g, 0, none⟩) l.length c) (mixM l m l.length) sl ∧ Fr base hi w w' := by
  have hA := fun o => h.below (allocBelow w o)
  go_enter Tryd.func14, Tryd.ntmps14
  go_wp2_with fail
  refine (markHunkS base hi g c m l sl _ h1 h2 (hA _) hg hb).mono ?_; rintro e w1 ⟨rfl, p1, F1⟩
  have F2 := (Fr.ofAlloc (lo := base) (hi := hi) w (.cells #[.int .i64 x, .int .i64 t, .slice (some ⟨g, 0, none⟩) l.length c] 33)).trans F1
  clear F1
  go_wp2_with fail
  go_ret
  exact ⟨rfl, p1, F2⟩

set_option maxHeartbeats 1000000 in
theorem heldHunksResult (x t : Int) (a : Option Addr) (c m : Nat) (l : List Hk) (w : World) (h1 : 1 ≤ m) (h2 : m + mkN l l.length ≤ 4194304) (h : HB w.heap.size w a (mixM l m l.length)) :
    Calls Tryd.prog 15 #[.agg #[.int .i64 x, .int .i64 t, .slice a l.length c], .int .i64 m] w fun e w' => e = .returned (.int .i64 ((m + mkN l l.length : Nat) : Int)) ∧ Below w.heap.size w w' := by
  have hB : ∀ o, Below w.heap.size w (w.alloc o) := fun o => allocBelow w o
  have hA := fun W hW => heldHunkS a c m l W h1 h2 hW
  obtain ⟨M, hM⟩ : ∃ M : Int, ((m + mkN l l.length : Nat) : Int) = M := ⟨_, rfl⟩
  have hp : ¬ M < 0 := by omega
  rw [hM] at hA ⊢
  clear hM
  go_enter Tryd.func15, Tryd.ntmps15
  go_wp2_with fail
  refine (hA _ ((h.below (hB _)).mono (by simp))).mono ?_; rintro e w1 ⟨rfl, b1⟩
  have BB := (hB (.cells #[.int .i64 x, .int .i64 t, .slice a l.length c] 33)).trans (b1.mono (by simp))
  clear b1
  go_wp2_with fail
  go_ret
  exact ⟨rfl, BB⟩
end Go.Proofs.YtbghdelpnodijaaDoor
