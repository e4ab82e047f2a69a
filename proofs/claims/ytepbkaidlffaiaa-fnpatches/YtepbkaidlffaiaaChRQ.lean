/- Contracts of the laws' helpers over lists of changes and of ChangesOf (the program's and the specification's). No statement is proved here. -/
import Derived.Test.YtepbkaidlffaiaaRows
import Derived.Test.YtepbkaidlffaiaaLemQ
import Derived.Test.YtepbkaidlffaiaaStrsQ
import Derived.Test.YtepbkaidlffaiaaLFLemQ
import Derived.Test.YtepbkaidlffaiaaLFQ
import Derived.Test.YtepbkaidlffaiaaComQ
import Derived.Test.YtepbkaidlffaiaaAskedQ
import Derived.Test.YtepbkaidlffaiaaDTabQ
import Derived.Test.YtepbkaidlffaiaaSTabQ
import Derived.Test.YtepbkaidlffaiaaPairsQ
import Derived.Test.YtepbkaidlffaiaaIntSQ
import Derived.Test.YtepbkaidlffaiaaFrQ
import Derived.Test.YtepbkaidlffaiaaChgQ
import Derived.Test.YtepbkaidlffaiaaEdCQ
import Derived.WalkKit
import Derived.ProofKit
import Derived.Below
import Derived.WalkSpells
import Derived.RegionTactic
import Derived.Deep.RegionWith
namespace Go.Proofs.Ytepbkaidlffaiaa
open Go.ChangeShapes Go.WideShapes Go.ChangeAt Go.RowKit

/-- Rows of four marks that can be read. -/
def IR4 (w : World) (a : Option Addr) (n m : Nat) : Prop := ∀ k, k < n → ∃ g, a = some ⟨g, 0, none⟩ ∧ g < w.heap.size ∧ ∀ j, j < 4 → w.cell? ⟨g, k * 4 + j, none⟩ = some (.int .i64 ((m + k * 4 + j : Nat) : Int))
theorem IR4.of {w : World} {base n m c : Nat} {a : Option Addr} (h : w.ownsRow base 50 4 (.slice a n c) n (marksI m (n * 4))) : IR4 w a n m := fun k hk => by
  rcases h.2 with ⟨_, h0⟩ | ⟨g, cap, cur, h', hb, hh, _⟩
  · omega
  · simp only [Value.slice.injEq] at h'
    obtain ⟨rfl, _, rfl⟩ := h'
    exact ⟨g, rfl, (Array.getElem?_eq_some_iff.1 hh).1, fun j hj => by rw [h.cellAt (k * 4 + j) (by omega), marksI_at m (n * 4) _ (by omega), Nat.add_assoc]⟩
theorem IR4.below {w w' : World} {a : Option Addr} {n m : Nat} (h : IR4 w a n m) (hb : Below w.heap.size w w') : IR4 w' a n m := fun k hk => by
  obtain ⟨g, e, hg, hc⟩ := h k hk
  exact ⟨g, e, Nat.lt_of_lt_of_le hg hb.size, fun j hj => (hb.cell (p := ⟨g, k * 4 + j, none⟩) hg).trans (hc j hj)⟩

theorem cbOf {w : World} {base c : Nat} {a : Option Addr} {l : List Chg} (h : w.ownsRow base 50 4 (.slice a l.length c) l.length (chgCells l)) : CB w.heap.size w a l := by
  obtain ⟨a', c', e, hC⟩ := CB.of h
  simp only [Value.slice.injEq] at e
  obtain ⟨rfl, _⟩ := e
  exact hC
/-- The changes that ChangesOf tells. -/
def chL (xs ys : List ByteArray) : List Chg := if asked xs ys = 0 then changes xs ys else []
theorem chL_ok {xs ys : List ByteArray} (h : asked xs ys = 0) : chL xs ys = changes xs ys := if_pos h
theorem chL_no {xs ys : List ByteArray} (h : ¬ asked xs ys = 0) : chL xs ys = [] := if_neg h
theorem chL_length (xs ys : List ByteArray) : (chL xs ys).length ≤ 101 := by
  by_cases h : asked xs ys = 0
  · rw [chL_ok h]; exact changes_length xs ys (lf_zero (asked_zero h).1).1
  · rw [chL_no h]; exact Nat.zero_le _
/-- The answer with code r and changes L. -/
def CP (r : Int) (L : List Chg) (w : World) (e : Ending) (w' : World) : Prop := ∃ v, e = .returned (.agg #[.int .i64 r, v]) ∧ w'.ownsRow w.heap.size 50 4 v L.length (chgCells L) ∧ Below w.heap.size w w'

set_option maxHeartbeats 1000000 in
theorem specChangesOf (a1 a2 : Option Addr) (c1 c2 : Nat) (xs ys : List ByteArray) (w : World) (h1 : SS w a1 xs) (h2 : SS w a2 ys) (n1 : xs.length ≤ 1048576) (t1 : tot xs ≤ 1048576) (n2 : ys.length ≤ 1048576) (t2 : tot ys ≤ 1048576) :
    Calls Try.prog 26 #[.slice a1 xs.length c1, .slice a2 ys.length c2] w fun e w' => CP (asked xs ys) (chL xs ys) w e w' := by
  have hA := fun w h1 h2 => specAsked a1 a2 c1 c2 xs ys w h1 h2 n1 t1 n2 t2
  by_cases h0 : asked xs ys = 0
  · obtain ⟨hx, hy⟩ := asked_zero h0
    have m1 := (lf_zero hx).1
    have m2 := (lf_zero hy).1
    have HV : Hid (chL xs ys = changes xs ys) := chL_ok h0
    have HA : Hid (asked xs ys = 0) := h0
    rw [h0] at hA
    clear h0 hx hy
    go_enter Try.func26, Try.ntmps26
    go_wp2_with fail
    obtain ⟨W1, hW1⟩ : ∃ W1, w.alloc (.cells #[.int .i64 0, .slice none 0 0] 47) = W1 := ⟨_, rfl⟩
    have b1 : Below w.heap.size w W1 := by rw [← hW1]; exact allocBelow _ _
    have z1 : Hid (W1.heap.size = w.heap.size + 1) := by show _ = _; rw [← hW1]; simp
    have r1 : Res2 W1 w.heap.size (.int .i64 0) (.slice none 0 0) := by rw [← hW1]; exact Res2.new _ _ _ _
    rw [hW1]
    clear hW1
    have s1 := h1.below b1
    have s2 := h2.below b1
    refine (hA _ s1 s2).mono ?_; rintro e W1 ⟨rfl, rfl⟩
    clear hA
    go_wp2_with fail
    refine (l2Changes _ _ _ _ _ _ _ s1 s2 m1 m2).mono ?_; rintro e w2 ⟨v, rfl, hown, b2⟩
    obtain ⟨y, l, hv, _⟩ := CB.of hown
    have hlt : w.heap.size < W1.heap.size := by have := z1.out; omega
    obtain ⟨k0, k1, g0, g1⟩ := r1.below hlt b2
    have BB := b1.trans (b2.mono b1.size)
    have HP : Hid (((w2.setCell ⟨w.heap.size, 0, none⟩ (.int .i64 0)).setCell ⟨w.heap.size, 1, none⟩ v).ownsRow w.heap.size 50 4 v (changes xs ys).length (chgCells (changes xs ys))) := by
      have hs := grownTrans (grownSet w2 w.heap.size 0 (.int .i64 0)) (grownSet _ w.heap.size 1 v)
      exact ownMono4 (hown.kept hs (blockCases _ _ fun j e1 e2 => by cases e2; have := (hown.lt _ e1).1; omega)) (Nat.le_of_lt hlt)
    subst hv
    obtain ⟨N, hN⟩ : ∃ N, (changes xs ys).length = N := ⟨_, rfl⟩
    have HN : Hid ((changes xs ys).length = N) := hN
    rw [hN] at HP ⊢
    have HB := below_sets BB (Nat.le_refl _) (.int .i64 0) (.slice y N l)
    clear hown b2 s1 s2 r1 z1 h1 h2 b1 BB hlt hN
    go_wp2
    refine bodyPost_ret (v := .agg #[.int .i64 0, .slice y N l]) (by simp [results, Try.results26, go_sem, k0, k1]) rfl ?_
    exact ⟨_, by rw [HA.out], by rw [HV.out, HN.out]; exact HP.out, HB⟩
  · have hb := ne_beq h0
    have HV : Hid (chL xs ys = []) := chL_no h0
    obtain ⟨v, hv⟩ : ∃ v, asked xs ys = v := ⟨_, rfl⟩
    rw [hv] at hA hb
    have HE : Hid (asked xs ys = v) := hv
    clear h0 hv
    go_enter Try.func26, Try.ntmps26
    go_wp2_with fail
    refine (hA _ (h1.below (allocBelow _ _)) (h2.below (allocBelow _ _))).mono ?_; rintro e w' ⟨rfl, rfl⟩
    go_wp2
    refine bodyPost_ret (v := .agg #[.int .i64 v, .slice none 0 0]) (by simp [results, Try.results26, go_sem]) rfl ?_
    exact ⟨_, by rw [HE.out], by rw [HV.out]; exact chgNil _ _, allocBelow _ _⟩

set_option maxHeartbeats 1000000 in
theorem implChangesOf (a1 a2 : Option Addr) (c1 c2 : Nat) (xs ys : List ByteArray) (w : World) (h1 : SS w a1 xs) (h2 : SS w a2 ys) (n1 : xs.length ≤ 1048576) (n2 : ys.length ≤ 1048576) :
    Calls Try.prog 25 #[.slice a1 xs.length c1, .slice a2 ys.length c2] w fun e w' => CP (asked xs ys) (chL xs ys) w e w' := by
  have hA := fun w h1 h2 => implAsked a1 a2 c1 c2 xs ys w h1 h2 n1 n2
  by_cases h0 : asked xs ys = 0
  · obtain ⟨hx, hy⟩ := asked_zero h0
    have m1 := (lf_zero hx).1
    have m2 := (lf_zero hy).1
    have HV : Hid (chL xs ys = changes xs ys) := chL_ok h0
    have HA : Hid (asked xs ys = 0) := h0
    rw [h0] at hA
    clear h0 hx hy
    go_enter Try.func25, Try.ntmps25
    go_wp2_with fail
    obtain ⟨W1, hW1⟩ : ∃ W1, w.alloc (.cells #[.int .i64 0, .slice none 0 0] 47) = W1 := ⟨_, rfl⟩
    have b1 : Below w.heap.size w W1 := by rw [← hW1]; exact allocBelow _ _
    have z1 : Hid (W1.heap.size = w.heap.size + 1) := by show _ = _; rw [← hW1]; simp
    have r1 : Res2 W1 w.heap.size (.int .i64 0) (.slice none 0 0) := by rw [← hW1]; exact Res2.new _ _ _ _
    rw [hW1]
    clear hW1
    have s1 := h1.below b1
    have s2 := h2.below b1
    refine (hA _ s1 s2).mono ?_; rintro e W1 ⟨rfl, rfl⟩
    clear hA
    go_wp2_with fail
    refine (changesBetween _ _ _ _ _ _ _ s1 s2 m1 m2).mono ?_; rintro e w2 ⟨v, rfl, hown, b2⟩
    obtain ⟨y, l, hv, _⟩ := CB.of hown
    have hlt : w.heap.size < W1.heap.size := by have := z1.out; omega
    obtain ⟨k0, k1, g0, g1⟩ := r1.below hlt b2
    have BB := b1.trans (b2.mono b1.size)
    have HP : Hid (((w2.setCell ⟨w.heap.size, 0, none⟩ (.int .i64 0)).setCell ⟨w.heap.size, 1, none⟩ v).ownsRow w.heap.size 50 4 v (changes xs ys).length (chgCells (changes xs ys))) := by
      have hs := grownTrans (grownSet w2 w.heap.size 0 (.int .i64 0)) (grownSet _ w.heap.size 1 v)
      exact ownMono4 (hown.kept hs (blockCases _ _ fun j e1 e2 => by cases e2; have := (hown.lt _ e1).1; omega)) (Nat.le_of_lt hlt)
    subst hv
    obtain ⟨N, hN⟩ : ∃ N, (changes xs ys).length = N := ⟨_, rfl⟩
    have HN : Hid ((changes xs ys).length = N) := hN
    rw [hN] at HP ⊢
    have HB := below_sets BB (Nat.le_refl _) (.int .i64 0) (.slice y N l)
    clear hown b2 s1 s2 r1 z1 h1 h2 b1 BB hlt hN
    go_wp2
    refine bodyPost_ret (v := .agg #[.int .i64 0, .slice y N l]) (by simp [results, Try.results25, go_sem, k0, k1]) rfl ?_
    exact ⟨_, by rw [HA.out], by rw [HV.out, HN.out]; exact HP.out, HB⟩
  · have hb := ne_beq h0
    have HV : Hid (chL xs ys = []) := chL_no h0
    obtain ⟨v, hv⟩ : ∃ v, asked xs ys = v := ⟨_, rfl⟩
    rw [hv] at hA hb
    have HE : Hid (asked xs ys = v) := hv
    clear h0 hv
    go_enter Try.func25, Try.ntmps25
    go_wp2_with fail
    refine (hA _ (h1.below (allocBelow _ _)) (h2.below (allocBelow _ _))).mono ?_; rintro e w' ⟨rfl, rfl⟩
    go_wp2
    refine bodyPost_ret (v := .agg #[.int .i64 v, .slice none 0 0]) (by simp [results, Try.results25, go_sem]) rfl ?_
    exact ⟨_, by rw [HE.out], by rw [HV.out]; exact chgNil _ _, allocBelow _ _⟩
end Go.Proofs.Ytepbkaidlffaiaa
