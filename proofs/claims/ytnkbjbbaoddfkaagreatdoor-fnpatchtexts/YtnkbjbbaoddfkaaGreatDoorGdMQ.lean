/- Places where two texts have the same lines; pieces of a list. Plain mathematics. No statement is proved here. -/
import Derived.Test.YtnkbjbbaoddfkaaGreatDoorRows
import Derived.Test.YtnkbjbbaoddfkaaGreatDoorComQ
import Derived.Test.YtnkbjbbaoddfkaaGreatDoorLemQ
import Derived.Test.YtnkbjbbaoddfkaaGreatDoorLFLemQ
import Derived.Test.YtnkbjbbaoddfkaaGreatDoorDTabQ
import Derived.Test.YtnkbjbbaoddfkaaGreatDoorHkLQ
import Derived.Test.YtnkbjbbaoddfkaaGreatDoorApCQ
import Derived.Test.YtnkbjbbaoddfkaaGreatDoorRvLQ
import Derived.Test.YtnkbjbbaoddfkaaGreatDoorHkTQ
import Derived.Test.YtnkbjbbaoddfkaaGreatDoorHfCQ
import Derived.Test.YtnkbjbbaoddfkaaGreatDoorHnLQ
import Derived.Test.YtnkbjbbaoddfkaaGreatDoorHrRQ
import Derived.Test.YtnkbjbbaoddfkaaGreatDoorWvCQ
import Derived.WalkKit
import Derived.ProofKit
import Derived.Below
namespace Go.Proofs.YtnkbjbbaoddfkaaGreatDoor

/-- Places from i and j on: they rise on both sides, and the lines there are the same. -/
def GoodM (xs ys : List ByteArray) : List (Nat × Nat) → Nat → Nat → Prop
  | [], i, j => i ≤ xs.length ∧ j ≤ ys.length
  | (p, q) :: r, i, j => i ≤ p ∧ j ≤ q ∧ p < xs.length ∧ q < ys.length ∧ xs.getD p ByteArray.empty = ys.getD q ByteArray.empty ∧ GoodM xs ys r (p + 1) (q + 1)
theorem good_mat (xs ys : List ByteArray) : ∀ (f i j i0 j0 : Nat), (xs.length - i) + (ys.length - j) ≤ f → i0 ≤ i → i ≤ xs.length → j0 ≤ j → j ≤ ys.length → GoodM xs ys (mat xs ys i j) i0 j0 := by
  intro f
  induction f with
  | zero =>
    intro i j i0 j0 h h1 h2 h3 h4
    rw [mat_end xs ys i j (by omega)]
    exact ⟨by omega, by omega⟩
  | succ f ih =>
    intro i j i0 j0 h h1 h2 h3 h4
    by_cases hij : i < xs.length ∧ j < ys.length
    · obtain ⟨hi, hj⟩ := hij
      by_cases e : xs.getD i ByteArray.empty = ys.getD j ByteArray.empty
      · rw [mat_eq xs ys i j hi hj e]
        exact ⟨h1, h3, hi, hj, e, ih (i + 1) (j + 1) (i + 1) (j + 1) (by omega) (Nat.le_refl _) (by omega) (Nat.le_refl _) (by omega)⟩
      · by_cases hs : skipA xs ys i j = true
        · rw [mat_skipA xs ys i j hi hj e hs]
          exact ih (i + 1) j i0 j0 (by omega) (by omega) (by omega) h3 h4
        · rw [mat_skipB xs ys i j hi hj e (by simpa using hs)]
          exact ih i (j + 1) i0 j0 (by omega) h1 h2 (by omega) (by omega)
    · rw [mat_end xs ys i j hij]
      exact ⟨by omega, by omega⟩
theorem seg_app (xs : List ByteArray) (a b c : Nat) (h1 : a ≤ b) (h2 : b ≤ c) : (xs.drop a).take (b - a) ++ (xs.drop b).take (c - b) = (xs.drop a).take (c - a) := by
  have e1 : c - a = (b - a) + (c - b) := by omega
  rw [e1, List.take_add, List.drop_drop, show a + (b - a) = b by omega]
theorem seg_rest (xs : List ByteArray) (a b : Nat) (h1 : a ≤ b) : (xs.drop a).take (b - a) ++ xs.drop b = xs.drop a := by
  have h := List.take_append_drop (b - a) (xs.drop a)
  rw [List.drop_drop, show a + (b - a) = b by omega] at h
  exact h
theorem seg_one (xs : List ByteArray) (p : Nat) (h : p < xs.length) : (xs.drop p).take (p + 1 - p) = [xs.getD p ByteArray.empty] := by
  rw [show p + 1 - p = 1 by omega, List.drop_eq_getElem_cons h, List.take_succ_cons, List.take_zero]
  simp [List.getD, h]
theorem seg_all (xs : List ByteArray) (a : Nat) : (xs.drop a).take (xs.length - a) = xs.drop a := List.take_of_length_le (by simp)
end Go.Proofs.YtnkbjbbaoddfkaaGreatDoor
/- Hunks that are made of changes make the other lines, and hunks turned round make the old ones again. Plain mathematics. No statement is proved here. -/
namespace Go.Proofs.YtnkbjbbaoddfkaaGreatDoor
open Go.RowKit

theorem wout_app (b : Int) (s t : List ByteArray) : wout b (s ++ t) = wout b s ++ wout b t := by
  unfold wout; rw [List.filter_append, List.map_append]
theorem wout_two (ss : List ByteArray) : ss.length ≤ (wout 43 ss).length + (wout 45 ss).length := by
  induction ss with
  | nil => exact Nat.zero_le _
  | cons s t ih =>
    rw [wout_cons, wout_cons]
    by_cases h : mark0 s = 43
    · rw [if_pos h, if_neg (by omega)]; simp only [List.length_cons]; omega
    · rw [if_neg h]
      by_cases h5 : mark0 s = 45
      · rw [if_pos h5]; simp only [List.length_cons]; omega
      · rw [if_neg h5]; simp only [List.length_cons]; omega
theorem wout_new (ss : List ByteArray) (h : ss.all okH = true) : ((wout 45 ss).length : Int) = newN ss := by
  induction ss with
  | nil => rfl
  | cons s t ih =>
    rw [List.all_cons, Bool.and_eq_true] at h
    have e : newN (s :: t) = new1 (mark0 s) + newN t := by simp [newN]
    rw [wout_cons, e, new1_mk (okH_mk h.1)]
    have := ih h.2
    by_cases hm : mark0 s = 45
    · rw [if_pos hm, if_pos hm]; omega
    · rw [if_neg hm, if_neg hm, List.length_cons]; omega
theorem mkL_mark (b : UInt8) (s : ByteArray) : mark0 (mkL b s) = (b.toNat : Int) := by
  unfold mark0 mkL
  rw [ByteArray.data_append, Array.toList_append]
  rfl
theorem mkL_tail (b : UInt8) (s : ByteArray) : (mkL b s).extract 1 (mkL b s).size = s := by
  refine ByteArray.ext (Array.toList_inj.1 ?_)
  rw [tail_data]
  unfold mkL
  rw [ByteArray.data_append, Array.toList_append]
  rfl
theorem wout_mk_in {b : Int} {c : UInt8} (h : ¬ (c.toNat : Int) = b) (l : List ByteArray) : wout b (l.map (mkL c)) = l := by
  induction l with
  | nil => rfl
  | cons s t ih => rw [List.map_cons, wout_cons, if_neg (by rw [mkL_mark]; exact h), mkL_tail, ih]
theorem wout_mk_out {b : Int} {c : UInt8} (h : (c.toNat : Int) = b) (l : List ByteArray) : wout b (l.map (mkL c)) = [] := by
  induction l with
  | nil => rfl
  | cons s t ih => rw [List.map_cons, wout_cons, if_pos (by rw [mkL_mark]; exact h), ih]

/-! Lines from a place to another. -/
theorem sg_app (xs : List ByteArray) {a b c : Int} (_ : 0 ≤ a) (h1 : a ≤ b) (h2 : b ≤ c) : sg xs a b ++ sg xs b c = sg xs a c := by
  unfold sg
  exact seg_app xs a.toNat b.toNat c.toNat (by omega) (by omega)
theorem sg_length (xs : List ByteArray) {a b : Int} (h0 : 0 ≤ a) (h1 : a ≤ b) (h2 : b ≤ xs.length) : ((sg xs a b).length : Int) = b - a := by
  unfold sg
  rw [List.length_take, List.length_drop]
  omega
theorem sg_drop (xs : List ByteArray) {a b c : Int} (h0 : 0 ≤ a) (h1 : a ≤ b) (h2 : b ≤ c) : (sg xs a c).drop (b - a).toNat = sg xs b c := by
  unfold sg
  rw [List.drop_take, List.drop_drop, show a.toNat + (b - a).toNat = b.toNat by omega, show c.toNat - a.toNat - (b - a).toNat = c.toNat - b.toNat by omega]
theorem sg_end (xs : List ByteArray) {a : Int} : sg xs a xs.length = xs.drop a.toNat := by
  unfold sg
  rw [show ((xs.length : Int)).toNat = xs.length by omega]
  exact seg_all xs _
theorem sg_self (xs : List ByteArray) (a : Int) : sg xs a a = [] := by unfold sg; simp
theorem sg_stands {xs : List ByteArray} {a b : Int} (h0 : 0 ≤ a) (h1 : a ≤ b) (h2 : b ≤ xs.length) : stands xs a.toNat (sg xs a b) := by
  have hl := sg_length xs h0 h1 h2
  refine ⟨by omega, ?_⟩
  rw [show (sg xs a b).length = b.toNat - a.toNat by omega]; rfl

/-! Changes that lead from one text to the other. -/
def btK (b0 : Int) (cs : List Chg) : Nat → Int
  | 0 => b0
  | k + 1 => (cs.getD k (0, 0, 0, 0)).2.2.1 + (cs.getD k (0, 0, 0, 0)).2.2.2
theorem btK_succ (b0 : Int) (cs : List Chg) (k : Nat) : btK b0 cs (k + 1) = (cs.getD k (0, 0, 0, 0)).2.2.1 + (cs.getD k (0, 0, 0, 0)).2.2.2 := rfl
def oneW (xs ys : List ByteArray) (i j : Int) (c : Chg) : Prop :=
  i ≤ c.1 ∧ c.1 - i = c.2.2.1 - j ∧ 0 ≤ c.2.1 ∧ 0 ≤ c.2.2.2 ∧ 0 < c.2.1 + c.2.2.2 ∧ c.1 + c.2.1 ≤ xs.length ∧ c.2.2.1 + c.2.2.2 ≤ ys.length ∧ sg xs i c.1 = sg ys j c.2.2.1
def Way (xs ys : List ByteArray) : Int → Int → List Chg → Prop
  | i, j, [] => (xs.length : Int) - i = (ys.length : Int) - j ∧ sg xs i xs.length = sg ys j ys.length
  | i, j, c :: t => oneW xs ys i j c ∧ Way xs ys (c.1 + c.2.1) (c.2.2.1 + c.2.2.2) t
structure WK (xs ys : List ByteArray) (i j : Int) (cs : List Chg) : Prop where
  hi : 0 ≤ i ∧ i ≤ xs.length
  hj : 0 ≤ j ∧ j ≤ ys.length
  each : ∀ k, k < cs.length → oneW xs ys (atK i cs k) (btK j cs k) (cs.getD k (0, 0, 0, 0))
  last : (xs.length : Int) - atK i cs cs.length = (ys.length : Int) - btK j cs cs.length ∧ sg xs (atK i cs cs.length) xs.length = sg ys (btK j cs cs.length) ys.length
theorem atK_cons (i : Int) (c : Chg) (t : List Chg) (k : Nat) : atK i (c :: t) (k + 1) = atK (c.1 + c.2.1) t k := by
  cases k with
  | zero => rfl
  | succ k => rfl
theorem btK_cons (j : Int) (c : Chg) (t : List Chg) (k : Nat) : btK j (c :: t) (k + 1) = btK (c.2.2.1 + c.2.2.2) t k := by
  cases k with
  | zero => rfl
  | succ k => rfl
theorem way_wk {xs ys : List ByteArray} : ∀ {cs : List Chg} {i j : Int}, Way xs ys i j cs → 0 ≤ i → i ≤ xs.length → 0 ≤ j → j ≤ ys.length → WK xs ys i j cs := by
  intro cs
  induction cs with
  | nil => intro i j h h1 h2 h3 h4; exact ⟨⟨h1, h2⟩, ⟨h3, h4⟩, fun k hk => absurd hk (Nat.not_lt_zero _), h⟩
  | cons c t ih =>
    intro i j h h1 h2 h3 h4
    obtain ⟨ho, ht⟩ := h
    have ho' := ho
    obtain ⟨g1, g2, g3, g4, g5, g6, g7, g8⟩ := ho'
    have I := ih ht (by omega) g6 (by omega) g7
    refine ⟨⟨h1, h2⟩, ⟨h3, h4⟩, fun k hk => ?_, ?_⟩
    · cases k with
      | zero => exact ho
      | succ k =>
        rw [atK_cons, btK_cons]
        exact I.each k (by simpa using hk)
    · rw [List.length_cons, atK_cons, btK_cons]
      exact I.last
theorem way_chg (xs ys : List ByteArray) : ∀ (M : List (Nat × Nat)) (i j a b : Nat), GoodM xs ys M i j → a ≤ i → b ≤ j → i - a = j - b → (xs.drop a).take (i - a) = (ys.drop b).take (j - b) → Way xs ys (a : Int) (b : Int) (chg (M ++ [(xs.length, ys.length)]) i j) := by
  intro M
  induction M with
  | nil =>
    intro i j a b hg ha hb hd he
    obtain ⟨hi, hj⟩ : i ≤ xs.length ∧ j ≤ ys.length := hg
    rw [List.nil_append]
    by_cases gap : i < xs.length ∨ j < ys.length
    · rw [chg_more [] gap]
      refine ⟨⟨by simp only []; omega, by simp only []; omega, by simp only []; omega, by simp only []; omega, by simp only []; omega, by simp only []; omega, by simp only []; omega, ?_⟩, ?_, ?_⟩
      · show sg xs (a : Int) (i : Int) = sg ys (b : Int) (j : Int)
        rw [sg_nat, sg_nat]; exact he
      · simp only []; omega
      · simp only []
        rw [show (i : Int) + ((xs.length : Int) - i) = (xs.length : Int) by omega, show (j : Int) + ((ys.length : Int) - j) = (ys.length : Int) by omega, sg_self, sg_self]
    · rw [chg_less [] gap]
      obtain rfl : i = xs.length := by omega
      obtain rfl : j = ys.length := by omega
      refine ⟨by omega, ?_⟩
      rw [sg_nat, sg_nat]; exact he
  | cons pq r ih =>
    obtain ⟨p, q⟩ := pq
    intro i j a b hg ha hb hd he
    obtain ⟨hip, hjq, hp, hq, e, hr⟩ := hg
    rw [List.cons_append]
    by_cases gap : i < p ∨ j < q
    · rw [chg_more _ gap]
      refine ⟨⟨by simp only []; omega, by simp only []; omega, by simp only []; omega, by simp only []; omega, by simp only []; omega, by simp only []; omega, by simp only []; omega, ?_⟩, ?_⟩
      · show sg xs (a : Int) (i : Int) = sg ys (b : Int) (j : Int)
        rw [sg_nat, sg_nat]; exact he
      · simp only []
        rw [show (i : Int) + ((p : Int) - i) = (p : Int) by omega, show (j : Int) + ((q : Int) - j) = (q : Int) by omega]
        refine ih (p + 1) (q + 1) p q hr (by omega) (by omega) (by omega) ?_
        rw [seg_one xs p hp, seg_one ys q hq, e]
    · rw [chg_less _ gap]
      obtain rfl : i = p := by omega
      obtain rfl : j = q := by omega
      refine ih (i + 1) (j + 1) a b hr (by omega) (by omega) (by omega) ?_
      rw [← seg_app xs a i (i + 1) ha (by omega), ← seg_app ys b j (j + 1) hb (by omega), he, seg_one xs i hp, seg_one ys j hq, e]
theorem changes_wk (xs ys : List ByteArray) : WK xs ys 0 0 (changes xs ys) := by
  refine way_wk ?_ (by omega) (by omega) (by omega) (by omega)
  exact way_chg xs ys (mat xs ys 0 0) 0 0 0 0 (good_mat xs ys _ 0 0 0 0 (Nat.le_refl _) (Nat.le_refl _) (Nat.zero_le _) (Nat.le_refl _) (Nat.zero_le _)) (Nat.le_refl _) (Nat.le_refl _) rfl (by simp)
theorem atK_any {i i' : Int} {cs : List Chg} {k : Nat} (h : 0 < k) : atK i cs k = atK i' cs k := by
  cases k with
  | zero => omega
  | succ k => rfl
theorem btK_any {i i' : Int} {cs : List Chg} {k : Nat} (h : 0 < k) : btK i cs k = btK i' cs k := by
  cases k with
  | zero => omega
  | succ k => rfl
theorem sg_shift {xs ys : List ByteArray} {i j a c d : Int} (h0 : 0 ≤ i) (h1 : 0 ≤ j) (h2 : i ≤ a) (h3 : a ≤ c) (hd : c - i = d - j) (h : sg xs i c = sg ys j d) : sg xs a c = sg ys (j + (a - i)) d := by
  have e1 := sg_drop xs h0 h2 h3
  have e2 := sg_drop ys (a := j) (b := j + (a - i)) (c := d) h1 (by omega) (by omega)
  rw [← e1, ← e2, h, show j + (a - i) - j = a - i by omega]
/-- The way from a place behind, ahead of the first change. -/
theorem WK.shift {xs ys : List ByteArray} {i j : Int} {cs : List Chg} (h : WK xs ys i j cs) {a : Int} (h1 : i ≤ a) (h2 : cs.length = 0 → a ≤ xs.length) (h3 : 0 < cs.length → a ≤ (cs.getD 0 (0, 0, 0, 0)).1) : WK xs ys a (j + (a - i)) cs := by
  obtain ⟨hi1, hi2⟩ := h.hi
  obtain ⟨hj1, hj2⟩ := h.hj
  by_cases h0 : cs.length = 0
  · have ha := h2 h0
    obtain ⟨l1, l2⟩ := h.last
    rw [h0] at l1 l2
    have l1' : (xs.length : Int) - i = (ys.length : Int) - j := l1
    have l2' : sg xs i xs.length = sg ys j ys.length := l2
    refine ⟨by omega, by omega, fun k hk => by omega, ?_⟩
    rw [h0]
    show (xs.length : Int) - a = (ys.length : Int) - (j + (a - i)) ∧ sg xs a xs.length = sg ys (j + (a - i)) ys.length
    exact ⟨by omega, sg_shift hi1 hj1 h1 ha l1' l2'⟩
  · have hp : 0 < cs.length := by omega
    have ha := h3 hp
    have o0 : oneW xs ys i j (cs.getD 0 (0, 0, 0, 0)) := h.each 0 hp
    obtain ⟨g1, g2, g3, g4, g5, g6, g7, g8⟩ := o0
    refine ⟨by omega, by omega, fun k hk => ?_, ?_⟩
    · cases k with
      | zero => exact ⟨ha, by show (cs.getD 0 (0, 0, 0, 0)).1 - a = (cs.getD 0 (0, 0, 0, 0)).2.2.1 - (j + (a - i)); omega, g3, g4, g5, g6, g7, sg_shift hi1 hj1 h1 ha g2 g8⟩
      | succ k => exact h.each (k + 1) hk
    · rw [atK_any (i' := i) hp, btK_any (i' := j) hp]
      exact h.last
/-- The way behind some changes. -/
theorem WK.later {xs ys : List ByteArray} {i j : Int} {cs : List Chg} (h : WK xs ys i j cs) {t : Nat} (ht : t ≤ cs.length) : WK xs ys (atK i cs t) (btK j cs t) (cs.drop t) := by
  have e1 : ∀ k, atK (atK i cs t) (cs.drop t) k = atK i cs (t + k) := fun k => by
    cases k with
    | zero => rfl
    | succ k => rw [atK_succ, getD_drop4]; rfl
  have e2 : ∀ k, btK (btK j cs t) (cs.drop t) k = btK j cs (t + k) := fun k => by
    cases k with
    | zero => rfl
    | succ k => rw [btK_succ, getD_drop4]; rfl
  have bd : (0 ≤ atK i cs t ∧ atK i cs t ≤ xs.length) ∧ (0 ≤ btK j cs t ∧ btK j cs t ≤ ys.length) := by
    have key : ∀ t, t ≤ cs.length → (0 ≤ atK i cs t ∧ atK i cs t ≤ xs.length) ∧ (0 ≤ btK j cs t ∧ btK j cs t ≤ ys.length) := by
      intro t
      induction t with
      | zero => intro _; exact ⟨h.hi, h.hj⟩
      | succ t ih =>
        intro ht
        have I := ih (by omega)
        obtain ⟨g1, g2, g3, g4, g5, g6, g7, g8⟩ := h.each t (by omega)
        rw [atK_succ, btK_succ]
        omega
    exact key t ht
  refine ⟨bd.1, bd.2, fun k hk => ?_, ?_⟩
  · rw [List.length_drop] at hk
    rw [e1, e2, getD_drop4]
    exact h.each (t + k) (by omega)
  · rw [List.length_drop, e1, e2, show t + (cs.length - t) = cs.length by omega]
    exact h.last
/-- The old and the new lines of what stands in a hunk. -/
theorem hlK_olds {xs ys : List ByteArray} {a b : Int} {cs : List Chg} (h : WK xs ys a b cs) (t : Nat) : ∀ k, k ≤ t → t ≤ cs.length → wout 43 (hlK xs ys a (cs.take t) k) = sg xs a (atK a cs k) ∧ wout 45 (hlK xs ys a (cs.take t) k) = sg ys b (btK b cs k) ∧ a ≤ atK a cs k ∧ b ≤ btK b cs k := by
  intro k
  induction k with
  | zero =>
    intro _ _
    refine ⟨?_, ?_, Int.le_refl _, Int.le_refl _⟩
    · show wout 43 [] = sg xs a a; rw [sg_self]; rfl
    · show wout 45 [] = sg ys b b; rw [sg_self]; rfl
  | succ k ih =>
    intro hk ht
    obtain ⟨I1, I2, I3, I4⟩ := ih (by omega) ht
    obtain ⟨g1, g2, g3, g4, g5, g6, g7, g8⟩ := h.each k (by omega)
    have e0 : atK a (cs.take t) k = atK a cs k := by
      cases k with
      | zero => rfl
      | succ k => rw [atK_succ, getD_take4 _ _ _ (by omega)]; rfl
    have ha := h.hi.1
    have hb := h.hj.1
    rw [hlK_succ, getD_take4 _ _ _ (by omega), e0]
    refine ⟨?_, ?_, ?_, ?_⟩
    · rw [wout_app, wout_app, wout_app, I1, wout_mk_in (by decide), wout_mk_in (by decide), wout_mk_out (by decide), List.append_nil, sg_app xs ha I3 g1, sg_app xs ha (by omega) (by omega), atK_succ]
    · rw [wout_app, wout_app, wout_app, I2, wout_mk_in (by decide), wout_mk_out (by decide), wout_mk_in (by decide), List.append_nil, g8, sg_app ys hb I4 (by omega), sg_app ys hb (by omega) (by omega), btK_succ]
    · rw [atK_succ]; omega
    · rw [btK_succ]; omega

/-! Hunks that are applied, told by recursion. -/
def rec1 (xs : List ByteArray) : List Hk → Nat → List ByteArray
  | [], i => xs.drop i
  | h :: t, i => (xs.drop i).take (h.1.toNat - i) ++ wout 45 h.2.2 ++ rec1 xs t (h.1.toNat + (wout 43 h.2.2).length)
def okAll (xs : List ByteArray) (l : List Hk) : Prop := ∀ h ∈ l, stands xs h.1.toNat (wout 43 h.2.2)
theorem rec_ap (xs : List ByteArray) (l : List Hk) : ∀ k, k ≤ l.length → rec1 xs l 0 = apM xs l k ++ rec1 xs (l.drop k) (apAt l k) := by
  intro k
  induction k with
  | zero => intro _; rfl
  | succ k ih =>
    intro hk
    rw [ih (by omega), hk_drop l k (by omega), apM_succ, apAt_succ]
    show _ ++ (_ ++ _ ++ _) = _
    rw [List.append_assoc, List.append_assoc, List.append_assoc]
theorem apAll_rec (xs : List ByteArray) (l : List Hk) : apAll xs l = rec1 xs l 0 := by
  rw [rec_ap xs l l.length (Nat.le_refl _), List.drop_length]
  unfold apAll
  rw [seg_all]; rfl
theorem apOk_iff (xs : List ByteArray) (l : List Hk) : apOk xs l = true ↔ okAll xs l := by
  constructor
  · intro h x hx
    obtain ⟨k, hk, e⟩ := List.getElem_of_mem hx
    have := List.all_eq_true.1 h k (List.mem_range.2 hk)
    have := stBo_true this
    rw [show l.getD k (0, 0, []) = x by simp [List.getD, hk, e]] at this
    exact this
  · intro h
    refine apOk_yes fun k hk => ?_
    have := h (l.getD k (0, 0, [])) (by simp [List.getD, hk])
    exact decide_eq_true (p := _ ∧ _) this
end Go.Proofs.YtnkbjbbaoddfkaaGreatDoor
/- Hunks that are made of changes make the other lines; hunks that were applied make, turned round, the old ones again. Plain mathematics. No statement is proved here. -/
namespace Go.Proofs.YtnkbjbbaoddfkaaGreatDoor
open Go.RowKit

theorem turnL_mk (s : ByteArray) : turnL s = mkL (turnM (mark0 s)) (s.extract 1 s.size) := rfl
theorem turn_mark {s : ByteArray} (h : isMk (mark0 s) = true) : mark0 (turnL s) = turnI (mark0 s) := by
  rw [turnL_mk, mkL_mark]
  have h' := of_decide_eq_true h
  unfold turnM turnI
  rcases h' with e | e | e <;> rw [e] <;> rfl
theorem turn_tail (s : ByteArray) : (turnL s).extract 1 (turnL s).size = s.extract 1 s.size := by rw [turnL_mk, mkL_tail]
theorem turnI_cases {b : Int} (h : isMk b = true) : (b = 32 ∧ turnI b = 32) ∨ (b = 45 ∧ turnI b = 43) ∨ (b = 43 ∧ turnI b = 45) := by
  rcases of_decide_eq_true h with e | e | e <;> subst e <;> decide
theorem okH_turn {s : ByteArray} (h : okH s = true) : okH (turnL s) = true := by
  have hm := okH_mk h
  have hz : 0 < (turnL s).size := by rw [turnL_mk, mkL_size]; omega
  unfold okH at h ⊢
  rw [Bool.and_eq_true, Bool.and_eq_true] at h ⊢
  refine ⟨decide_eq_true hz, ?_, ?_⟩
  · rw [turn_mark hm]
    rcases turnI_cases hm with ⟨_, e⟩ | ⟨_, e⟩ | ⟨_, e⟩ <;> rw [e] <;> decide
  · rw [turn_tail]; exact h.2.2
theorem all_turn {ss : List ByteArray} (h : ss.all okH = true) : (ss.map turnL).all okH = true := by
  rw [List.all_map, List.all_eq_true]
  exact fun s hs => okH_turn (List.all_eq_true.1 h s hs)
theorem wout_turn {ss : List ByteArray} (h : ss.all okH = true) : wout 43 (ss.map turnL) = wout 45 ss ∧ wout 45 (ss.map turnL) = wout 43 ss := by
  induction ss with
  | nil => exact ⟨rfl, rfl⟩
  | cons s t ih =>
    rw [List.all_cons, Bool.and_eq_true] at h
    obtain ⟨i1, i2⟩ := ih h.2
    have hm := okH_mk h.1
    rw [List.map_cons, wout_cons, wout_cons, wout_cons, wout_cons, turn_mark hm, turn_tail, i1, i2]
    rcases turnI_cases hm with ⟨e1, e⟩ | ⟨e1, e⟩ | ⟨e1, e⟩ <;> rw [e, e1] <;> exact ⟨rfl, rfl⟩
theorem anyCh_turn {ss : List ByteArray} (h : ss.all okH = true) : anyCh (ss.map turnL) = anyCh ss := by
  unfold anyCh
  rw [List.any_map]
  induction ss with
  | nil => rfl
  | cons s t ih =>
    rw [List.all_cons, Bool.and_eq_true] at h
    rw [List.any_cons, List.any_cons, ih h.2]
    congr 1
    show chg1 (turnL s) = chg1 s
    have hm := okH_mk h.1
    unfold chg1
    rw [turn_mark hm]
    rcases turnI_cases hm with ⟨e1, e⟩ | ⟨e1, e⟩ | ⟨e1, e⟩ <;> rw [e, e1] <;> rfl
theorem turn_counts {ss : List ByteArray} (h : ss.all okH = true) : oldN (ss.map turnL) = newN ss ∧ newN (ss.map turnL) = oldN ss := by
  rw [← wout_old _ (all_turn h), ← wout_new _ (all_turn h), (wout_turn h).1, (wout_turn h).2, wout_new _ h, wout_old _ h]
  exact ⟨rfl, rfl⟩
theorem hkC_rev {i j : Int} {h : Hk} (e : hkC i j h = 0) : hkC j i (revH h) = 0 := by
  obtain ⟨h1, h2, h3, h4, h5, h6, h7⟩ := hkC_zero e
  refine hkC_ok ?_ (all_turn h2) (by show anyCh (h.2.2.map turnL) = true; rw [anyCh_turn h2]; exact h3) ?_ ?_
  · show ¬ 200 < (((h.2.2.map turnL).length : Nat) : Int)
    rw [List.length_map]; omega
  · rw [Bool.and_eq_true]
    exact ⟨decide_eq_true (p := 0 ≤ h.2.1 ∧ h.2.1 ≤ 100) h5, decide_eq_true (p := 0 ≤ h.1 ∧ h.1 ≤ 100) h4⟩
  · show ¬ (h.2.1 < j ∨ ¬ h.2.1 - j = h.1 - i)
    omega
theorem hfF_rev : ∀ (l : List Hk) (i j : Int), hfF l i j = 0 → hfF (l.map revH) j i = 0 := by
  intro l
  induction l with
  | nil => intro i j _; rfl
  | cons h t ih =>
    intro i j e
    by_cases hc : hkC i j h = 0
    · rw [hfF_go hc] at e
      rw [List.map_cons, hfF_go (hkC_rev hc)]
      have hk := (hkC_zero hc).2.1
      show hfF (t.map revH) (h.2.1 + oldN (h.2.2.map turnL)) (h.1 + newN (h.2.2.map turnL)) = 0
      rw [(turn_counts hk).1, (turn_counts hk).2]
      exact ih _ _ e
    · rw [hfF_stop rfl hc] at e; exact absurd e hc
theorem hf_zero {l : List Hk} (h : hf l = 0) : l.length ≤ 100 ∧ hfF l 0 0 = 0 := by
  unfold hf at h
  split at h
  · cases h
  · exact ⟨by omega, h⟩
theorem hf_rev {l : List Hk} (h : hf l = 0) : hf (l.map revH) = 0 := by
  obtain ⟨h1, h2⟩ := hf_zero h
  unfold hf
  rw [List.length_map, if_neg (by omega)]
  exact hfF_rev l 0 0 h2
/-- Turned round, hunks make the old lines of the new ones. -/
theorem rec_rev (xs ys : List ByteArray) : ∀ (l : List Hk) (i j : Nat), hfF l (i : Int) (j : Int) = 0 → i ≤ xs.length → j ≤ ys.length → okAll xs l → ys.drop j = rec1 xs l i → okAll ys (l.map revH) ∧ rec1 ys (l.map revH) j = xs.drop i := by
  intro l
  induction l with
  | nil => intro i j _ _ _ _ h; exact ⟨fun _ hh => (by cases hh), h⟩
  | cons h t ih =>
    intro i j hf hi hj hok hy
    by_cases hc : hkC (i : Int) (j : Int) h = 0
    · rw [hfF_go hc] at hf
      obtain ⟨h1, h2, h3, h4, h5, h6, h7⟩ := hkC_zero hc
      obtain ⟨a, ha⟩ : ∃ a : Nat, h.1 = (a : Int) := ⟨h.1.toNat, by omega⟩
      obtain ⟨b, hb⟩ : ∃ b : Nat, h.2.1 = (b : Int) := ⟨h.2.1.toNat, by omega⟩
      obtain ⟨O, hO⟩ : ∃ O, wout 43 h.2.2 = O := ⟨_, rfl⟩
      obtain ⟨Nw, hN⟩ : ∃ O, wout 45 h.2.2 = O := ⟨_, rfl⟩
      have ho := wout_old _ h2
      have hn := wout_new _ h2
      rw [hO] at ho
      rw [hN] at hn
      rw [← ho, ← hn, ha, hb] at hf
      have hst : stands xs a O := by
        have := hok h (List.mem_cons_self)
        rw [ha, hO] at this
        simpa using this
      have hy2 : ys.drop j = (xs.drop i).take (a - i) ++ Nw ++ rec1 xs t (a + O.length) := by
        rw [hy]
        show (xs.drop i).take (h.1.toNat - i) ++ wout 45 h.2.2 ++ rec1 xs t (h.1.toNat + (wout 43 h.2.2).length) = _
        rw [ha, hO, hN]; rfl
      have hl : ((xs.drop i).take (a - i)).length = a - i := by
        rw [List.length_take, List.length_drop]
        have := hst.1
        omega
      have hjb : b = j + (a - i) := by omega
      have hyb : ys.drop b = Nw ++ rec1 xs t (a + O.length) := by
        rw [hjb, ← List.drop_drop, hy2, List.append_assoc, List.drop_append_of_le_length (by omega), List.drop_of_length_le (by omega), List.nil_append]
      have hyr : ys.drop (b + Nw.length) = rec1 xs t (a + O.length) := by
        rw [← List.drop_drop, hyb, List.drop_left]
      have hyt : (ys.drop j).take (b - j) = (xs.drop i).take (a - i) := by
        rw [hy2, List.append_assoc, List.take_append_of_le_length (by omega), List.take_of_length_le (by omega)]
      have e2 : (ys.drop j).length = (a - i) + Nw.length + (rec1 xs t (a + O.length)).length := by rw [hy2, List.length_append, List.length_append, hl]
      rw [List.length_drop] at e2
      have hsy : stands ys b Nw := ⟨by omega, by rw [hyb, List.take_left]⟩
      obtain ⟨I1, I2⟩ := ih (a + O.length) (b + Nw.length) (by simpa using hf) hst.1 hsy.1 (fun x hx => hok x (List.mem_cons_of_mem _ hx)) hyr
      refine ⟨fun x hx => ?_, ?_⟩
      · rw [List.map_cons] at hx
        rcases List.mem_cons.1 hx with rfl | hx
        · show stands ys h.2.1.toNat (wout 43 (h.2.2.map turnL))
          rw [(wout_turn h2).1, hN, hb]
          simpa using hsy
        · exact I1 x hx
      · show (ys.drop j).take ((revH h).1.toNat - j) ++ wout 45 (revH h).2.2 ++ rec1 ys (t.map revH) ((revH h).1.toNat + (wout 43 (revH h).2.2).length) = _
        show (ys.drop j).take (h.2.1.toNat - j) ++ wout 45 (h.2.2.map turnL) ++ rec1 ys (t.map revH) (h.2.1.toNat + (wout 43 (h.2.2.map turnL)).length) = _
        rw [(wout_turn h2).1, (wout_turn h2).2, hN, hO, hb]
        show (ys.drop j).take (b - j) ++ O ++ rec1 ys (t.map revH) (b + Nw.length) = _
        rw [hyt, I2, List.append_assoc]
        have e := hst.2
        rw [show O ++ xs.drop (a + O.length) = xs.drop a from ?_]
        · exact seg_rest xs i a (by omega)
        · have := List.take_append_drop O.length (xs.drop a)
          rw [e, List.drop_drop] at this
          exact this
    · rw [hfF_stop rfl hc] at hf; exact absurd hf hc
end Go.Proofs.YtnkbjbbaoddfkaaGreatDoor
/- Hunks that are made of changes have no fault and make the other lines. Plain mathematics. No statement is proved here. -/
namespace Go.Proofs.YtnkbjbbaoddfkaaGreatDoor
open Go.RowKit

theorem okLine_last {l : List UInt8} {b : Bool} (h : okLine l b = true) : okLine l true = true := by
  unfold okLine at h ⊢
  split
  · rename_i e; rw [if_pos e] at h; exact h
  · rename_i e
    rw [if_neg e] at h
    split
    · rfl
    · rename_i e2; rw [if_neg e2] at h; exact h
theorem lf_lines {xs : List ByteArray} (h : lf xs = 0) : ∀ x ∈ xs, okLine x.data.toList true = true := by
  intro x hx
  obtain ⟨k, hk, e⟩ := List.getElem_of_mem hx
  have ha : allOk xs xs.length = true := by
    unfold lf at h
    split at h
    · cases h
    · split at h
      · assumption
      · cases h
  have := List.all_eq_true.1 ha k (List.mem_range.2 hk)
  unfold okAt at this
  rw [getD_at xs k hk, e] at this
  exact okLine_last this
theorem okH_mkL {c : UInt8} {s : ByteArray} (hc : isMk (c.toNat : Int) = true) (h : okLine s.data.toList true = true) : okH (mkL c s) = true := by
  unfold okH
  rw [Bool.and_eq_true, Bool.and_eq_true, mkL_mark, mkL_tail]
  exact ⟨decide_eq_true (by rw [mkL_size]; omega), hc, h⟩
theorem ok_seg {xs : List ByteArray} (h : ∀ x ∈ xs, okLine x.data.toList true = true) {c : UInt8} (hc : isMk (c.toNat : Int) = true) (i j : Int) : ((sg xs i j).map (mkL c)).all okH = true := by
  rw [List.all_map, List.all_eq_true]
  exact fun s hs => okH_mkL hc (h s (sg_mem hs))
theorem hlK_ok {xs ys : List ByteArray} (hx : ∀ x ∈ xs, okLine x.data.toList true = true) (hy : ∀ x ∈ ys, okLine x.data.toList true = true) (a : Int) (cs : List Chg) : ∀ k, (hlK xs ys a cs k).all okH = true := by
  intro k
  induction k with
  | zero => rfl
  | succ k ih =>
    rw [hlK_succ, List.all_append, List.all_append, List.all_append, ih, ok_seg hx (by decide), ok_seg hx (by decide), ok_seg hy (by decide)]; rfl
theorem hunkL_ok {xs ys : List ByteArray} (hx : ∀ x ∈ xs, okLine x.data.toList true = true) (hy : ∀ x ∈ ys, okLine x.data.toList true = true) (cx : Int) (cs : List Chg) : (hunkL xs ys cx cs).all okH = true := by
  unfold hunkL
  rw [List.all_append, hlK_ok hx hy, ok_seg hx (by decide)]; rfl
theorem any_mk {c : UInt8} (hc : ¬ (c.toNat : Int) = 32) {l : List ByteArray} (h : 0 < l.length) : anyCh (l.map (mkL c)) = true := by
  cases l with
  | nil => simp at h
  | cons s t =>
    unfold anyCh
    rw [List.map_cons, List.any_cons]
    have : chg1 (mkL c s) = true := by
      unfold chg1
      rw [mkL_mark]
      simpa using hc
    rw [this]; rfl
theorem anyCh_app (s t : List ByteArray) : anyCh (s ++ t) = (anyCh s || anyCh t) := List.any_append
theorem hlK_any {xs ys : List ByteArray} {a : Int} {cs : List Chg} {i j : Int} (h1 : oneW xs ys i j (cs.getD 0 (0, 0, 0, 0))) (hi : 0 ≤ i) (hj : 0 ≤ j) : ∀ k, 0 < k → anyCh (hlK xs ys a cs k) = true := by
  intro k
  induction k with
  | zero => intro h; omega
  | succ k ih =>
    intro _
    rw [hlK_succ, anyCh_app, anyCh_app, anyCh_app]
    by_cases hk : 0 < k
    · rw [ih hk]; simp
    · obtain rfl : k = 0 := by omega
      obtain ⟨g1, g2, g3, g4, g5, g6, g7, _⟩ := h1
      by_cases hp : 0 < (cs.getD 0 (0, 0, 0, 0)).2.1
      · have := sg_length xs (a := (cs.getD 0 (0, 0, 0, 0)).1) (b := (cs.getD 0 (0, 0, 0, 0)).1 + (cs.getD 0 (0, 0, 0, 0)).2.1) (by omega) (by omega) g6
        rw [any_mk (c := 45) (by decide) (by omega)]; simp
      · have := sg_length ys (a := (cs.getD 0 (0, 0, 0, 0)).2.2.1) (b := (cs.getD 0 (0, 0, 0, 0)).2.2.1 + (cs.getD 0 (0, 0, 0, 0)).2.2.2) (by omega) (by omega) g7
        rw [any_mk (c := 43) (by decide) (by omega)]; simp
/-- What ends the changes of a hunk: the next one is farther. -/
theorem nxF_cut (cx : Int) (l : List Chg) : ∀ f j, j + f = l.length → nxF cx l f j < l.length → cutB cx l (nxF cx l f j) = true := by
  intro f
  induction f with
  | zero => intro j h1 h2; rw [nxF] at h2; omega
  | succ f ih =>
    intro j h1 h2
    rw [nxF] at h2 ⊢
    by_cases e : cutB cx l j = true
    · rw [if_pos e]; exact e
    · rw [if_neg e] at h2 ⊢
      exact ih (j + 1) (by omega) h2
theorem tog_cut (cx : Int) (l : List Chg) (h0 : 0 < l.length) (h : tog cx l < l.length) : cutB cx l (tog cx l) = true := by
  unfold tog nx at h ⊢
  exact nxF_cut cx l _ 1 (by omega) h
theorem getD_take0 (l : List Chg) (n : Nat) (h : 0 < n) : (l.take n).getD 0 (0, 0, 0, 0) = l.getD 0 (0, 0, 0, 0) := getD_take4 l n 0 h
/-- Hunks of changes: no fault, they stand, and they make the other lines. -/
theorem hks_main {xs ys : List ByteArray} (hx : lf xs = 0) (hy : lf ys = 0) {cx : Int} (h0 : 0 ≤ cx) : ∀ (f : Nat) (cs : List Chg) (i j : Int), cs.length ≤ f → WK xs ys i j cs → (0 < cs.length → i ≤ hunkA cx cs) →
    hfF (hks xs ys cx cs) i j = 0 ∧ okAll xs (hks xs ys cx cs) ∧ rec1 xs (hks xs ys cx cs) i.toNat = ys.drop j.toNat := by
  have nil : ∀ (cs : List Chg) (i j : Int), cs.length = 0 → WK xs ys i j cs → hfF (hks xs ys cx cs) i j = 0 ∧ okAll xs (hks xs ys cx cs) ∧ rec1 xs (hks xs ys cx cs) i.toNat = ys.drop j.toNat := by
    intro cs i j hc h
    rw [hks_nil xs ys cx hc]
    refine ⟨rfl, fun _ hh => (by cases hh), ?_⟩
    have l2 := h.last.2
    rw [hc] at l2
    have l2' : sg xs i xs.length = sg ys j ys.length := l2
    rw [sg_end, sg_end] at l2'
    exact l2'
  intro f
  induction f with
  | zero => intro cs i j hc h _; exact nil cs i j (by omega) h
  | succ f ih =>
    intro cs i j hc h hA
    by_cases hl : cs.length = 0
    · exact nil cs i j hl h
    have hp : 0 < cs.length := by omega
    have hA := hA hp
    obtain ⟨t1, t2⟩ := tog_bd cx cs hp
    obtain ⟨t, ht⟩ : ∃ t, tog cx cs = t := ⟨_, rfl⟩
    have hcut := tog_cut cx cs hp
    rw [ht] at t1 t2 hcut
    rw [hks_step xs ys cx hp, ht]
    have ho0 : oneW xs ys i j (cs.getD 0 (0, 0, 0, 0)) := h.each 0 hp
    obtain ⟨g1, g2, g3, g4, g5, g6, g7, g8⟩ := ho0
    have hi := h.hi
    have hj := h.hj
    obtain ⟨a, ha⟩ : ∃ a, hunkA cx cs = a := ⟨_, rfl⟩
    obtain ⟨b, hb⟩ : ∃ b, j + (a - i) = b := ⟨_, rfl⟩
    have ea : a = (cs.getD 0 (0, 0, 0, 0)).1 - min cx (cs.getD 0 (0, 0, 0, 0)).1 := ha.symm
    have eA : hunkA cx (cs.take t) = a := by unfold hunkA; rw [getD_take0 _ _ (by omega), ← ea]
    have eB : hunkB cx (cs.take t) = b := by unfold hunkB; rw [getD_take0 _ _ (by omega)]; omega
    have hw : WK xs ys a b cs := by
      rw [← hb]
      exact h.shift (by omega) (by omega) (fun _ => by omega)
    have hab := hw.hi
    have hbb := hw.hj
    obtain ⟨O, N', le1, le2⟩ := hlK_olds hw t t (Nat.le_refl _) t2
    have hwe := hw.later t2
    obtain ⟨e, he⟩ : ∃ e, atK a cs t = e := ⟨_, rfl⟩
    obtain ⟨eb, heb⟩ : ∃ e, btK b cs t = e := ⟨_, rfl⟩
    rw [he] at O le1 hwe
    rw [heb] at N' le2 hwe
    have hwe1 := hwe.hi
    have hwe2 := hwe.hj
    obtain ⟨z, hz⟩ : ∃ z, min (e + cx) (xs.length : Int) = z := ⟨_, rfl⟩
    have hlen : (cs.drop t).length = cs.length - t := List.length_drop
    have hnext : 0 < (cs.drop t).length → 2 * cx < ((cs.drop t).getD 0 (0, 0, 0, 0)).1 - e := by
      intro hq
      have hc1 := of_decide_eq_true (hcut (by omega))
      rw [getD_drop4, Nat.add_zero]
      have e3 : atK a cs t = (cs.getD (t - 1) (0, 0, 0, 0)).1 + (cs.getD (t - 1) (0, 0, 0, 0)).2.1 := by
        obtain ⟨t', rfl⟩ : ∃ t', t = t' + 1 := ⟨t - 1, by omega⟩
        rfl
      rw [he] at e3
      omega
    have hws : WK xs ys z (eb + (z - e)) (cs.drop t) := hwe.shift (by omega) (by omega) (fun hq => by have := hnext hq; omega)
    have hze := hws.hi
    have hzb := hws.hj
    -- the same lines behind the last change
    have hctx : sg xs e z = sg ys eb (eb + (z - e)) := by
      by_cases hq : 0 < (cs.drop t).length
      · obtain ⟨q1, q2, _, _, _, q6, q7, q8⟩ := hwe.each 0 hq
        have q1' : e ≤ ((cs.drop t).getD 0 (0, 0, 0, 0)).1 := q1
        have q2' : ((cs.drop t).getD 0 (0, 0, 0, 0)).1 - e = ((cs.drop t).getD 0 (0, 0, 0, 0)).2.2.1 - eb := q2
        have q8' : sg xs e ((cs.drop t).getD 0 (0, 0, 0, 0)).1 = sg ys eb ((cs.drop t).getD 0 (0, 0, 0, 0)).2.2.1 := q8
        have hn := hnext hq
        have c1 := sg_app xs (a := e) (b := z) (c := ((cs.drop t).getD 0 (0, 0, 0, 0)).1) (by omega) (by omega) (by omega)
        have c2 := sg_app ys (a := eb) (b := eb + (z - e)) (c := ((cs.drop t).getD 0 (0, 0, 0, 0)).2.2.1) (by omega) (by omega) (by omega)
        rw [q8', ← c2] at c1
        have l1 := sg_length xs (a := e) (b := z) (by omega) (by omega) (by omega)
        have l2 := sg_length ys (a := eb) (b := eb + (z - e)) (by omega) (by omega) (by omega)
        exact (List.append_inj c1 (by omega)).1
      · have l := hwe.last
        rw [show (cs.drop t).length = 0 by omega] at l
        have l1 : (xs.length : Int) - e = (ys.length : Int) - eb := l.1
        have l2 : sg xs e xs.length = sg ys eb ys.length := l.2
        have c1 := sg_app xs (a := e) (b := z) (c := xs.length) (by omega) (by omega) (by omega)
        have c2 := sg_app ys (a := eb) (b := eb + (z - e)) (c := ys.length) (by omega) (by omega) (by omega)
        rw [l2, ← c2] at c1
        have m1 := sg_length xs (a := e) (b := z) (by omega) (by omega) (by omega)
        have m2 := sg_length ys (a := eb) (b := eb + (z - e)) (by omega) (by omega) (by omega)
        exact (List.append_inj c1 (by omega)).1
    have hL : hunkL xs ys cx (cs.take t) = hlK xs ys a (cs.take t) t ++ (sg xs e z).map (mkL 32) := by
      unfold hunkL
      have e4 : (cs.take t).length = t := by rw [List.length_take]; omega
      have e5 : atK a (cs.take t) t = e := by
        rw [← he]
        obtain ⟨t', rfl⟩ : ∃ t', t = t' + 1 := ⟨t - 1, by omega⟩
        rw [atK_succ, atK_succ, getD_take4 _ _ _ (by omega)]
      rw [eA, e4, e5, hz]
    have O1 : wout 43 (hunkL xs ys cx (cs.take t)) = sg xs a z := by
      rw [hL, wout_app, O, wout_mk_in (by decide), sg_app xs (by omega) le1 (by omega)]
    have N1 : wout 45 (hunkL xs ys cx (cs.take t)) = sg ys b (eb + (z - e)) := by
      rw [hL, wout_app, N', wout_mk_in (by decide), hctx, sg_app ys (by omega) le2 (by omega)]
    have hall := hunkL_ok (lf_lines hx) (lf_lines hy) cx (cs.take t)
    have hany : anyCh (hunkL xs ys cx (cs.take t)) = true := by
      rw [hL, anyCh_app, hlK_any (i := i) (j := j) (by rw [getD_take0 _ _ (by omega)]; exact h.each 0 hp) hi.1 hj.1 t (by omega)]; rfl
    have lO := sg_length xs (a := a) (b := z) (by omega) (by omega) (by omega)
    have lN := sg_length ys (a := b) (b := eb + (z - e)) (by omega) (by omega) (by omega)
    have hx1 := (lf_zero' hx).1
    have hy1 := (lf_zero' hy).1
    have two := wout_two (hunkL xs ys cx (cs.take t))
    rw [O1, N1] at two
    have hkc : hkC i j (hunkOf xs ys cx (cs.take t)) = 0 := by
      refine hkC_ok ?_ hall hany ?_ ?_
      · show ¬ 200 < ((hunkL xs ys cx (cs.take t)).length : Int)
        omega
      · rw [Bool.and_eq_true]
        refine ⟨decide_eq_true (p := 0 ≤ hunkA cx (cs.take t) ∧ hunkA cx (cs.take t) ≤ 100) ?_, decide_eq_true (p := 0 ≤ hunkB cx (cs.take t) ∧ hunkB cx (cs.take t) ≤ 100) ?_⟩
        · rw [eA]; omega
        · rw [eB]; omega
      · show ¬ (hunkA cx (cs.take t) < i ∨ ¬ hunkA cx (cs.take t) - i = hunkB cx (cs.take t) - j)
        rw [eA, eB]; omega
    have hold : hunkA cx (cs.take t) + oldN (hunkL xs ys cx (cs.take t)) = z := by
      rw [← wout_old _ hall, O1, eA]; omega
    have hnew : hunkB cx (cs.take t) + newN (hunkL xs ys cx (cs.take t)) = eb + (z - e) := by
      rw [← wout_new _ hall, N1, eB]; omega
    have hA2 : 0 < (cs.drop t).length → z ≤ hunkA cx (cs.drop t) := fun hq => by
      have := hnext hq
      unfold hunkA
      omega
    obtain ⟨I1, I2, I3⟩ := ih (cs.drop t) z (eb + (z - e)) (by omega) hws hA2
    refine ⟨?_, ?_, ?_⟩
    · rw [hfF_go hkc]
      show hfF _ (hunkA cx (cs.take t) + oldN (hunkL xs ys cx (cs.take t))) (hunkB cx (cs.take t) + newN (hunkL xs ys cx (cs.take t))) = 0
      rw [hold, hnew]; exact I1
    · intro x hx'
      rcases List.mem_cons.1 hx' with rfl | hx'
      · show stands xs (hunkA cx (cs.take t)).toNat (wout 43 (hunkL xs ys cx (cs.take t)))
        rw [eA, O1]
        exact sg_stands (by omega) (by omega) (by omega)
      · exact I2 x hx'
    · show (xs.drop i.toNat).take ((hunkA cx (cs.take t)).toNat - i.toNat) ++ wout 45 (hunkL xs ys cx (cs.take t)) ++ rec1 xs _ ((hunkA cx (cs.take t)).toNat + (wout 43 (hunkL xs ys cx (cs.take t))).length) = _
      rw [eA, O1, N1, show a.toNat + (sg xs a z).length = z.toNat by omega, I3]
      show sg xs i a ++ _ ++ _ = _
      have e6 : sg xs i a = sg ys j b := by
        have c1 := sg_app xs (a := i) (b := a) (c := (cs.getD 0 (0, 0, 0, 0)).1) (by omega) (by omega) (by omega)
        have c2 := sg_app ys (a := j) (b := b) (c := (cs.getD 0 (0, 0, 0, 0)).2.2.1) (by omega) (by omega) (by omega)
        have g8' : sg xs i (cs.getD 0 (0, 0, 0, 0)).1 = sg ys j (cs.getD 0 (0, 0, 0, 0)).2.2.1 := g8
        rw [g8', ← c2] at c1
        have m1 := sg_length xs (a := i) (b := a) (by omega) (by omega) (by omega)
        have m2 := sg_length ys (a := j) (b := b) (by omega) (by omega) (by omega)
        exact (List.append_inj c1 (by omega)).1
      rw [e6, sg_app ys (by omega) (by omega) (by omega), ← sg_end (xs := ys) (a := eb + (z - e)), sg_app ys (by omega) (by omega) (by omega), sg_end]
theorem changes_few (xs ys : List ByteArray) (hx : xs.length ≤ 100) (hy : ys.length ≤ 100) : (changes xs ys).length ≤ 100 := by
  have hw := changes_wk xs ys
  have h1 : (changes xs ys).length ≤ com xs ys + 1 := by
    have := chg_length (ends xs ys) 0 0
    unfold ends at this
    rw [List.length_append, mat_length xs ys _ 0 0 (Nat.le_refl _), comAt_zero] at this
    exact this
  have h2 := edits_changes xs ys
  have key : ∀ l : List Chg, (∀ c ∈ l, 0 < c.2.1 + c.2.2.2) → (l.length : Int) ≤ edits l := by
    intro l
    induction l with
    | nil => intro _; simp [edits]
    | cons c t ih =>
      intro h
      rw [edits_cons, List.length_cons]
      have := ih (fun x hx => h x (List.mem_cons_of_mem _ hx))
      have := h c (List.mem_cons_self)
      omega
  have h3 := key (changes xs ys) (fun c hc => by
    obtain ⟨k, hk, e⟩ := List.getElem_of_mem hc
    obtain ⟨_, _, _, _, g5, _⟩ := hw.each k hk
    rw [show (changes xs ys).getD k (0, 0, 0, 0) = c by simp [List.getD, hk, e]] at g5
    exact g5)
  have h4 := comAt_le xs ys 0 0
  rw [comAt_zero] at h4
  omega
/-- All that FnPatches asks. -/
theorem pt_all {xs ys : List ByteArray} (hx : lf xs = 0) (hy : lf ys = 0) {cx : Int} (h0 : 0 ≤ cx) :
    hf (hks xs ys cx (changes xs ys)) = 0 ∧ apOk xs (hks xs ys cx (changes xs ys)) = true ∧ apAll xs (hks xs ys cx (changes xs ys)) = ys ∧
    hf ((hks xs ys cx (changes xs ys)).map revH) = 0 ∧ apOk ys ((hks xs ys cx (changes xs ys)).map revH) = true ∧ apAll ys ((hks xs ys cx (changes xs ys)).map revH) = xs := by
  obtain ⟨h1, h2, h3⟩ := hks_main hx hy h0 _ (changes xs ys) 0 0 (Nat.le_refl _) (changes_wk xs ys) (fun _ => by unfold hunkA; have := (changes_cw xs ys).bd 0 (by assumption); omega)
  have hn := hks_length xs ys cx _ (changes xs ys) (Nat.le_refl _)
  have hm := changes_few xs ys (lf_zero' hx).1 (lf_zero' hy).1
  have hz : hf (hks xs ys cx (changes xs ys)) = 0 := by
    unfold hf
    rw [if_neg (by omega)]
    exact h1
  obtain ⟨r1, r2⟩ := rec_rev xs ys (hks xs ys cx (changes xs ys)) 0 0 h1 (Nat.zero_le _) (Nat.zero_le _) h2 h3.symm
  exact ⟨hz, (apOk_iff _ _).2 h2, by rw [apAll_rec]; exact h3, hf_rev hz, (apOk_iff _ _).2 r1, by rw [apAll_rec]; exact r2⟩
/-- All that FnRejects asks. -/
theorem rj_all {xs : List ByteArray} {l : List Hk} (h : hf l = 0) (h2 : apOk xs l = true) :
    hf (l.map revH) = 0 ∧ apOk (apAll xs l) (l.map revH) = true ∧ apAll (apAll xs l) (l.map revH) = xs := by
  obtain ⟨_, h1⟩ := hf_zero h
  obtain ⟨r1, r2⟩ := rec_rev xs (apAll xs l) l 0 0 h1 (Nat.zero_le _) (Nat.zero_le _) ((apOk_iff _ _).1 h2) (by rw [List.drop_zero, apAll_rec])
  exact ⟨hf_rev h, (apOk_iff _ _).2 r1, by rw [apAll_rec]; exact r2⟩
end Go.Proofs.YtnkbjbbaoddfkaaGreatDoor
/- Hunks that are drawn: rows of hunks of which one is turned. No statement is proved here. -/
namespace Go.Proofs.YtnkbjbbaoddfkaaGreatDoor
open Go.ChangeShapes Go.WideShapes Go.ChangeAt Go.RowKit

theorem setB0 (l : List ByteArray) (z : ByteArray) (h : 0 < l.length) : (l.set 0 z).getD 0 ByteArray.empty = z := by
  cases l with
  | nil => simp at h
  | cons a t => rfl
theorem setBj (l : List ByteArray) (z : ByteArray) (j : Nat) (h : ¬ j = 0) : (l.set 0 z).getD j ByteArray.empty = l.getD j ByteArray.empty := by
  cases l with
  | nil => rfl
  | cons a t =>
    cases j with
    | zero => exact absurd rfl h
    | succ j => rfl
/-- A row of hunks that can be read. -/
structure RowH (w : World) (g : Nat) (L : List Hk) (sl : Nat → Value) : Prop where
  cells : ∀ j, j < L.length * 3 → w.cell? ⟨g, j, none⟩ = some (hcell L sl j)
  lt : g < w.heap.size
  each : ∀ k, k < L.length → ∃ ak ck, sl k = .slice ak (L.getD k (0, 0, [])).2.2.length ck ∧ SS w ak (L.getD k (0, 0, [])).2.2
theorem RowH.hb {w : World} {g : Nat} {L : List Hk} {sl : Nat → Value} (h : RowH w g L sl) : HB w.heap.size w (some ⟨g, 0, none⟩) L := by
  intro k hk
  obtain ⟨ak, ck, e, hS⟩ := h.each k hk
  refine ⟨g, 0, ak, ck, rfl, h.lt, ?_, ?_, ?_, hS⟩
  · rw [Nat.zero_add, h.cells (k * 3) (by omega), hcell0]
  · rw [Nat.zero_add, h.cells (k * 3 + 1) (by omega), hcell1]
  · rw [Nat.zero_add, h.cells (k * 3 + 2) (by omega), hcell2, e]
theorem HO.rowH {base g c : Nat} {w : World} {L : List Hk} {sl : Nat → Value} (h : HO base w (.slice (some ⟨g, 0, none⟩) L.length c) L sl) (hf : Fits L) : RowH w g L sl := by
  refine ⟨fun j hj => ?_, (h.row.lt g rfl).2, fun k hk => ?_⟩
  · rw [h.row.cellAt j (by omega), rowF_at _ _ _ hj]
  · obtain ⟨ak, ck, e⟩ := shapeS (h.each k hk)
    exact ⟨ak, ck, e, ownSS (by rw [← e]; exact h.each k hk) (hf _ (getD_mem L k hk))⟩
theorem hcell_num (L : List Hk) (sl : Nat → Value) (i n : Nat) (x : Int) (hi : i < L.length) : (rowF (hcell L sl) n).set (i * 3) (.int .i64 x) = rowF (hcell (L.set i (x, (L.getD i (0, 0, [])).2)) sl) n := by
  rw [rowF_set]
  refine rowF_congr fun j _ => ?_
  by_cases h0 : j = i * 3
  · subst h0
    rw [if_pos rfl, hcell0, setD_same L i _ hi]
  · rw [if_neg h0]
    unfold hcell
    by_cases e : j / 3 = i
    · have h3 : ¬ j % 3 = 0 := by omega
      rw [e, setD_same L i _ hi, if_neg h3, if_neg h3]
    · rw [setD_other L i (j / 3) _ e]
theorem hcell_num1 (L : List Hk) (sl : Nat → Value) (i n : Nat) (x : Int) (hi : i < L.length) : (rowF (hcell L sl) n).set (i * 3 + 1) (.int .i64 x) = rowF (hcell (L.set i ((L.getD i (0, 0, [])).1, x, (L.getD i (0, 0, [])).2.2)) sl) n := by
  rw [rowF_set]
  refine rowF_congr fun j _ => ?_
  by_cases h0 : j = i * 3 + 1
  · subst h0
    rw [if_pos rfl, hcell1, setD_same L i _ hi]
  · rw [if_neg h0]
    unfold hcell
    by_cases e : j / 3 = i
    · rw [e, setD_same L i _ hi]
      by_cases h1 : j % 3 = 0
      · rw [if_pos h1, if_pos h1]
      · rw [if_neg h1, if_neg h1, if_neg (by omega), if_neg (by omega)]
    · rw [setD_other L i (j / 3) _ e]
theorem hcell_lines (L : List Hk) (sl : Nat → Value) (i n : Nat) (ss : List ByteArray) (hi : i < L.length) : rowF (hcell (L.set i ((L.getD i (0, 0, [])).1, (L.getD i (0, 0, [])).2.1, ss)) sl) n = rowF (hcell L sl) n := by
  refine rowF_congr fun j _ => ?_
  unfold hcell
  by_cases e : j / 3 = i
  · rw [e, setD_same L i _ hi]
  · rw [setD_other L i (j / 3) _ e]
theorem hcell_tail (L : List Hk) (sl : Nat → Value) (i n : Nat) (ss : List ByteArray) (u : Value) (hi : i < L.length) : (rowF (hcell L sl) n).set (i * 3 + 2) u = rowF (hcell (L.set i ((L.getD i (0, 0, [])).1, (L.getD i (0, 0, [])).2.1, ss)) (fun k => if k = i then u else sl k)) n := by
  rw [rowF_set]
  refine rowF_congr fun j _ => ?_
  by_cases h0 : j = i * 3 + 2
  · subst h0
    rw [if_pos rfl, hcell2, if_pos rfl]
  · rw [if_neg h0]
    unfold hcell
    by_cases e : j / 3 = i
    · rw [e, setD_same L i _ hi]
      by_cases h1 : j % 3 = 0
      · rw [if_pos h1, if_pos h1]
      · rw [if_neg h1, if_neg h1, if_pos (by omega), if_pos (by omega)]
    · rw [setD_other L i (j / 3) _ e]
      simp only [e, if_false]
theorem HO.apartG {base g c : Nat} {w : World} {L : List Hk} {sl : Nat → Value} (h : HO base w (.slice (some ⟨g, 0, none⟩) L.length c) L sl) {k : Nat} (hk : k < L.length) : ∀ b, (sl k).ownBlock = some b → some g = some b → False := fun b hb e => by
  simp only [Option.some.injEq] at e
  subst e
  exact h.off k hk g rfl hb
/-- A cell of the row is stored: what the hunks are then. -/
theorem HO.stored {base g c : Nat} {w : World} {L L' : List Hk} {sl sl' : Nat → Value} (h : HO base w (.slice (some ⟨g, 0, none⟩) L.length c) L sl) (o : Nat) (v : Value) (hl : L'.length = L.length)
    (hr : (rowF (hcell L sl) (L.length * 3)).set o v = rowF (hcell L' sl') (L.length * 3))
    (he : ∀ k, k < L.length → ∃ ak ck, sl' k = .slice ak (L'.getD k (0, 0, [])).2.2.length ck ∧ SS (w.setCell ⟨g, o, none⟩ v) ak (L'.getD k (0, 0, [])).2.2) : RowH (w.setCell ⟨g, o, none⟩ v) g L' sl' := by
  have s0 := h.row.stored o v
  have r := s0.1
  rw [hr] at r
  refine ⟨fun j hj => ?_, by simpa using (h.row.lt g rfl).2, fun k hk => he k (by omega)⟩
  rw [r.cellAt j (by omega), rowF_at _ _ _ (by omega)]
theorem HO.eachSet {base g c : Nat} {w : World} {L : List Hk} {sl : Nat → Value} (h : HO base w (.slice (some ⟨g, 0, none⟩) L.length c) L sl) (hf : Fits L) (o : Nat) (v : Value) {k : Nat} (hk : k < L.length) : ∃ ak ck, sl k = .slice ak (L.getD k (0, 0, [])).2.2.length ck ∧ SS (w.setCell ⟨g, o, none⟩ v) ak (L.getD k (0, 0, [])).2.2 := by
  have s0 := h.row.stored o v
  have o3 := (h.each k hk).kept s0.2 (blockCases _ _ fun b c1 c2 => h.apartG hk b c1 c2)
  obtain ⟨ak, ck, e⟩ := shapeS o3
  exact ⟨ak, ck, e, ownSS (by rw [← e]; exact o3) (hf _ (getD_mem L k hk))⟩
theorem HO.num0 {base g c : Nat} {w : World} {L : List Hk} {sl : Nat → Value} (h : HO base w (.slice (some ⟨g, 0, none⟩) L.length c) L sl) (hf : Fits L) {i : Nat} (hi : i < L.length) (x : Int) : RowH (w.setCell ⟨g, i * 3, none⟩ (.int .i64 x)) g (L.set i (x, (L.getD i (0, 0, [])).2)) sl := by
  refine h.stored _ _ (List.length_set ..) (hcell_num L sl i _ x hi) fun k hk => ?_
  obtain ⟨ak, ck, e, hS⟩ := h.eachSet hf (i * 3) (.int .i64 x) hk
  by_cases ek : k = i
  · subst ek; rw [setD_same L k _ hi]; exact ⟨ak, ck, e, hS⟩
  · rw [setD_other L i k _ ek]; exact ⟨ak, ck, e, hS⟩
theorem HO.num1 {base g c : Nat} {w : World} {L : List Hk} {sl : Nat → Value} (h : HO base w (.slice (some ⟨g, 0, none⟩) L.length c) L sl) (hf : Fits L) {i : Nat} (hi : i < L.length) (x : Int) : RowH (w.setCell ⟨g, i * 3 + 1, none⟩ (.int .i64 x)) g (L.set i ((L.getD i (0, 0, [])).1, x, (L.getD i (0, 0, [])).2.2)) sl := by
  refine h.stored _ _ (List.length_set ..) (hcell_num1 L sl i _ x hi) fun k hk => ?_
  obtain ⟨ak, ck, e, hS⟩ := h.eachSet hf (i * 3 + 1) (.int .i64 x) hk
  by_cases ek : k = i
  · subst ek; rw [setD_same L k _ hi]; exact ⟨ak, ck, e, hS⟩
  · rw [setD_other L i k _ ek]; exact ⟨ak, ck, e, hS⟩
/-- The lines of hunk i begin one later. -/
theorem HO.tail {base g c ci gi : Nat} {w : World} {L : List Hk} {sl : Nat → Value} (h : HO base w (.slice (some ⟨g, 0, none⟩) L.length c) L sl) (hf : Fits L) {i : Nat} (hi : i < L.length) (hs : sl i = .slice (some ⟨gi, 0, none⟩) (L.getD i (0, 0, [])).2.2.length ci) (hp : 0 < (L.getD i (0, 0, [])).2.2.length) (hc : (L.getD i (0, 0, [])).2.2.length ≤ ci)
    (A : Option Addr) (hA : (if ci = 1 then some ⟨gi, 0, none⟩ else Option.map (fun x => x.add 1) (some (⟨gi, 0, none⟩ : Addr))) = A) (cc : Nat) :
    RowH (w.setCell ⟨g, i * 3 + 2, none⟩ (.slice A ((L.getD i (0, 0, [])).2.2.length - 1) cc)) g (L.set i ((L.getD i (0, 0, [])).1, (L.getD i (0, 0, [])).2.1, (L.getD i (0, 0, [])).2.2.drop 1)) (fun k => if k = i then .slice A ((L.getD i (0, 0, [])).2.2.length - 1) cc else sl k) := by
  refine h.stored _ _ (List.length_set ..) (hcell_tail L sl i _ _ _ hi) fun k hk => ?_
  obtain ⟨ak, ck, e, hS⟩ := h.eachSet hf (i * 3 + 2) (.slice A ((L.getD i (0, 0, [])).2.2.length - 1) cc) hk
  by_cases ek : k = i
  · subst ek
    rw [if_pos rfl, setD_same L k _ hi]
    refine ⟨A, cc, by simp, ?_⟩
    rw [hs] at e
    simp only [Value.slice.injEq] at e
    obtain ⟨e1, _, e3⟩ := e
    subst e1 e3
    have := segSSB hS.toB 1 (L.getD k (0, 0, [])).2.2.length ci (by omega) (Nat.le_refl _) hc
    rw [hA, List.take_of_length_le (by simp)] at this
    exact this
  · rw [if_neg ek, setD_other L i k _ ek]; exact ⟨ak, ck, e, hS⟩
/-- The first line of hunk i is another. -/
theorem HO.line0 {base g c ci gi : Nat} {w : World} {L : List Hk} {sl : Nat → Value} (h : HO base w (.slice (some ⟨g, 0, none⟩) L.length c) L sl) (hf : Fits L) {i : Nat} (hi : i < L.length) (hs : sl i = .slice (some ⟨gi, 0, none⟩) (L.getD i (0, 0, [])).2.2.length ci) (z : ByteArray) (hz : z.size ≤ 9223372036854775807) :
    RowH (w.setCell ⟨gi, 0, none⟩ (.string z)) g (L.set i ((L.getD i (0, 0, [])).1, (L.getD i (0, 0, [])).2.1, (L.getD i (0, 0, [])).2.2.set 0 z)) sl := by
  have hi' := h.each i hi
  rw [hs] at hi'
  have s0 := hi'.stored 0 (.string z)
  have hne : ∀ b, (some g = some b) → some gi = some b → False := fun b e1 e2 => by
    simp only [Option.some.injEq] at e1 e2
    exact h.off i hi g rfl (by rw [hs]; show some gi = some g; rw [e2, ← e1])
  have r := h.row.kept s0.2 (blockCases _ _ fun b c1 c2 => hne b (by rw [← c1]; rfl) c2)
  refine ⟨fun j hj => ?_, by simpa using (h.row.lt g rfl).2, fun k hk => ?_⟩
  · rw [List.length_set] at hj
    rw [r.cellAt j (by omega), rowF_at _ _ _ hj]
    have := hcell_lines L sl i (L.length * 3) ((L.getD i (0, 0, [])).2.2.set 0 z) hi
    have e1 := rowF_at (hcell (L.set i ((L.getD i (0, 0, [])).1, (L.getD i (0, 0, [])).2.1, (L.getD i (0, 0, [])).2.2.set 0 z)) sl) (L.length * 3) j hj
    rw [this, rowF_at _ _ _ hj] at e1
    exact e1
  · rw [List.length_set] at hk
    by_cases ek : k = i
    · subst ek
      rw [setD_same L k _ hi]
      have q := s0.1
      have e5 : ((L.getD k (0, 0, [])).2.2.map Value.string).set 0 (.string z) = ((L.getD k (0, 0, [])).2.2.set 0 z).map Value.string := by rw [List.map_set]
      rw [e5] at q
      refine ⟨some ⟨gi, 0, none⟩, ci, by rw [hs]; simp, ?_⟩
      refine ownSS (cap := ci) (base := base) (by simpa using q) fun j hj => ?_
      simp only [List.length_set] at hj
      by_cases e0 : j = 0
      · subst e0
        have := setB0 (L.getD k (0, 0, [])).2.2 z hj
        rw [this]; exact hz
      · have := setBj (L.getD k (0, 0, [])).2.2 z j e0
        rw [this]; exact hf _ (getD_mem L k hi) j hj
    · rw [setD_other L i k _ ek]
      have o3 := (h.each k hk).kept s0.2 (blockCases _ _ fun b c1 c2 => by
        have c2' : (sl i).ownBlock = some b := by rw [hs, ← c2]; rfl
        rcases Nat.lt_or_ge k i with h' | h'
        · exact h.apart k i h' hi b c1 c2'
        · exact h.apart i k (by omega) hk b c2' c1)
      obtain ⟨ak, ck, e⟩ := shapeS o3
      exact ⟨ak, ck, e, ownSS (by rw [← e]; exact o3) (hf _ (getD_mem L k hk))⟩
/-- Hunk i once more at the end. -/
theorem HO.again {base g c : Nat} {w w' : World} {L : List Hk} {sl : Nat → Value} {v' : Value} (h : HO base w (.slice (some ⟨g, 0, none⟩) L.length c) L sl) (hf : Fits L) {i : Nat} (hi : i < L.length)
    (r : w'.ownsRow base 35 3 v' (L.length + 1) (rowF (hcell L sl) (L.length * 3) ++ [.int .i64 (L.getD i (0, 0, [])).1, .int .i64 (L.getD i (0, 0, [])).2.1, sl i])) (hg : w.grownBy w' (some g)) :
    ∃ g' c', v' = .slice (some ⟨g', 0, none⟩) (L ++ [L.getD i (0, 0, [])]).length c' ∧ RowH w' g' (L ++ [L.getD i (0, 0, [])]) (fun k => if k = L.length then sl i else sl k) := by
  rw [hcell_snoc] at r
  have hE : ∀ k, k < L.length → ∃ ak ck, sl k = .slice ak (L.getD k (0, 0, [])).2.2.length ck ∧ SS w' ak (L.getD k (0, 0, [])).2.2 := fun k hk => by
    have o3 := (h.each k hk).kept hg (blockCases _ _ fun b c1 c2 => h.apartG hk b c1 c2)
    obtain ⟨ak, ck, e⟩ := shapeS o3
    exact ⟨ak, ck, e, ownSS (by rw [← e]; exact o3) (hf _ (getD_mem L k hk))⟩
  rcases r.2 with ⟨_, h0⟩ | ⟨g', c', cur, e', _⟩
  · omega
  · subst e'
    refine ⟨g', c', by simp, fun j hj => ?_, (r.lt g' rfl).2, fun k hk => ?_⟩
    · simp only [List.length_append, List.length_cons, List.length_nil] at hj
      rw [r.cellAt j (by omega), rowF_at _ _ _ (by omega)]
    · simp only [List.length_append, List.length_cons, List.length_nil] at hk
      by_cases e : k = L.length
      · subst e
        rw [if_pos rfl, show (L ++ [L.getD i (0, 0, [])]).getD L.length (0, 0, []) = L.getD i (0, 0, []) by simp [List.getD]]
        exact hE i hi
      · rw [if_neg e, show (L ++ [L.getD i (0, 0, [])]).getD k (0, 0, []) = L.getD k (0, 0, []) by rw [List.getD, List.getD, List.getElem?_append_left (by omega)]; rfl]
        exact hE k (by omega)

/-! Bounds. -/
theorem tot_bd {ss : List ByteArray} {Z : Nat} (h : ∀ x ∈ ss, x.size ≤ Z) : tot ss ≤ (ss.length * Z : Nat) := by
  induction ss with
  | nil => simp [tot]
  | cons y ys ih =>
    have e : tot (y :: ys) = (y.size : Int) + tot ys := by simp [tot]
    have h1 := h y (List.mem_cons_self)
    have h2 := ih (fun x hx => h x (List.mem_cons_of_mem _ hx))
    rw [e, List.length_cons, Nat.add_mul]; omega
def okS (h : Hk) : Prop := h.2.2.length ≤ 3000 ∧ ∀ s ∈ h.2.2, s.size ≤ 12
def Bd (n : Nat) (l : List Hk) : Prop := l.length ≤ n ∧ ∀ h ∈ l, okS h
theorem okS.tot {h : Hk} (k : okS h) : tot h.2.2 ≤ 36000 := by
  have := tot_bd (ss := h.2.2) (Z := 12) (fun x hx => k.2 x hx)
  have h2 : h.2.2.length * 12 ≤ 3000 * 12 := Nat.mul_le_mul_right _ k.1
  omega
structure Fine (l : List Hk) : Prop where
  len : l.length ≤ 1000
  short : Shortly l
  size : ∀ h ∈ l, ∀ s ∈ h.2.2, s.size ≤ 1048576
  tk : totK l l.length ≤ 400000
theorem Bd.fine {n : Nat} {l : List Hk} (h : Bd n l) (hn : n ≤ 11) : Fine l := by
  refine ⟨by have := h.1; omega, fun x hx => by have := (h.2 x hx).1; omega, fun x hx s hs => by have := (h.2 x hx).2 s hs; omega, ?_⟩
  have key : ∀ k, k ≤ l.length → totK l k ≤ k * 36000 := by
    intro k
    induction k with
    | zero => intro _; exact Int.le_refl _
    | succ k ih =>
      intro hk
      have I := ih (by omega)
      have e : totK l (k + 1) = totK l k + tot (l.getD k (0, 0, [])).2.2 := rfl
      have := (h.2 (l.getD k (0, 0, [])) (getD_mem l k (by omega))).tot
      rw [e]; omega
  have := key l.length (Nat.le_refl _)
  have := h.1
  omega
theorem Bd.set {n : Nat} {l : List Hk} (h : Bd n l) (i : Nat) {X : Hk} (hX : okS X) : Bd n (l.set i X) := by
  refine ⟨by rw [List.length_set]; exact h.1, fun x hx => ?_⟩
  rcases List.mem_or_eq_of_mem_set hx with hx | rfl
  · exact h.2 x hx
  · exact hX
theorem Bd.snoc {n : Nat} {l : List Hk} (h : Bd n l) {X : Hk} (hX : okS X) : Bd (n + 1) (l ++ [X]) := by
  refine ⟨by rw [List.length_append]; have := h.1; simp; omega, fun x hx => ?_⟩
  rcases List.mem_append.1 hx with hx | hx
  · exact h.2 x hx
  · rw [List.mem_singleton.1 hx]; exact hX
theorem Fine.fits {l : List Hk} (h : Fine l) : Fits l := fun x hx k hk => by
  rw [getD_at _ k hk]
  have := h.size x hx _ (List.getElem_mem hk)
  omega
theorem fine_zero (n : Nat) (hn : n ≤ 1000) : Fine (List.replicate n (0, 0, [])) := by
  refine ⟨by simpa using hn, fun x hx => ?_, fun x hx s hs => ?_, ?_⟩
  · rw [List.eq_of_mem_replicate hx]; simp
  · rw [List.eq_of_mem_replicate hx] at hs; cases hs
  · have key : ∀ (l : List Hk), (∀ k, (l.getD k (0, 0, [])).2.2 = []) → ∀ k, totK l k = 0 := by
      intro l hl k
      induction k with
      | zero => rfl
      | succ k ih =>
        have e : totK l (k + 1) = totK l k + tot (l.getD k (0, 0, [])).2.2 := rfl
        rw [e, ih, hl k]; rfl
    rw [key _ (fun k => by rw [List.getD, List.getElem?_replicate]; split <;> rfl)]
    omega
theorem hks_bd {xs ys : List ByteArray} (hx : xs.length ≤ 8) (hy : ys.length ≤ 11) (sx : ∀ x ∈ xs, x.size ≤ 9) (sy : ∀ x ∈ ys, x.size ≤ 9) (cx : Int) : Bd 9 (hks xs ys cx (changes xs ys)) := by
  have h1 : (changes xs ys).length ≤ com xs ys + 1 := by
    have := chg_length (ends xs ys) 0 0
    unfold ends at this
    rw [List.length_append, mat_length xs ys _ 0 0 (Nat.le_refl _), comAt_zero] at this
    exact this
  have h4 := comAt_le xs ys 0 0
  rw [comAt_zero] at h4
  have h2 := hks_length xs ys cx _ (changes xs ys) (Nat.le_refl _)
  refine ⟨by omega, fun h hh => ?_⟩
  obtain ⟨i, j, rfl⟩ := hks_mem xs ys cx _ (changes xs ys) (Nat.le_refl _) h hh
  have hcl : (((changes xs ys).drop i).take j).length ≤ 9 := by rw [List.length_take, List.length_drop]; omega
  have h5 := hunkL_length (((changes_cw xs ys).drop i).take j) (by omega) (by omega) cx
  refine ⟨?_, fun s hs => ?_⟩
  · show (hunkL xs ys cx _).length ≤ _
    omega
  · have := hunkL_small sx sy cx _ s hs
    omega
/-- Turned round, hunks without a fault are as long. -/
theorem turn_tot {ss : List ByteArray} (h : ss.all okH = true) : tot (ss.map turnL) = tot ss := by
  induction ss with
  | nil => rfl
  | cons s t ih =>
    rw [List.all_cons, Bool.and_eq_true] at h
    have hz := okH_size h.1
    have e1 : tot (s :: t) = (s.size : Int) + tot t := by simp [tot]
    have e2 : tot (turnL s :: t.map turnL) = ((turnL s).size : Int) + tot (t.map turnL) := by simp [tot]
    have e3 : (turnL s).size = s.size := by rw [turnL_mk, mkL_size, tail_size]; omega
    rw [List.map_cons, e1, e2, ih h.2, e3]
theorem hf_oks {l : List Hk} (h : hf l = 0) : ∀ x ∈ l, x.2.2.all okH = true := by
  intro x hx
  obtain ⟨k, hk, e⟩ := List.getElem_of_mem hx
  have := ap_nums h hk
  rw [show l.getD k (0, 0, []) = x by simp [List.getD, hk, e]] at this
  exact this.2.2.2.2
theorem Fine.rev {l : List Hk} (h : Fine l) (h0 : hf l = 0) : Fine (l.map revH) := by
  have ha := hf_oks h0
  refine ⟨by rw [List.length_map]; exact h.len, fun y hy => ?_, fun y hy s hs => ?_, ?_⟩
  · obtain ⟨x, hx, rfl⟩ := List.mem_map.1 hy
    show (x.2.2.map turnL).length ≤ 1048576
    rw [List.length_map]; exact h.short x hx
  · obtain ⟨x, hx, rfl⟩ := List.mem_map.1 hy
    obtain ⟨t, ht, rfl⟩ := List.mem_map.1 hs
    have hz := okH_size (List.all_eq_true.1 (ha x hx) t ht)
    have e3 : (turnL t).size = t.size := by rw [turnL_mk, mkL_size, tail_size]; omega
    rw [e3]; exact h.size x hx t ht
  · have key : ∀ k, k ≤ l.length → totK (l.map revH) k = totK l k := by
      intro k
      induction k with
      | zero => intro _; rfl
      | succ k ih =>
        intro hk
        have e : totK (l.map revH) (k + 1) = totK (l.map revH) k + tot ((l.map revH).getD k (0, 0, [])).2.2 := rfl
        have e' : totK l (k + 1) = totK l k + tot (l.getD k (0, 0, [])).2.2 := rfl
        have e2 : (l.map revH).getD k (0, 0, []) = revH (l.getD k (0, 0, [])) := by simp [List.getD, show k < l.length by omega]
        rw [e, e', ih (by omega), e2]
        show _ + tot ((l.getD k (0, 0, [])).2.2.map turnL) = _
        rw [turn_tot (ha _ (getD_mem l k (by omega)))]
    rw [List.length_map, key l.length (Nat.le_refl _)]
    exact h.tk
/-- No hunk of changes is without a line. -/
theorem hks_pos {xs ys : List ByteArray} {cx : Int} : ∀ (f : Nat) (cs : List Chg) (i j : Int), cs.length ≤ f → WK xs ys i j cs → ∀ h ∈ hks xs ys cx cs, 0 < h.2.2.length := by
  intro f
  induction f with
  | zero => intro cs i j hc _ h hh; rw [hks_nil xs ys cx (by omega)] at hh; cases hh
  | succ f ih =>
    intro cs i j hc hw h hh
    by_cases hl : cs.length = 0
    · rw [hks_nil xs ys cx hl] at hh; cases hh
    have hp : 0 < cs.length := by omega
    obtain ⟨t1, t2⟩ := tog_bd cx cs hp
    rw [hks_step xs ys cx hp] at hh
    rcases List.mem_cons.1 hh with rfl | hh
    · have e4 : (cs.take (tog cx cs)).length = tog cx cs := by rw [List.length_take]; omega
      have hany := hlK_any (a := hunkA cx (cs.take (tog cx cs))) (cs := cs.take (tog cx cs)) (i := i) (j := j) (by rw [getD_take0 _ _ (by omega)]; exact hw.each 0 hp) hw.hi.1 hw.hj.1 (tog cx cs) (by omega)
      show 0 < (hunkL xs ys cx (cs.take (tog cx cs))).length
      unfold hunkL
      rw [e4, List.length_append]
      cases e : hlK xs ys (hunkA cx (cs.take (tog cx cs))) (cs.take (tog cx cs)) (tog cx cs) with
      | nil => rw [e] at hany; cases hany
      | cons x r => rw [List.length_cons]; omega
    · exact ih (cs.drop (tog cx cs)) _ _ (by rw [List.length_drop]; omega) (hw.later t2) h hh
end Go.Proofs.YtnkbjbbaoddfkaaGreatDoor
