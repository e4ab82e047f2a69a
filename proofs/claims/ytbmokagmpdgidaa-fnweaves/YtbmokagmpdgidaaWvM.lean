/- The changes that are told make the other lines, and have no fault. Plain mathematics. No statement is proved here. -/
import Derived.Test.YtbmokagmpdgidaaRows
import Derived.Test.YtbmokagmpdgidaaCom
import Derived.Test.YtbmokagmpdgidaaTri
import Derived.Test.YtbmokagmpdgidaaCFC
import Derived.Test.YtbmokagmpdgidaaWvL
namespace Go.Proofs.Ytbmokagmpdgidaa

/-- Places from i and j on: they rise on both sides, and the lines there are the same. -/
def GoodM (xs ys : List ByteArray) : List (Nat × Nat) → Nat → Nat → Prop
  | [], i, j => i ≤ xs.length ∧ j ≤ ys.length
  | (p, q) :: r, i, j => i ≤ p ∧ j ≤ q ∧ p < xs.length ∧ q < ys.length ∧ xs.getD p ByteArray.empty = ys.getD q ByteArray.empty ∧ GoodM xs ys r (p + 1) (q + 1)
theorem good_mat (xs ys : List ByteArray) : ∀ (f i j i0 j0 : Nat), (xs.length - i) + (ys.length - j) ≤ f → i0 ≤ i → i ≤ xs.length → j0 ≤ j → j ≤ ys.length → GoodM xs ys (mat xs ys i j) i0 j0 := by
  intro f
  induction f with
  | zero =>
    intro i j i0 j0 h h1 h2 h3 h4
    rw [mat_end xs ys i j (by omega)]
    exact ⟨by omega, by omega⟩
  | succ f ih =>
    intro i j i0 j0 h h1 h2 h3 h4
    by_cases hij : i < xs.length ∧ j < ys.length
    · obtain ⟨hi, hj⟩ := hij
      by_cases e : xs.getD i ByteArray.empty = ys.getD j ByteArray.empty
      · rw [mat_eq xs ys i j hi hj e]
        exact ⟨h1, h3, hi, hj, e, ih (i + 1) (j + 1) (i + 1) (j + 1) (by omega) (Nat.le_refl _) (by omega) (Nat.le_refl _) (by omega)⟩
      · by_cases hs : skipA xs ys i j = true
        · rw [mat_skipA xs ys i j hi hj e hs]
          exact ih (i + 1) j i0 j0 (by omega) (by omega) (by omega) h3 h4
        · rw [mat_skipB xs ys i j hi hj e (by simpa using hs)]
          exact ih i (j + 1) i0 j0 (by omega) h1 h2 (by omega) (by omega)
    · rw [mat_end xs ys i j hij]
      exact ⟨by omega, by omega⟩
/-- The lines that are woven from a place of the old ones on. -/
def wvR (xs ys : List ByteArray) : Int → List Chg → List ByteArray
  | at_, [] => xs.drop at_.toNat
  | at_, c :: l => part xs at_ c.1 ++ part ys c.2.2.1 (c.2.2.1 + c.2.2.2) ++ wvR xs ys (c.1 + c.2.1) l
theorem part_nat (xs : List ByteArray) (i j : Nat) : part xs (i : Int) (j : Int) = (xs.drop i).take (j - i) := by simp [part]
theorem seg_app (xs : List ByteArray) (a b c : Nat) (h1 : a ≤ b) (h2 : b ≤ c) : (xs.drop a).take (b - a) ++ (xs.drop b).take (c - b) = (xs.drop a).take (c - a) := by
  have e1 : c - a = (b - a) + (c - b) := by omega
  rw [e1, List.take_add, List.drop_drop, show a + (b - a) = b by omega]
theorem seg_rest (xs : List ByteArray) (a b : Nat) (h1 : a ≤ b) : (xs.drop a).take (b - a) ++ xs.drop b = xs.drop a := by
  have h := List.take_append_drop (b - a) (xs.drop a)
  rw [List.drop_drop, show a + (b - a) = b by omega] at h
  exact h
theorem seg_one (xs : List ByteArray) (p : Nat) (h : p < xs.length) : (xs.drop p).take (p + 1 - p) = [xs.getD p ByteArray.empty] := by
  rw [show p + 1 - p = 1 by omega, List.drop_eq_getElem_cons h, List.take_succ_cons, List.take_zero]
  simp [List.getD, h]
theorem seg_all (xs : List ByteArray) (a : Nat) : (xs.drop a).take (xs.length - a) = xs.drop a := List.take_of_length_le (by simp)
theorem wvR_chg (xs ys : List ByteArray) : ∀ (M : List (Nat × Nat)) (i j a b : Nat), GoodM xs ys M i j → a ≤ i → b ≤ j → (xs.drop a).take (i - a) = (ys.drop b).take (j - b) → wvR xs ys (a : Int) (chg (M ++ [(xs.length, ys.length)]) i j) = ys.drop b := by
  intro M
  induction M with
  | nil =>
    intro i j a b hg ha hb he
    obtain ⟨hi, hj⟩ : i ≤ xs.length ∧ j ≤ ys.length := hg
    rw [List.nil_append]
    by_cases gap : i < xs.length ∨ j < ys.length
    · rw [chg_more [] gap]
      show part xs (a : Int) (i : Int) ++ part ys (j : Int) ((j : Int) + ((ys.length : Int) - j)) ++ wvR xs ys ((i : Int) + ((xs.length : Int) - i)) [] = _
      rw [show (j : Int) + ((ys.length : Int) - j) = (ys.length : Int) by omega, show (i : Int) + ((xs.length : Int) - i) = (xs.length : Int) by omega, part_nat, part_nat, he, seg_app ys b j ys.length hb hj, seg_all]
      show _ ++ xs.drop (xs.length : Int).toNat = _
      simp
    · have e1 : i = xs.length := by omega
      have e2 : j = ys.length := by omega
      rw [chg_less [] gap]
      show xs.drop (a : Int).toNat = _
      rw [Int.toNat_natCast, ← seg_all xs a, ← e1, he, e2, seg_all]
  | cons pq r ih =>
    obtain ⟨p, q⟩ := pq
    intro i j a b hg ha hb he
    obtain ⟨h1, h2, h3, h4, h5, h6⟩ : i ≤ p ∧ j ≤ q ∧ p < xs.length ∧ q < ys.length ∧ xs.getD p ByteArray.empty = ys.getD q ByteArray.empty ∧ GoodM xs ys r (p + 1) (q + 1) := hg
    rw [List.cons_append]
    by_cases gap : i < p ∨ j < q
    · rw [chg_more _ gap]
      have := ih (p + 1) (q + 1) p q h6 (by omega) (by omega) (by rw [seg_one xs p h3, seg_one ys q h4, h5])
      show part xs (a : Int) (i : Int) ++ part ys (j : Int) ((j : Int) + ((q : Int) - j)) ++ wvR xs ys ((i : Int) + ((p : Int) - i)) _ = _
      rw [show (j : Int) + ((q : Int) - j) = (q : Int) by omega, show (i : Int) + ((p : Int) - i) = (p : Int) by omega, this, part_nat, part_nat, he, seg_app ys b j q hb h2, seg_rest ys b q (by omega)]
    · have e1 : i = p := by omega
      have e2 : j = q := by omega
      subst e1 e2
      rw [chg_less _ gap]
      refine ih (i + 1) (j + 1) a b h6 (by omega) (by omega) ?_
      rw [← seg_app xs a i (i + 1) ha (by omega), ← seg_app ys b j (j + 1) hb (by omega), he, seg_one xs i h3, seg_one ys j h4, h5]
/-- The fault of changes, from one on. -/
def cfR (n m : Nat) : Int → Int → List Chg → Int
  | _, _, [] => 0
  | ea, eb, c :: l => if inR n m c = true then (if folB c ea eb = true then cfR n m (c.1 + c.2.1) (c.2.2.1 + c.2.2.2) l else 1) else 3
theorem cfR_chg (xs ys : List ByteArray) : ∀ (M : List (Nat × Nat)) (i j : Nat) (ea eb : Int), GoodM xs ys M i j → ea < i → (i : Int) - ea = (j : Int) - eb → cfR xs.length ys.length ea eb (chg (M ++ [(xs.length, ys.length)]) i j) = 0 := by
  have hin : ∀ (i p j q : Nat), i ≤ p → p ≤ xs.length → j ≤ q → q ≤ ys.length → inR xs.length ys.length ((i : Int), (p : Int) - i, (j : Int), (q : Int) - j) = true := fun i p j q h1 h2 h3 h4 => by
    unfold inR inSpan
    simp
    omega
  intro M
  induction M with
  | nil =>
    intro i j ea eb hg h1 h2
    obtain ⟨hi, hj⟩ : i ≤ xs.length ∧ j ≤ ys.length := hg
    rw [List.nil_append]
    by_cases gap : i < xs.length ∨ j < ys.length
    · rw [chg_more [] gap]
      unfold cfR
      rw [if_pos (hin i xs.length j ys.length hi (Nat.le_refl _) hj (Nat.le_refl _)), if_pos (by unfold folB; apply decide_eq_true; refine ⟨?_, h1, h2⟩; simp only []; omega)]
      rfl
    · rw [chg_less [] gap]; rfl
  | cons pq r ih =>
    obtain ⟨p, q⟩ := pq
    intro i j ea eb hg h1 h2
    obtain ⟨g1, g2, g3, g4, g5, g6⟩ : i ≤ p ∧ j ≤ q ∧ p < xs.length ∧ q < ys.length ∧ xs.getD p ByteArray.empty = ys.getD q ByteArray.empty ∧ GoodM xs ys r (p + 1) (q + 1) := hg
    rw [List.cons_append]
    by_cases gap : i < p ∨ j < q
    · rw [chg_more _ gap]
      unfold cfR
      rw [if_pos (hin i p j q g1 (by omega) g2 (by omega)), if_pos (by unfold folB; apply decide_eq_true; refine ⟨?_, h1, h2⟩; simp only []; omega)]
      exact ih (p + 1) (q + 1) _ _ g6 (by simp only []; omega) (by simp only []; omega)
    · rw [chg_less _ gap]
      exact ih (p + 1) (q + 1) ea eb g6 (by omega) (by omega)
theorem cf_eq (n m : Nat) (l : List Chg) : ∀ (f k : Nat), l.length - k = f → k ≤ l.length → cfF n m l (l.length - k) k = cfR n m (endA l k) (endB l k) (l.drop k) := by
  intro f
  induction f with
  | zero =>
    intro k hf hk
    rw [hf, List.drop_of_length_le (by omega)]
    rfl
  | succ f ih =>
    intro k hf hk
    have hlt : k < l.length := by omega
    rw [cfF_step n m l k hlt, ih (k + 1) (by omega) (by omega), List.drop_eq_getElem_cons hlt, endA_succ, endB_succ]
    have e : l.getD k (0, 0, 0, 0) = l[k] := by simp [List.getD, hlt]
    unfold codeAt
    rw [e]
    show _ = cfR n m (endA l k) (endB l k) (l[k] :: l.drop (k + 1))
    rw [cfR]
    by_cases h1 : inR n m l[k] = true
    · rw [if_pos h1, if_pos h1]
      by_cases h2 : folB l[k] (endA l k) (endB l k) = true
      · rw [if_pos h2, if_pos h2, if_pos rfl]
      · rw [if_neg h2, if_neg h2, if_neg (by decide)]
    · rw [if_neg h1, if_neg h1, if_neg (by decide)]
theorem changes_cf (xs ys : List ByteArray) : cf xs.length ys.length (changes xs ys) = 0 := by
  have h := cf_eq xs.length ys.length (changes xs ys) _ 0 rfl (Nat.zero_le _)
  unfold cf
  rw [Nat.sub_zero] at h
  rw [h, List.drop_zero, endA_zero, endB_zero]
  exact cfR_chg xs ys (mat xs ys 0 0) 0 0 (-1) (-1) (good_mat xs ys _ 0 0 0 0 (Nat.le_refl _) (Nat.le_refl _) (Nat.zero_le _) (Nat.le_refl _) (Nat.zero_le _)) (by omega) (by omega)
theorem changes_none (xs ys : List ByteArray) : (changes xs ys).length = 0 ↔ xs = ys := by
  rw [← edits_zero xs ys]
  constructor
  · intro h
    rw [List.length_eq_zero_iff.1 h]; rfl
  · intro h
    rcases Nat.eq_zero_or_pos (changes xs ys).length with h0 | h0
    · exact h0
    · exfalso
      have hc := changes_cf xs ys
      have each := fun k hk => cf_each hc k hk
      generalize changes xs ys = L at *
      have pos : ∀ (l : List Chg), (∀ c ∈ l, 0 ≤ c.2.1 ∧ 0 ≤ c.2.2.2) → 0 ≤ edits l := by
        intro l
        induction l with
        | nil => intro _; simp [edits]
        | cons c t ih =>
          intro hl
          rw [edits_cons]
          have h1 := hl c (by simp)
          have h2 := ih (fun x hx => hl x (by simp [hx]))
          omega
      have nn : ∀ c ∈ L, 0 ≤ c.2.1 ∧ 0 ≤ c.2.2.2 := fun c hcl => by
        obtain ⟨k, hk, rfl⟩ := List.getElem_of_mem hcl
        have := end_bd (each k hk).1
        have e : L.getD k (0, 0, 0, 0) = L[k] := by simp [List.getD, hk]
        rw [e] at this
        exact ⟨this.2.2.1, this.2.2.2.2.2.2.1⟩
      cases L with
      | nil => simp at h0
      | cons c t =>
        have f0 := of_decide_eq_true (each 0 (by simp)).2
        have n0 := nn c (by simp)
        have nt := pos t (fun x hx => nn x (by simp [hx]))
        rw [edits_cons] at h
        have : ¬ (c.2.1 = 0 ∧ c.2.2.2 = 0) := f0.1
        omega
theorem weave_eq (xs ys : List ByteArray) (l : List Chg) : ∀ k, k ≤ l.length → wvR xs ys 0 l = wv xs ys l k ++ wvR xs ys (stA l k) (l.drop k) := by
  intro k
  induction k with
  | zero => intro _; rw [List.drop_zero]; rfl
  | succ k ih =>
    intro hk
    have hlt : k < l.length := by omega
    rw [ih (by omega), wv_succ, List.drop_eq_getElem_cons hlt]
    have e : l.getD k (0, 0, 0, 0) = l[k] := by simp [List.getD, hlt]
    show _ ++ (part xs (stA l k) l[k].1 ++ part ys l[k].2.2.1 (l[k].2.2.1 + l[k].2.2.2) ++ wvR xs ys (l[k].1 + l[k].2.1) (l.drop (k + 1))) = _
    have es : stA l (k + 1) = l[k].1 + l[k].2.1 := by rw [← e]; rfl
    rw [es, e]
    simp only [List.append_assoc]
theorem weave_changes (xs ys : List ByteArray) : weave xs ys (changes xs ys) = ys := by
  have h := weave_eq xs ys (changes xs ys) _ (Nat.le_refl _)
  rw [List.drop_length] at h
  have h2 := wvR_chg xs ys (mat xs ys 0 0) 0 0 0 0 (good_mat xs ys _ 0 0 0 0 (Nat.le_refl _) (Nat.le_refl _) (Nat.zero_le _) (Nat.le_refl _) (Nat.zero_le _)) (Nat.le_refl _) (Nat.le_refl _) (by simp)
  rw [List.drop_zero] at h2
  exact h.symm.trans h2
end Go.Proofs.Ytbmokagmpdgidaa
