/- The stages of an index, changed: the mathematics. No statement is proved here. -/
import Derived.Test.YtipdebodanhooaaDoorRows
import Derived.Test.YtipdebodanhooaaDoorLemQ
import Derived.Test.YtipdebodanhooaaDoorLFLemQ
import Derived.Test.YtipdebodanhooaaDoorDTabQ
import Derived.Test.YtipdebodanhooaaDoorEnLQ
import Derived.Test.YtipdebodanhooaaDoorIxMQ
import Derived.Test.YtipdebodanhooaaDoorIxNQ
import Derived.Test.YtipdebodanhooaaDoorSlBQ
import Derived.Test.YtipdebodanhooaaDoorCpKQ
import Derived.Test.YtipdebodanhooaaDoorInEQ
import Derived.WalkKit
import Derived.ProofKit
import Derived.Test.YtipdebodanhooaaDoorIdLQ
import Derived.Test.YtipdebodanhooaaDoorSsBQ
import Derived.Test.YtipdebodanhooaaDoorHkTQ
set_option linter.unusedVariables false
namespace Go.Proofs.YtipdebodanhooaaDoor.En
open Go.RowKit
/-- A stage, changed; an entry with it. -/
def swI (s : Int) : Int := if s = 2 then 3 else if s = 3 then 2 else s
def sw1 (e : Ob) : Ob := (e.1, swI e.2.1, e.2.2.1, e.2.2.2)
theorem swI_inj {a b : Int} (h : swI a = swI b) : a = b := by
  unfold swI at h
  split at h <;> split at h <;> (try split at h) <;> (try split at h) <;> omega
/-- Entries that rise. -/
def Rise (l : List Ob) : Prop := ∀ j k, j < k → k < l.length → cmE (l.getD j onil) (l.getD k onil) < 0
theorem rise_nil : Rise [] := fun j k _ h => absurd h (by simp)
/-- How many entries stand ahead. -/
def peF (l : List Ob) (e : Ob) : Nat → Nat → Nat
  | 0, k => k
  | n + 1, k => if cmE (l.getD k onil) e < 0 then peF l e n (k + 1) else k
def pe (l : List Ob) (e : Ob) : Nat := peF l e l.length 0
theorem peF_spec (l : List Ob) (e : Ob) : ∀ n k, k + n = l.length → k ≤ peF l e n k ∧ peF l e n k ≤ l.length ∧ (∀ j, k ≤ j → j < peF l e n k → cmE (l.getD j onil) e < 0) ∧ (peF l e n k < l.length → ¬ cmE (l.getD (peF l e n k) onil) e < 0) := by
  intro n
  induction n with
  | zero => intro k hk; exact ⟨Nat.le_refl _, by show k ≤ _; omega, fun j h1 h2 => absurd h2 (by show ¬ j < k; omega), fun h => absurd h (by show ¬ k < _; omega)⟩
  | succ n ih =>
    intro k hk
    by_cases hb : cmE (l.getD k onil) e < 0
    · rw [show peF l e (n + 1) k = peF l e n (k + 1) by rw [peF, if_pos hb]]
      obtain ⟨h1, h2, h3, h4⟩ := ih (k + 1) (by omega)
      refine ⟨by omega, h2, fun j q1 q2 => ?_, h4⟩
      by_cases q : j = k
      · rw [q]; exact hb
      · exact h3 j (by omega) q2
    · rw [show peF l e (n + 1) k = k by rw [peF, if_neg hb]]
      exact ⟨Nat.le_refl _, by omega, fun j q1 q2 => absurd q2 (by omega), fun _ => hb⟩
theorem pe_le (l : List Ob) (e : Ob) : pe l e ≤ l.length := (peF_spec l e l.length 0 (by omega)).2.1
theorem pe_cuts {l : List Ob} (hr : Rise l) (e : Ob) : Cuts l e (pe l e) := by
  obtain ⟨_, h2, h3, h4⟩ := peF_spec l e l.length 0 (by omega)
  refine ⟨h2, fun k hk => h3 k (Nat.zero_le _) hk, fun k hk hl => ?_⟩
  have h5 : ¬ cmE (l.getD (pe l e) onil) e < 0 := h4 (Nat.lt_of_le_of_lt hk hl)
  rcases Int.lt_or_le (cmE (l.getD k onil) e) 0 with q | q
  · exfalso
    by_cases x : pe l e = k
    · rw [x] at h5; exact h5 q
    · exact h5 (cmE_trans (hr (pe l e) k (by omega) hl) q)
  · exact q
theorem cuts_one {l : List Ob} {e : Ob} {p q : Nat} (h1 : Cuts l e p) (h2 : Cuts l e q) : p = q := by
  rcases Nat.lt_trichotomy p q with h | h | h
  · have a := h2.2.1 p h
    have b := h1.2.2 p (Nat.le_refl _) (Nat.lt_of_lt_of_le h h2.1)
    omega
  · exact h
  · have a := h1.2.1 q h
    have b := h2.2.2 q (Nat.le_refl _) (Nat.lt_of_lt_of_le h h1.1)
    omega
/-- None is like it. -/
def Apart (l : List Ob) (e : Ob) : Prop := ∀ k, k < l.length → ¬ cmE (l.getD k onil) e = 0
theorem apart_hit {l : List Ob} {e : Ob} (h : Apart l e) (p : Nat) : hit l e p = false := by
  unfold hit
  by_cases hp : p < l.length
  · rw [beq_eq_false_iff_ne.2 (h p hp), Bool.and_false]
  · simp [hp]
theorem insL_at (l : List Ob) (p : Nat) (e : Ob) (hp : p ≤ l.length) (k : Nat) (hk : k < l.length + 1) : (insL l p e).getD k onil = if k < p then l.getD k onil else if k = p then e else l.getD (k - 1) onil := by
  unfold insL
  have hl : (l.take p).length = p := by rw [List.length_take]; omega
  by_cases h1 : k < p
  · rw [if_pos h1]
    simp only [List.getD]
    rw [List.getElem?_append_left (by omega), List.getElem?_take, if_pos h1]
  · rw [if_neg h1]
    simp only [List.getD]
    rw [List.getElem?_append_right (by omega), hl]
    by_cases h2 : k = p
    · rw [if_pos h2, h2, Nat.sub_self]; rfl
    · rw [if_neg h2, List.getElem?_append_right (by simp; omega)]
      simp only [List.length_cons, List.length_nil, List.getElem?_drop]
      rw [show p + (k - p - (0 + 1)) = k - 1 by omega]
/-- The order the other way. -/
theorem cmI_pos {a b : Int} (h : 0 < cmI a b) : b < a := by
  unfold cmI at h
  split at h
  · omega
  · split at h
    · assumption
    · omega
theorem cmI_zero {a b : Int} (h : cmI a b = 0) : a = b := by
  unfold cmI at h
  split at h
  · omega
  · split at h
    · omega
    · omega
theorem cmE_gt {a b : Ob} (h : 0 < cmE a b) : cmE b a < 0 := by
  unfold cmE at h
  by_cases e : cmB a.1 b.1 = 0
  · rw [if_pos e] at h
    exact cmE_lt.2 (.inr ⟨(cmB_zero.1 e).symm, cmI_pos h⟩)
  · rw [if_neg e] at h
    have h1 : cmB a.1 b.1 = 1 := by
      rcases cmB_cases a.1 b.1 with ⟨q, _⟩ | ⟨q, _⟩ | ⟨q, _⟩
      · omega
      · omega
      · exact q
    exact cmE_lt.2 (.inl (by rw [cm_anti _ _ h1]; omega))
theorem ins_rise {l : List Ob} {e : Ob} (hr : Rise l) (ha : Apart l e) : Rise (insL l (pe l e) e) := by
  have hc := pe_cuts hr e
  have hp := pe_le l e
  have up : ∀ k, pe l e ≤ k → k < l.length → cmE e (l.getD k onil) < 0 := fun k h1 h2 => cmE_gt (by have := hc.2.2 k h1 h2; have := ha k h2; omega)
  intro j k hjk hk
  rw [insL_length l _ e hp] at hk
  rw [insL_at l _ e hp j (by omega), insL_at l _ e hp k hk]
  by_cases j1 : j < pe l e
  · rw [if_pos j1]
    by_cases k1 : k < pe l e
    · rw [if_pos k1]; exact hr j k hjk (by omega)
    · rw [if_neg k1]
      by_cases k2 : k = pe l e
      · rw [if_pos k2]; exact hc.2.1 j j1
      · rw [if_neg k2]; exact hr j (k - 1) (by omega) (by omega)
  · rw [if_neg j1, if_neg (show ¬ k < pe l e by omega), if_neg (show ¬ k = pe l e by omega)]
    by_cases j2 : j = pe l e
    · rw [if_pos j2]; exact up (k - 1) (by omega) (by omega)
    · rw [if_neg j2]; exact hr (j - 1) (k - 1) (by omega) (by omega)
/-- The index with its stages changed, of the first k entries. -/
def swK (l : List Ob) : Nat → List Ob
  | 0 => []
  | k + 1 => insL (swK l k) (pe (swK l k) (sw1 (l.getD k onil))) (sw1 (l.getD k onil))
theorem swK_len (l : List Ob) : ∀ k, (swK l k).length = k
  | 0 => rfl
  | k + 1 => by rw [swK, insL_length _ _ _ (pe_le _ _), swK_len l k]
theorem swK_mem (l : List Ob) : ∀ k x, x ∈ swK l k → ∃ j, j < k ∧ x = sw1 (l.getD j onil)
  | 0, x, h => by cases h
  | k + 1, x, h => by
    rw [swK] at h
    unfold insL at h
    rcases List.mem_append.1 h with h | h
    · obtain ⟨j, hj, e⟩ := swK_mem l k x (List.mem_of_mem_take h)
      exact ⟨j, by omega, e⟩
    · rcases List.mem_append.1 h with h | h
      · exact ⟨k, by omega, by simpa using h⟩
      · obtain ⟨j, hj, e⟩ := swK_mem l k x (List.mem_of_mem_drop h)
        exact ⟨j, by omega, e⟩
theorem cmE_zero {a b : Ob} (h : cmE a b = 0) : a.1 = b.1 ∧ a.2.1 = b.2.1 := by
  unfold cmE at h
  by_cases e : cmB a.1 b.1 = 0
  · rw [if_pos e] at h
    exact ⟨cmB_zero.1 e, cmI_zero h⟩
  · rw [if_neg e] at h
    exact absurd h e
theorem sw_apart {l : List Ob} (h : ixf l = 0) {k : Nat} (hk : k < l.length) : Apart (swK l k) (sw1 (l.getD k onil)) := by
  intro i hi e
  obtain ⟨j, hj, ex⟩ := swK_mem l k _ (ob_mem _ _ hi)
  rw [ex] at e
  obtain ⟨e1, e2⟩ := cmE_zero e
  have h1 := ix_rises h k j hj hk
  have e3 := swI_inj (show swI (l.getD j onil).2.1 = swI (l.getD k onil).2.1 from e2)
  have e4 : (l.getD j onil).1 = (l.getD k onil).1 := e1
  rcases cmE_lt.1 h1 with q | q
  · rw [e4] at q
    have h9 : cmB (l.getD k onil).1 (l.getD k onil).1 = 0 := cmB_zero.2 rfl
    omega
  · omega
theorem sw_rise {l : List Ob} (h : ixf l = 0) : ∀ k, k ≤ l.length → Rise (swK l k)
  | 0, _ => rise_nil
  | k + 1, hk => ins_rise (sw_rise h k (by omega)) (sw_apart h (by omega))
end Go.Proofs.YtipdebodanhooaaDoor.En
/- A path that is resolved: the mathematics. No statement is proved here. -/
set_option linter.unusedVariables false
namespace Go.Proofs.YtipdebodanhooaaDoor.En
open Go.RowKit
/-- Is an entry of another path? -/
def offP (p : ByteArray) (e : Ob) : Bool := !(e.1.toList == p.toList)
def rsF (l : List Ob) (p : ByteArray) : List Ob := l.filter (offP p)
theorem offP_yes {p : ByteArray} {e : Ob} (h : ¬ e.1 = p) : offP p e = true := by unfold offP; rw [beq_bytes_false h]; rfl
theorem offP_no {p : ByteArray} {e : Ob} (h : e.1 = p) : offP p e = false := by unfold offP; rw [beq_bytes_true h]; rfl
theorem rsF_yes (l : List Ob) (p : ByteArray) (k : Nat) (hk : k < l.length) (h : ¬ (l.getD k onil).1 = p) : rsF (l.take (k + 1)) p = rsF (l.take k) p ++ [l.getD k onil] := by
  rw [ob_take l k hk]
  unfold rsF
  rw [List.filter_append, List.filter_cons, if_pos (offP_yes h), List.filter_nil]
theorem rsF_no (l : List Ob) (p : ByteArray) (k : Nat) (hk : k < l.length) (h : (l.getD k onil).1 = p) : rsF (l.take (k + 1)) p = rsF (l.take k) p := by
  rw [ob_take l k hk]
  unfold rsF
  rw [List.filter_append, List.filter_cons, if_neg (by rw [offP_no h]; decide), List.filter_nil, List.append_nil]
theorem rsF_len (l : List Ob) (p : ByteArray) (k : Nat) : (rsF (l.take k) p).length ≤ k := by
  have h1 : (rsF (l.take k) p).length ≤ (l.take k).length := List.length_filter_le _ _
  rw [List.length_take] at h1
  omega
theorem rsF_all (l : List Ob) (p : ByteArray) : (rsF l p).length ≤ l.length := List.length_filter_le _ _
theorem getD_el (l : List Ob) (k : Nat) (h : k < l.length) : l.getD k onil = l[k] := by simp [List.getD, h]
theorem rise_iff {l : List Ob} : Rise l ↔ l.Pairwise (fun a b => cmE a b < 0) := by
  rw [List.pairwise_iff_getElem]
  constructor
  · intro h i j hi hj hij
    have := h i j hij hj
    rwa [getD_el _ _ hi, getD_el _ _ hj] at this
  · intro h j k hjk hk
    rw [getD_el _ _ (show j < l.length by omega), getD_el _ _ hk]
    exact h j k _ hk hjk
theorem ix_rise {l : List Ob} (h : ixf l = 0) : Rise l := fun j k a b => ix_rises h k j a b
theorem rs_rise {l : List Ob} (h : ixf l = 0) (p : ByteArray) : Rise (rsF l p) := rise_iff.2 ((rise_iff.1 (ix_rise h)).sublist List.filter_sublist)
theorem rs_apart (l : List Ob) (p : ByteArray) (s m : Int) (i : ByteArray) : Apart (rsF l p) (p, s, m, i) := by
  intro k hk e
  obtain ⟨e1, _⟩ := cmE_zero e
  have hm := (List.mem_filter.1 (ob_mem _ k hk)).2
  have e2 : offP p ((rsF l p).getD k onil) = false := offP_no e1
  have e3 : offP p ((rsF l p).getD k onil) = true := hm
  rw [e2] at e3
  cases e3
theorem take_at (l : List Ob) (k j : Nat) (h : j < k) : (l.take k).getD j onil = l.getD j onil := by simp [List.getD, h]
theorem ix_last {l : List Ob} (h : ixf l = 0) {k : Nat} (hk : k < l.length) : Last (l.take k) (l.getD k onil) := by
  intro j hj
  rw [List.length_take] at hj
  rw [take_at l k j (by omega)]
  exact ix_rises h k j (by omega) hk
/-- The place of the first entry of a path. -/
def fpF (l : List Ob) (p : ByteArray) : Nat → Nat → Int
  | 0, _ => -1
  | n + 1, k => if (l.getD k onil).1 = p then (k : Int) else fpF l p n (k + 1)
def fp (l : List Ob) (p : ByteArray) : Int := fpF l p l.length 0
theorem fpF_hit {l : List Ob} {p : ByteArray} {n k : Nat} (h : (l.getD k onil).1 = p) : fpF l p (n + 1) k = (k : Int) := if_pos h
theorem fpF_miss {l : List Ob} {p : ByteArray} {n k : Nat} (h : ¬ (l.getD k onil).1 = p) : fpF l p (n + 1) k = fpF l p n (k + 1) := if_neg h
theorem fpF_spec {l : List Ob} {p : ByteArray} : ∀ n k, k + n = l.length → (fpF l p n k = -1 ∧ ∀ j, k ≤ j → j < l.length → ¬ (l.getD j onil).1 = p) ∨ ∃ j : Nat, fpF l p n k = (j : Int) ∧ k ≤ j ∧ j < l.length ∧ (l.getD j onil).1 = p ∧ ∀ i, k ≤ i → i < j → ¬ (l.getD i onil).1 = p := by
  intro n
  induction n with
  | zero => intro k hk; exact .inl ⟨rfl, fun j h1 h2 => absurd h2 (by omega)⟩
  | succ n ih =>
    intro k hk
    by_cases h : (l.getD k onil).1 = p
    · exact .inr ⟨k, fpF_hit h, Nat.le_refl _, by omega, h, fun i h1 h2 => absurd h2 (by omega)⟩
    · rw [fpF_miss h]
      rcases ih (k + 1) (by omega) with ⟨h1, h2⟩ | ⟨j, h1, h2, h3, h4, h5⟩
      · refine .inl ⟨h1, fun j q1 q2 => ?_⟩
        by_cases e : j = k
        · rw [e]; exact h
        · exact h2 j (by omega) q2
      · refine .inr ⟨j, h1, by omega, h3, h4, fun i q1 q2 => ?_⟩
        by_cases e : i = k
        · rw [e]; exact h
        · exact h5 i (by omega) q2
theorem rsF_keep (l : List Ob) (p : ByteArray) : ∀ k, k ≤ l.length → (∀ i, i < k → ¬ (l.getD i onil).1 = p) → rsF (l.take k) p = l.take k := by
  intro k
  induction k with
  | zero => intro _ _; rfl
  | succ k ih =>
    intro hk h
    rw [rsF_yes l p k (by omega) (h k (by omega)), ih (by omega) (fun i hi => h i (by omega)), ob_take l k (by omega)]
/-- Where an entry is found that is of the path. -/
theorem fp_found {l : List Ob} {p : ByteArray} {x : Nat} (hx : x < l.length) (he : (l.getD x onil).1 = p) : ∃ j : Nat, fp l p = (j : Int) ∧ j < l.length ∧ rsF (l.take (j + 1)) p = l.take j := by
  rcases fpF_spec (l := l) (p := p) l.length 0 (by omega) with ⟨_, h⟩ | ⟨j, h1, _, h3, h4, h5⟩
  · exact absurd he (h x (Nat.zero_le _) hx)
  · exact ⟨j, h1, h3, by rw [rsF_no l p j h3 h4, rsF_keep l p j (by omega) (fun i hi => h5 i (Nat.zero_le _) hi)]⟩
theorem take_set_snoc (X : List Ob) (i : Nat) (v : Ob) (h : i < X.length) : (X.set i v).take (i + 1) = X.take i ++ [v] := by
  apply List.ext_getElem?
  intro k
  have hl : (X.take i).length = i := by rw [List.length_take]; omega
  by_cases hk : k < i
  · rw [List.getElem?_take, if_pos (by omega), List.getElem?_set_ne (by omega), List.getElem?_append_left (by omega), List.getElem?_take, if_pos hk]
  · rw [List.getElem?_append_right (by omega), hl]
    by_cases e : k = i
    · subst e
      rw [List.getElem?_take, if_pos (by omega), List.getElem?_set_self h, Nat.sub_self]
      rfl
    · rw [List.getElem?_take, if_neg (by omega), List.getElem?_eq_none (by simp; omega)]
theorem getD_set_ne (X : List Ob) (i m : Nat) (v : Ob) (h : i ≠ m) : (X.set i v).getD m onil = X.getD m onil := by rw [List.getD, List.getD, List.getElem?_set_ne h]
/-- Is a text among these? -/
def hasB (c : List ByteArray) (p : ByteArray) : Bool := c.any fun x => x.toList == p.toList
theorem hasB_yes {c : List ByteArray} {p : ByteArray} : hasB c p = true ↔ ∃ k, k < c.length ∧ c.getD k ByteArray.empty = p := by
  unfold hasB
  rw [List.any_eq_true]
  constructor
  · rintro ⟨x, hx, e⟩
    obtain ⟨k, hk, ek⟩ := List.getElem_of_mem hx
    refine ⟨k, hk, ?_⟩
    rw [getD_at c k hk, ek]
    by_cases q : x = p
    · exact q
    · rw [beq_bytes_false q] at e; cases e
  · rintro ⟨k, hk, e⟩
    rw [getD_at c k hk] at e
    exact ⟨c[k], List.getElem_mem hk, beq_bytes_true e⟩
/-- Where a text belongs in a sorted list; it is there if it is among them. -/
theorem cutsS_ex {c : List ByteArray} (hs : Srt c) (T : ByteArray) : ∃ q, CutsS c T q ∧ hitS c T q = hasB c T := by
  have key : ∀ m, m ≤ c.length → ∃ q, q ≤ m ∧ (∀ k, k < q → cmB (c.getD k ByteArray.empty) T < 0) ∧ (q < m → ¬ cmB (c.getD q ByteArray.empty) T < 0) := by
    intro m
    induction m with
    | zero => intro _; exact ⟨0, Nat.le_refl _, fun k h => absurd h (by omega), fun h => absurd h (by omega)⟩
    | succ m ih =>
      intro hm
      obtain ⟨q, h1, h2, h3⟩ := ih (by omega)
      by_cases e : q < m
      · exact ⟨q, by omega, h2, fun _ => h3 e⟩
      · have eq : q = m := by omega
        subst eq
        by_cases h : cmB (c.getD q ByteArray.empty) T < 0
        · refine ⟨q + 1, Nat.le_refl _, fun k hk => ?_, fun h => absurd h (by omega)⟩
          by_cases e2 : k = q
          · rw [e2]; exact h
          · exact h2 k (by omega)
        · exact ⟨q, by omega, h2, fun _ => h⟩
  obtain ⟨q, h1, h2, h3⟩ := key c.length (Nat.le_refl _)
  have hc : CutsS c T q := ⟨h1, h2, fun k hk hl => by
    have h4 := h3 (by omega)
    rcases Int.lt_or_le (cmB (c.getD k ByteArray.empty) T) 0 with x | x
    · exfalso
      by_cases e : q = k
      · rw [e] at h4; exact h4 x
      · exact h4 (cmB_trans (hs q k (by omega) hl) x)
    · exact x⟩
  refine ⟨q, hc, ?_⟩
  cases hb : hasB c T with
  | true =>
    obtain ⟨k, hk, e⟩ := hasB_yes.1 hb
    have e0 : cmB (c.getD k ByteArray.empty) T = 0 := cmB_zero.2 e
    have hqk : q ≤ k := by
      rcases Nat.lt_or_ge k q with x | x
      · have := h2 k x; omega
      · exact x
    have hq : q = k := by
      by_cases x : q = k
      · exact x
      · exfalso
        have h5 := hs q k (by omega) hk
        rw [e] at h5
        have := hc.2.2 q (Nat.le_refl _) (by omega)
        omega
    unfold hitS
    rw [hq, e0]
    simp [hk]
  | false =>
    cases hh : hitS c T q with
    | false => rfl
    | true =>
      unfold hitS at hh
      simp only [Bool.and_eq_true, decide_eq_true_eq, beq_iff_eq] at hh
      rw [hasB_yes.2 ⟨q, hh.1, cmB_zero.1 hh.2⟩] at hb
      cases hb
theorem cl_srt {l : List Ob} (h : ixf l = 0) : Srt (cl l) := by
  have := (cl_inv h l.length (Nat.le_refl _)).1
  rwa [List.take_length] at this
theorem cl_found {l : List Ob} (h : ixf l = 0) {p : ByteArray} (hb : hasB (cl l) p = true) : ∃ j, j < l.length ∧ (l.getD j onil).1 = p := by
  obtain ⟨k, hk, e⟩ := hasB_yes.1 hb
  have h2 := (cl_inv h l.length (Nat.le_refl _)).2
  rw [List.take_length] at h2
  obtain ⟨j, hj, e2, _⟩ := h2 k hk
  exact ⟨j, hj, by rw [← e2]; exact e⟩
/-- What ResolvePath answers. -/
def rsI (m : Int) (i : ByteArray) : Bool := if m = 0 then (i.toList == []) else isOf 1 i
def rsC (l : List Ob) (p : ByteArray) (m : Int) (i : ByteArray) : Int := if ixf l = 0 then (if hasB (cl l) p = true then (if m = 0 ∨ inB m 1 2 = true then (if rsI m i = true then 0 else 1) else 3) else 4) else ixf l
def rsU (l : List Ob) (p : ByteArray) (m : Int) (i : ByteArray) : List Ob := if m = 0 then rsF l p else insL (rsF l p) (pe (rsF l p) (p, 0, m, i)) (p, 0, m, i)
def rsL (l : List Ob) (p : ByteArray) (m : Int) (i : ByteArray) : List Ob := if ixf l = 0 ∧ hasB (cl l) p = true ∧ (m = 0 ∨ inB m 1 2 = true) ∧ rsI m i = true then rsU l p m i else []
theorem rs_bad {l : List Ob} {p : ByteArray} {m : Int} {i : ByteArray} (h : ¬ ixf l = 0) : rsC l p m i = ixf l ∧ rsL l p m i = [] := ⟨if_neg h, if_neg (fun c => h c.1)⟩
theorem rs_none {l : List Ob} {p : ByteArray} {m : Int} {i : ByteArray} (h : ixf l = 0) (h2 : hasB (cl l) p = false) : rsC l p m i = 4 ∧ rsL l p m i = [] := ⟨by unfold rsC; rw [if_pos h, if_neg (by rw [h2]; decide)], if_neg (fun c => by rw [h2] at c; cases c.2.1)⟩
theorem rs_mode {l : List Ob} {p : ByteArray} {m : Int} {i : ByteArray} (h : ixf l = 0) (h2 : hasB (cl l) p = true) (h3 : ¬ (m = 0 ∨ inB m 1 2 = true)) : rsC l p m i = 3 ∧ rsL l p m i = [] := ⟨by unfold rsC; rw [if_pos h, if_pos h2, if_neg h3], if_neg (fun c => h3 c.2.2.1)⟩
theorem rs_form {l : List Ob} {p : ByteArray} {m : Int} {i : ByteArray} (h : ixf l = 0) (h2 : hasB (cl l) p = true) (h3 : m = 0 ∨ inB m 1 2 = true) (h4 : rsI m i = false) : rsC l p m i = 1 ∧ rsL l p m i = [] := ⟨by unfold rsC; rw [if_pos h, if_pos h2, if_pos h3, if_neg (by rw [h4]; decide)], if_neg (fun c => by rw [h4] at c; cases c.2.2.2)⟩
theorem rs_ok {l : List Ob} {p : ByteArray} {m : Int} {i : ByteArray} (h : ixf l = 0) (h2 : hasB (cl l) p = true) (h3 : m = 0 ∨ inB m 1 2 = true) (h4 : rsI m i = true) : rsC l p m i = 0 ∧ rsL l p m i = rsU l p m i := ⟨by unfold rsC; rw [if_pos h, if_pos h2, if_pos h3, if_pos h4], if_pos ⟨h, h2, h3, h4⟩⟩
end Go.Proofs.YtipdebodanhooaaDoor.En
/- An index whose path is resolved: the mathematics. No statement is proved here. -/
set_option linter.unusedVariables false
namespace Go.Proofs.YtipdebodanhooaaDoor.En
open Go.RowKit
theorem cmE_self (e : Ob) : ¬ cmE e e < 0 := fun h => by
  rcases cmE_lt.1 h with q | ⟨_, q⟩
  · rw [cmB_zero.2 rfl] at q; omega
  · omega
theorem ix_mix {l : List Ob} (h : ixf l = 0) {j k : Nat} (hj : j < l.length) (hk : k < l.length) (he : (l.getD j onil).1 = (l.getD k onil).1) (h0 : (l.getD j onil).2.1 = 0) : j = k := by
  rcases Nat.lt_trichotomy j k with q | q | q
  · exfalso
    have hb := (eiF_zero ((ixf_zero h).2 (j + 1) (by omega))).2 (by omega)
    rw [Nat.add_sub_cancel] at hb
    have hs : (l.getD j onil).1 = (l.getD (j + 1) onil).1 := by
      have a1 := ix_rises h (j + 1) j (by omega) (by omega)
      rcases cmE_lt.1 a1 with c | ⟨c, _⟩
      · exfalso
        by_cases e : j + 1 = k
        · rw [e, ← he, cmB_zero.2 rfl] at c; omega
        · have a2 := ix_rises h k (j + 1) (by omega) hk
          rcases cmE_lt.1 a2 with d | ⟨d, _⟩
          · have := cmB_trans c d
            rw [← he, cmB_zero.2 rfl] at this; omega
          · rw [d, ← he, cmB_zero.2 rfl] at c; omega
      · exact c
    unfold bh at hb
    rw [beq_bytes_true hs, h0] at hb
    simp at hb
  · exact q
  · exfalso
    have a1 := ix_rises h j k q hj
    rcases cmE_lt.1 a1 with c | ⟨_, c⟩
    · rw [he, cmB_zero.2 rfl] at c; omega
    · have := (ix_stage ((ixf_zero h).2 k hk)).1; omega
theorem ix_mixM {l : List Ob} (h : ixf l = 0) {e f : Ob} (he : e ∈ l) (hf : f ∈ l) (hp : e.1 = f.1) (h0 : e.2.1 = 0) : e = f := by
  obtain ⟨j, hj, rfl⟩ := List.getElem_of_mem he
  obtain ⟨k, hk, rfl⟩ := List.getElem_of_mem hf
  have := ix_mix h hj hk (by rw [getD_el _ _ hj, getD_el _ _ hk]; exact hp) (by rw [getD_el _ _ hj]; exact h0)
  subst this
  rfl
theorem ix_of {l : List Ob} (hn : l.length ≤ 200) (he : ∀ e ∈ l, eiO e = 0) (hr : Rise l) (hm : ∀ e ∈ l, ∀ f ∈ l, e.1 = f.1 → e.2.1 = 0 → e = f) : ixf l = 0 := by
  refine ixf_ok (by omega) (fun k hk => ?_)
  unfold eiF
  rw [if_pos (he _ (ob_mem l k hk)), if_neg]
  rintro ⟨h0, hb⟩
  have h1 := hr (k - 1) k (by omega) hk
  unfold bh at hb
  rw [decide_eq_true h1, Bool.true_and] at hb
  have hb' : (((l.getD (k - 1) onil).1.toList == (l.getD k onil).1.toList) && ((l.getD (k - 1) onil).2.1 == 0)) = true := by simpa using hb
  obtain ⟨a, b⟩ := Bool.and_eq_true_iff.1 hb'
  have e1 : (l.getD (k - 1) onil).1 = (l.getD k onil).1 := by
    by_cases q : (l.getD (k - 1) onil).1 = (l.getD k onil).1
    · exact q
    · rw [beq_bytes_false q] at a; cases a
  have e2 := hm _ (ob_mem l (k - 1) (by omega)) _ (ob_mem l k hk) e1 (by simpa using b)
  rw [e2] at h1
  exact cmE_self _ h1
theorem ix_ei {l : List Ob} (h : ixf l = 0) {e : Ob} (he : e ∈ l) : eiO e = 0 := by
  obtain ⟨j, hj, rfl⟩ := List.getElem_of_mem he
  have := (eiF_zero ((ixf_zero h).2 j hj)).1
  rwa [getD_el _ _ hj] at this
theorem rsF_mem {l : List Ob} {p : ByteArray} {e : Ob} : e ∈ rsF l p ↔ e ∈ l ∧ ¬ e.1 = p := by
  unfold rsF
  rw [List.mem_filter]
  constructor
  · rintro ⟨h, q⟩
    refine ⟨h, fun e1 => ?_⟩
    rw [offP_no e1] at q; cases q
  · rintro ⟨h, q⟩
    exact ⟨h, offP_yes q⟩
theorem insL_mem {l : List Ob} {q : Nat} {x e : Ob} : x ∈ insL l q e ↔ x ∈ l ∨ x = e := by
  have hl : l.take q ++ l.drop q = l := List.take_append_drop q l
  unfold insL
  constructor
  · intro h
    rcases List.mem_append.1 h with h | h
    · exact .inl (List.mem_of_mem_take h)
    · rcases List.mem_append.1 h with h | h
      · exact .inr (by simpa using h)
      · exact .inl (List.mem_of_mem_drop h)
  · rintro (h | rfl)
    · rw [← hl] at h
      rcases List.mem_append.1 h with h | h
      · exact List.mem_append_left _ h
      · exact List.mem_append_right _ (List.mem_append_right _ h)
    · exact List.mem_append_right _ (List.mem_append_left _ (by simp))
theorem rsU_mem {l : List Ob} {p : ByteArray} {m : Int} {i : ByteArray} {e : Ob} : e ∈ rsU l p m i ↔ (e ∈ l ∧ ¬ e.1 = p) ∨ (¬ m = 0 ∧ e = (p, 0, m, i)) := by
  unfold rsU
  by_cases hm : m = 0
  · rw [if_pos hm, rsF_mem]
    exact ⟨fun h => .inl h, fun h => h.elim id (fun q => absurd hm q.1)⟩
  · rw [if_neg hm, insL_mem, rsF_mem]
    exact ⟨fun h => h.elim .inl (fun q => .inr ⟨hm, q⟩), fun h => h.elim .inl (fun q => .inr q.2)⟩
theorem rsF_lt {l : List Ob} {p : ByteArray} {e : Ob} (he : e ∈ l) (h : e.1 = p) : (rsF l p).length < l.length := by
  unfold rsF
  rw [List.length_filter_lt_length_iff_exists]
  exact ⟨e, he, by rw [offP_no h]; decide⟩
/-- An index whose path is resolved has no fault. -/
theorem rs_ix {l : List Ob} {p : ByteArray} {m : Int} {i : ByteArray} (h : ixf l = 0) {x : Ob} (hx : x ∈ l) (hp : x.1 = p) (hm : m = 0 ∨ inB m 1 2 = true) (hi : rsI m i = true) : ixf (rsU l p m i) = 0 := by
  have hl := (ixf_zero h).1
  have hlt := rsF_lt hx hp
  refine ix_of ?_ ?_ ?_ ?_
  · unfold rsU
    split
    · omega
    · rw [insL_length _ _ _ (pe_le _ _)]; omega
  · intro e he
    rcases rsU_mem.1 he with ⟨q, _⟩ | ⟨q, rfl⟩
    · exact ix_ei h q
    · have h1 := ix_ei h hx
      have hm' : inB m 1 2 = true := by
        rcases hm with hm | hm
        · exact absurd hm q
        · exact hm
      unfold rsI at hi
      rw [if_neg q] at hi
      have hp0 : pf p = 0 := by rw [← hp]; exact (ei_zero h1).1
      show ei p 0 m i = 0
      exact ei_ok hp0 (by rw [hm']; simp [inB]) hi
  · unfold rsU
    split
    · exact rs_rise h p
    · exact ins_rise (rs_rise h p) (rs_apart l p 0 m i)
  · intro e he f hf e1 e0
    rcases rsU_mem.1 he with ⟨q, q2⟩ | ⟨q, rfl⟩
    · rcases rsU_mem.1 hf with ⟨r, r2⟩ | ⟨r, rfl⟩
      · exact ix_mixM h q r e1 e0
      · exact absurd e1 q2
    · rcases rsU_mem.1 hf with ⟨r, r2⟩ | ⟨r, rfl⟩
      · exact absurd e1.symm r2
      · rfl
theorem clS_mem {c : List ByteArray} {o : Ob} {q : ByteArray} : q ∈ clS c o ↔ q ∈ c ∨ (¬ o.2.1 = 0 ∧ o.1 = q) := by
  unfold clS
  by_cases h : o.2.1 = 0
  · rw [if_pos h]
    exact ⟨.inl, fun x => x.elim id (fun y => absurd h y.1)⟩
  · rw [if_neg h]
    by_cases g : c.getLast? = some o.1
    · rw [if_pos g]
      refine ⟨.inl, fun x => x.elim id (fun y => ?_)⟩
      rw [← y.2]
      exact List.mem_of_getLast? g
    · rw [if_neg g, List.mem_append, List.mem_singleton]
      exact ⟨fun x => x.elim .inl (fun y => .inr ⟨h, y.symm⟩), fun x => x.elim .inl (fun y => .inr y.2.symm)⟩
theorem cl_memF : ∀ (l : List Ob) (c : List ByteArray) (q : ByteArray), q ∈ l.foldl clS c ↔ q ∈ c ∨ ∃ e ∈ l, ¬ e.2.1 = 0 ∧ e.1 = q
  | [], c, q => by simp
  | o :: t, c, q => by
    rw [List.foldl_cons, cl_memF t, clS_mem]
    constructor
    · rintro ((h | h) | ⟨e, he, h⟩)
      · exact .inl h
      · exact .inr ⟨o, by simp, h⟩
      · exact .inr ⟨e, List.mem_cons_of_mem _ he, h⟩
    · rintro (h | ⟨e, he, h⟩)
      · exact .inl (.inl h)
      · rcases List.mem_cons.1 he with rfl | he
        · exact .inl (.inr h)
        · exact .inr ⟨e, he, h⟩
theorem hasB_mem {c : List ByteArray} {p : ByteArray} : hasB c p = true ↔ p ∈ c := by
  rw [hasB_yes]
  constructor
  · rintro ⟨k, hk, rfl⟩
    rw [getD_at c k hk]
    exact List.getElem_mem hk
  · intro h
    obtain ⟨k, hk, rfl⟩ := List.getElem_of_mem h
    exact ⟨k, hk, getD_at c k hk⟩
theorem has_cl {l : List Ob} {q : ByteArray} : hasB (cl l) q = true ↔ ∃ e ∈ l, ¬ e.2.1 = 0 ∧ e.1 = q := by
  rw [hasB_mem]
  unfold cl
  rw [cl_memF]
  simp
theorem has_rs {l : List Ob} {p q : ByteArray} {m : Int} {i : ByteArray} (hq : ¬ q = p) (h : hasB (cl l) q = true) : hasB (cl (rsU l p m i)) q = true := by
  obtain ⟨e, he, h0, h1⟩ := has_cl.1 h
  exact has_cl.2 ⟨e, rsU_mem.2 (.inl ⟨he, by rw [h1]; exact hq⟩), h0, h1⟩
theorem has_rs_no {l : List Ob} {p : ByteArray} {m : Int} {i : ByteArray} : hasB (cl (rsU l p m i)) p = false := by
  cases hb : hasB (cl (rsU l p m i)) p with
  | false => rfl
  | true =>
    obtain ⟨e, he, h0, h1⟩ := has_cl.1 hb
    rcases rsU_mem.1 he with ⟨_, q⟩ | ⟨_, rfl⟩
    · exact absurd h1 q
    · exact absurd rfl h0
end Go.Proofs.YtipdebodanhooaaDoor.En
