/- The stages of an index, changed: the mathematics. No statement is proved here. -/
import Derived.Test.YtfklefdliakemaaDoorRows
import Derived.Test.YtfklefdliakemaaDoorLemQ
import Derived.Test.YtfklefdliakemaaDoorLFLemQ
import Derived.Test.YtfklefdliakemaaDoorDTabQ
import Derived.Test.YtfklefdliakemaaDoorEnLQ
import Derived.Test.YtfklefdliakemaaDoorIxMQ
import Derived.Test.YtfklefdliakemaaDoorIxNQ
import Derived.Test.YtfklefdliakemaaDoorSlBQ
import Derived.Test.YtfklefdliakemaaDoorSlCQ
import Derived.Test.YtfklefdliakemaaDoorCpKQ
import Derived.Test.YtfklefdliakemaaDoorInEQ
import Derived.WalkKit
import Derived.ProofKit
set_option linter.unusedVariables false
namespace Go.Proofs.YtfklefdliakemaaDoor.En
open Go.RowKit
/-- A stage, changed; an entry with it. -/
def swI (s : Int) : Int := if s = 2 then 3 else if s = 3 then 2 else s
def sw1 (e : Ob) : Ob := (e.1, swI e.2.1, e.2.2.1, e.2.2.2)
theorem swI_inj {a b : Int} (h : swI a = swI b) : a = b := by
  unfold swI at h
  split at h <;> split at h <;> (try split at h) <;> (try split at h) <;> omega
/-- Entries that rise. -/
def Rise (l : List Ob) : Prop := ∀ j k, j < k → k < l.length → cmE (l.getD j onil) (l.getD k onil) < 0
theorem rise_nil : Rise [] := fun j k _ h => absurd h (by simp)
/-- How many entries stand ahead. -/
def peF (l : List Ob) (e : Ob) : Nat → Nat → Nat
  | 0, k => k
  | n + 1, k => if cmE (l.getD k onil) e < 0 then peF l e n (k + 1) else k
def pe (l : List Ob) (e : Ob) : Nat := peF l e l.length 0
theorem peF_spec (l : List Ob) (e : Ob) : ∀ n k, k + n = l.length → k ≤ peF l e n k ∧ peF l e n k ≤ l.length ∧ (∀ j, k ≤ j → j < peF l e n k → cmE (l.getD j onil) e < 0) ∧ (peF l e n k < l.length → ¬ cmE (l.getD (peF l e n k) onil) e < 0) := by
  intro n
  induction n with
  | zero => intro k hk; exact ⟨Nat.le_refl _, by show k ≤ _; omega, fun j h1 h2 => absurd h2 (by show ¬ j < k; omega), fun h => absurd h (by show ¬ k < _; omega)⟩
  | succ n ih =>
    intro k hk
    by_cases hb : cmE (l.getD k onil) e < 0
    · rw [show peF l e (n + 1) k = peF l e n (k + 1) by rw [peF, if_pos hb]]
      obtain ⟨h1, h2, h3, h4⟩ := ih (k + 1) (by omega)
      refine ⟨by omega, h2, fun j q1 q2 => ?_, h4⟩
      by_cases q : j = k
      · rw [q]; exact hb
      · exact h3 j (by omega) q2
    · rw [show peF l e (n + 1) k = k by rw [peF, if_neg hb]]
      exact ⟨Nat.le_refl _, by omega, fun j q1 q2 => absurd q2 (by omega), fun _ => hb⟩
theorem pe_le (l : List Ob) (e : Ob) : pe l e ≤ l.length := (peF_spec l e l.length 0 (by omega)).2.1
theorem pe_cuts {l : List Ob} (hr : Rise l) (e : Ob) : Cuts l e (pe l e) := by
  obtain ⟨_, h2, h3, h4⟩ := peF_spec l e l.length 0 (by omega)
  refine ⟨h2, fun k hk => h3 k (Nat.zero_le _) hk, fun k hk hl => ?_⟩
  have h5 : ¬ cmE (l.getD (pe l e) onil) e < 0 := h4 (Nat.lt_of_le_of_lt hk hl)
  rcases Int.lt_or_le (cmE (l.getD k onil) e) 0 with q | q
  · exfalso
    by_cases x : pe l e = k
    · rw [x] at h5; exact h5 q
    · exact h5 (cmE_trans (hr (pe l e) k (by omega) hl) q)
  · exact q
theorem cuts_one {l : List Ob} {e : Ob} {p q : Nat} (h1 : Cuts l e p) (h2 : Cuts l e q) : p = q := by
  rcases Nat.lt_trichotomy p q with h | h | h
  · have a := h2.2.1 p h
    have b := h1.2.2 p (Nat.le_refl _) (Nat.lt_of_lt_of_le h h2.1)
    omega
  · exact h
  · have a := h1.2.1 q h
    have b := h2.2.2 q (Nat.le_refl _) (Nat.lt_of_lt_of_le h h1.1)
    omega
/-- None is like it. -/
def Apart (l : List Ob) (e : Ob) : Prop := ∀ k, k < l.length → ¬ cmE (l.getD k onil) e = 0
theorem apart_hit {l : List Ob} {e : Ob} (h : Apart l e) (p : Nat) : hit l e p = false := by
  unfold hit
  by_cases hp : p < l.length
  · rw [beq_eq_false_iff_ne.2 (h p hp), Bool.and_false]
  · simp [hp]
theorem insL_at (l : List Ob) (p : Nat) (e : Ob) (hp : p ≤ l.length) (k : Nat) (hk : k < l.length + 1) : (insL l p e).getD k onil = if k < p then l.getD k onil else if k = p then e else l.getD (k - 1) onil := by
  unfold insL
  have hl : (l.take p).length = p := by rw [List.length_take]; omega
  by_cases h1 : k < p
  · rw [if_pos h1]
    simp only [List.getD]
    rw [List.getElem?_append_left (by omega), List.getElem?_take, if_pos h1]
  · rw [if_neg h1]
    simp only [List.getD]
    rw [List.getElem?_append_right (by omega), hl]
    by_cases h2 : k = p
    · rw [if_pos h2, h2, Nat.sub_self]; rfl
    · rw [if_neg h2, List.getElem?_append_right (by simp; omega)]
      simp only [List.length_cons, List.length_nil, List.getElem?_drop]
      rw [show p + (k - p - (0 + 1)) = k - 1 by omega]
/-- The order the other way. -/
theorem cmI_pos {a b : Int} (h : 0 < cmI a b) : b < a := by
  unfold cmI at h
  split at h
  · omega
  · split at h
    · assumption
    · omega
theorem cmI_zero {a b : Int} (h : cmI a b = 0) : a = b := by
  unfold cmI at h
  split at h
  · omega
  · split at h
    · omega
    · omega
theorem cmE_gt {a b : Ob} (h : 0 < cmE a b) : cmE b a < 0 := by
  unfold cmE at h
  by_cases e : cmB a.1 b.1 = 0
  · rw [if_pos e] at h
    exact cmE_lt.2 (.inr ⟨(cmB_zero.1 e).symm, cmI_pos h⟩)
  · rw [if_neg e] at h
    have h1 : cmB a.1 b.1 = 1 := by
      rcases cmB_cases a.1 b.1 with ⟨q, _⟩ | ⟨q, _⟩ | ⟨q, _⟩
      · omega
      · omega
      · exact q
    exact cmE_lt.2 (.inl (by rw [cm_anti _ _ h1]; omega))
theorem ins_rise {l : List Ob} {e : Ob} (hr : Rise l) (ha : Apart l e) : Rise (insL l (pe l e) e) := by
  have hc := pe_cuts hr e
  have hp := pe_le l e
  have up : ∀ k, pe l e ≤ k → k < l.length → cmE e (l.getD k onil) < 0 := fun k h1 h2 => cmE_gt (by have := hc.2.2 k h1 h2; have := ha k h2; omega)
  intro j k hjk hk
  rw [insL_length l _ e hp] at hk
  rw [insL_at l _ e hp j (by omega), insL_at l _ e hp k hk]
  by_cases j1 : j < pe l e
  · rw [if_pos j1]
    by_cases k1 : k < pe l e
    · rw [if_pos k1]; exact hr j k hjk (by omega)
    · rw [if_neg k1]
      by_cases k2 : k = pe l e
      · rw [if_pos k2]; exact hc.2.1 j j1
      · rw [if_neg k2]; exact hr j (k - 1) (by omega) (by omega)
  · rw [if_neg j1, if_neg (show ¬ k < pe l e by omega), if_neg (show ¬ k = pe l e by omega)]
    by_cases j2 : j = pe l e
    · rw [if_pos j2]; exact up (k - 1) (by omega) (by omega)
    · rw [if_neg j2]; exact hr (j - 1) (k - 1) (by omega) (by omega)
/-- The index with its stages changed, of the first k entries. -/
def swK (l : List Ob) : Nat → List Ob
  | 0 => []
  | k + 1 => insL (swK l k) (pe (swK l k) (sw1 (l.getD k onil))) (sw1 (l.getD k onil))
theorem swK_len (l : List Ob) : ∀ k, (swK l k).length = k
  | 0 => rfl
  | k + 1 => by rw [swK, insL_length _ _ _ (pe_le _ _), swK_len l k]
theorem swK_mem (l : List Ob) : ∀ k x, x ∈ swK l k → ∃ j, j < k ∧ x = sw1 (l.getD j onil)
  | 0, x, h => by cases h
  | k + 1, x, h => by
    rw [swK] at h
    unfold insL at h
    rcases List.mem_append.1 h with h | h
    · obtain ⟨j, hj, e⟩ := swK_mem l k x (List.mem_of_mem_take h)
      exact ⟨j, by omega, e⟩
    · rcases List.mem_append.1 h with h | h
      · exact ⟨k, by omega, by simpa using h⟩
      · obtain ⟨j, hj, e⟩ := swK_mem l k x (List.mem_of_mem_drop h)
        exact ⟨j, by omega, e⟩
theorem cmE_zero {a b : Ob} (h : cmE a b = 0) : a.1 = b.1 ∧ a.2.1 = b.2.1 := by
  unfold cmE at h
  by_cases e : cmB a.1 b.1 = 0
  · rw [if_pos e] at h
    exact ⟨cmB_zero.1 e, cmI_zero h⟩
  · rw [if_neg e] at h
    exact absurd h e
theorem sw_apart {l : List Ob} (h : ixf l = 0) {k : Nat} (hk : k < l.length) : Apart (swK l k) (sw1 (l.getD k onil)) := by
  intro i hi e
  obtain ⟨j, hj, ex⟩ := swK_mem l k _ (ob_mem _ _ hi)
  rw [ex] at e
  obtain ⟨e1, e2⟩ := cmE_zero e
  have h1 := ix_rises h k j hj hk
  have e3 := swI_inj (show swI (l.getD j onil).2.1 = swI (l.getD k onil).2.1 from e2)
  have e4 : (l.getD j onil).1 = (l.getD k onil).1 := e1
  rcases cmE_lt.1 h1 with q | q
  · rw [e4] at q
    have h9 : cmB (l.getD k onil).1 (l.getD k onil).1 = 0 := cmB_zero.2 rfl
    omega
  · omega
theorem sw_rise {l : List Ob} (h : ixf l = 0) : ∀ k, k ≤ l.length → Rise (swK l k)
  | 0, _ => rise_nil
  | k + 1, hk => ins_rise (sw_rise h k (by omega)) (sw_apart h (by omega))
end Go.Proofs.YtfklefdliakemaaDoor.En
