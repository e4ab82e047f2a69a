/- The paths that clash in an index: each once, rising. Plain mathematics. No statement is proved here. -/
import Derived.Test.YtnififnogdekiabDoorRows
import Derived.Test.YtnififnogdekiabDoorLemQ
import Derived.Test.YtnififnogdekiabDoorEnLQ
import Derived.Test.YtnififnogdekiabDoorIxMQ
import Derived.Test.YtnififnogdekiabDoorIxNQ
import Derived.Test.YtnififnogdekiabDoorSsBQ
import Derived.Test.YtnififnogdekiabDoorSsEQ
namespace Go.Proofs.YtnififnogdekiabDoor.En
open Go.ChangeShapes Go.WideShapes Go.ChangeAt Go.RowKit

/-- One entry more. -/
def clS (c : List ByteArray) (o : Ob) : List ByteArray := if o.2.1 = 0 then c else if c.getLast? = some o.1 then c else c ++ [o.1]
def cl (l : List Ob) : List ByteArray := l.foldl clS []
theorem cl_take (l : List Ob) (k : Nat) (h : k < l.length) : cl (l.take (k + 1)) = clS (cl (l.take k)) (l.getD k onil) := by
  unfold cl
  rw [ob_take l k h, List.foldl_append]; rfl
theorem clS_zero {c : List ByteArray} {o : Ob} (h : o.2.1 = 0) : clS c o = c := if_pos h
theorem clS_len (c : List ByteArray) (o : Ob) : (clS c o).length ≤ c.length + 1 := by
  unfold clS
  split
  · omega
  · split
    · omega
    · simp
theorem cl_len (l : List Ob) : ∀ k, (cl (l.take k)).length ≤ k := by
  intro k
  induction k with
  | zero => simp [cl]
  | succ k ih =>
    by_cases h : k < l.length
    · rw [cl_take l k h]
      have := clS_len (cl (l.take k)) (l.getD k onil)
      omega
    · rw [List.take_of_length_le (by omega)]
      rw [List.take_of_length_le (by omega)] at ih
      omega
def Srt (c : List ByteArray) : Prop := ∀ i j, i < j → j < c.length → cmB (c.getD i ByteArray.empty) (c.getD j ByteArray.empty) < 0
theorem cl_step {c : List ByteArray} {o : Ob} (hs : Srt c) (hc : ∀ k, k < c.length → cmB (c.getD k ByteArray.empty) o.1 < 0 ∨ c.getD k ByteArray.empty = o.1) (ho : ¬ o.2.1 = 0) :
    (∃ i, c = i ++ [o.1] ∧ LastS i o.1 ∧ clS c o = c) ∨ (LastS c o.1 ∧ clS c o = c ++ [o.1]) := by
  by_cases hl : c.getLast? = some o.1
  · left
    obtain ⟨i, rfl⟩ := List.getLast?_eq_some_iff.1 hl
    refine ⟨i, rfl, fun k hk => ?_, by unfold clS; rw [if_neg ho, if_pos hl]⟩
    have := hs k i.length hk (by simp)
    have e1 : (i ++ [o.1]).getD k ByteArray.empty = i.getD k ByteArray.empty := by simp [List.getD, List.getElem?_append_left hk]
    have e2 : (i ++ [o.1]).getD i.length ByteArray.empty = o.1 := by simp [List.getD]
    rw [e1, e2] at this
    exact this
  · right
    refine ⟨fun k hk => ?_, by unfold clS; rw [if_neg ho, if_neg hl]⟩
    rcases hc k hk with q | q
    · exact q
    · exfalso
      by_cases hk2 : k + 1 = c.length
      · apply hl
        rw [List.getLast?_eq_getElem?]
        have : c.length - 1 = k := by omega
        rw [this]
        have e : c.getD k ByteArray.empty = c[k] := by simp [List.getD, hk]
        rw [List.getElem?_eq_getElem hk, ← e, q]
      · have h1 := hs k (c.length - 1) (by omega) (by omega)
        rw [q] at h1
        rcases hc (c.length - 1) (by omega) with q2 | q2
        · have := cmB_trans h1 q2
          rw [cmB_zero.2 rfl] at this; omega
        · rw [q2, cmB_zero.2 rfl] at h1; omega
theorem getD_snoc (c : List ByteArray) (x : ByteArray) (k : Nat) : (c ++ [x]).getD k ByteArray.empty = if k < c.length then c.getD k ByteArray.empty else if k = c.length then x else ByteArray.empty := by
  by_cases h : k < c.length
  · rw [if_pos h]; simp [List.getD, List.getElem?_append_left h]
  · rw [if_neg h]
    by_cases e : k = c.length
    · subst e; simp [List.getD]
    · rw [if_neg e]
      simp [List.getD, List.getElem?_eq_none (show (c ++ [x]).length ≤ k by simp; omega)]
/-- Of the entries up to place k: they rise, and each is a path ahead of k. -/
theorem cl_inv {l : List Ob} (h : ixf l = 0) : ∀ k, k ≤ l.length → Srt (cl (l.take k)) ∧ ∀ i, i < (cl (l.take k)).length → ∃ j, j < k ∧ (cl (l.take k)).getD i ByteArray.empty = (l.getD j onil).1 ∧ ¬ (l.getD j onil).2.1 = 0 := by
  intro k
  induction k with
  | zero => intro _; exact ⟨fun i j _ hj => by simp [cl] at hj, fun i hi => by simp [cl] at hi⟩
  | succ k ih =>
    intro hk
    obtain ⟨h1, h2⟩ := ih (by omega)
    rw [cl_take l k (by omega)]
    by_cases ho : (l.getD k onil).2.1 = 0
    · rw [clS_zero ho]
      refine ⟨h1, fun i hi => ?_⟩
      obtain ⟨j, a, b, c⟩ := h2 i hi
      exact ⟨j, by omega, b, c⟩
    · have hc : ∀ i, i < (cl (l.take k)).length → cmB ((cl (l.take k)).getD i ByteArray.empty) (l.getD k onil).1 < 0 ∨ (cl (l.take k)).getD i ByteArray.empty = (l.getD k onil).1 := fun i hi => by
        obtain ⟨j, a, b, _⟩ := h2 i hi
        have := ix_rises h k j a (by omega)
        rw [cmE_lt] at this
        rw [b]
        rcases this with q | ⟨q, _⟩
        · exact .inl q
        · exact .inr q
      rcases cl_step h1 hc ho with ⟨i, e1, e2, e3⟩ | ⟨e1, e2⟩
      · rw [e3]
        refine ⟨h1, fun i hi => ?_⟩
        obtain ⟨j, a, b, c⟩ := h2 i hi
        exact ⟨j, by omega, b, c⟩
      · rw [e2]
        refine ⟨fun i j hij hj => ?_, fun i hi => ?_⟩
        · rw [List.length_append, List.length_singleton] at hj
          rw [getD_snoc, getD_snoc, if_pos (by omega)]
          by_cases q : j < (cl (l.take k)).length
          · rw [if_pos q]; exact h1 i j hij q
          · rw [if_neg q, if_pos (by omega)]; exact e1 i (by omega)
        · rw [List.length_append, List.length_singleton] at hi
          rw [getD_snoc]
          by_cases q : i < (cl (l.take k)).length
          · rw [if_pos q]
            obtain ⟨j, a, b, c⟩ := h2 i q
            exact ⟨j, by omega, b, c⟩
          · rw [if_neg q, if_pos (by omega)]
            exact ⟨k, by omega, rfl, ho⟩
/-- What one entry more does. -/
theorem cl_next {l : List Ob} (h : ixf l = 0) {k : Nat} (hk : k < l.length) (ho : ¬ (l.getD k onil).2.1 = 0) :
    (∃ i, cl (l.take k) = i ++ [(l.getD k onil).1] ∧ LastS i (l.getD k onil).1 ∧ cl (l.take (k + 1)) = cl (l.take k)) ∨ (LastS (cl (l.take k)) (l.getD k onil).1 ∧ cl (l.take (k + 1)) = cl (l.take k) ++ [(l.getD k onil).1]) := by
  obtain ⟨h1, h2⟩ := cl_inv h k (by omega)
  rw [cl_take l k hk]
  refine cl_step h1 (fun i hi => ?_) ho
  obtain ⟨j, a, b, _⟩ := h2 i hi
  have := ix_rises h k j a hk
  rw [cmE_lt] at this
  rw [b]
  rcases this with q | ⟨q, _⟩
  · exact .inl q
  · exact .inr q
end Go.Proofs.YtnififnogdekiabDoor.En
