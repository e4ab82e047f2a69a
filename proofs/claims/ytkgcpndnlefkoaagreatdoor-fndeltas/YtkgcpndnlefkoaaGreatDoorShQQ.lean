/- The contract of shelfOf. No statement is proved here. -/
import Derived.Test.YtkgcpndnlefkoaaGreatDoorRows
import Derived.Test.YtkgcpndnlefkoaaGreatDoorLemQ
import Derived.Test.YtkgcpndnlefkoaaGreatDoorDTabQ
import Derived.Test.YtkgcpndnlefkoaaGreatDoorInQ
import Derived.Test.YtkgcpndnlefkoaaGreatDoorDigCQ
import Derived.Test.YtkgcpndnlefkoaaGreatDoorObLQ
import Derived.Test.YtkgcpndnlefkoaaGreatDoorGtSQ
import Derived.Test.YtkgcpndnlefkoaaGreatDoorShIQ
import Derived.WalkKit
import Derived.ProofKit
import Derived.Below
import Derived.WalkSpells
import Derived.Laws.Cover1
import Derived.Maps.RangeWalk
namespace Go.Proofs.YtkgcpndnlefkoaaGreatDoor
open Go.ChangeShapes Go.WideShapes Go.ChangeAt Go.RowKit

theorem bl_irr : ∀ a : List UInt8, Op.bytesLess a a = false
  | [] => rfl
  | x :: a => by
    have := bl_irr a
    simp [Op.bytesLess, this]
theorem bl_trans : ∀ a b c : List UInt8, Op.bytesLess a b = true → Op.bytesLess b c = true → Op.bytesLess a c = true
  | _, [], _, h, _ => by simp [Op.bytesLess] at h
  | _, _ :: _, [], _, h => by simp [Op.bytesLess] at h
  | [], _ :: _, _ :: _, _, _ => rfl
  | x :: a, y :: b, z :: c, h, k => by
    simp only [Op.bytesLess, Bool.or_eq_true, Bool.and_eq_true, decide_eq_true_eq, beq_iff_eq] at h k ⊢
    rcases h with h | ⟨rfl, h⟩
    · rcases k with k | ⟨rfl, k⟩
      · exact .inl (UInt8.lt_trans h k)
      · exact .inl h
    · rcases k with k | ⟨rfl, k⟩
      · exact .inl k
      · exact .inr ⟨rfl, bl_trans a b c h k⟩
theorem bl_total : ∀ a b : List UInt8, Op.bytesLess a b = true ∨ a = b ∨ Op.bytesLess b a = true
  | [], [] => .inr (.inl rfl)
  | [], _ :: _ => .inl rfl
  | _ :: _, [] => .inr (.inr rfl)
  | x :: a, y :: b => by
    simp only [Op.bytesLess, Bool.or_eq_true, Bool.and_eq_true, decide_eq_true_eq, beq_iff_eq]
    by_cases h1 : x < y
    · exact .inl (.inl h1)
    · by_cases h2 : y < x
      · exact .inr (.inr (.inl h2))
      · have e : x = y := by
          apply UInt8.toNat_inj.1
          have a1 : ¬ x.toNat < y.toNat := h1
          have a2 : ¬ y.toNat < x.toNat := h2
          omega
        subst e
        rcases bl_total a b with h | h | h
        · exact .inl (.inr ⟨rfl, h⟩)
        · exact .inr (.inl (by rw [h]))
        · exact .inr (.inr (.inr ⟨rfl, h⟩))
theorem sf_size {l : List Ob} (h : sf l = 0) (k : Nat) (hk : k < l.length) : (l.getD k onil).1.size = 5 := by
  have h0 := (sf_zero h).2 k hk
  unfold obF at h0
  split at h0
  · rename_i e
    split at h0
    · rename_i e2
      rw [← e2]
      unfold idK at e
      unfold idT
      split at e
      · rename_i e3
        rw [if_pos e3, if_pos e]
        rfl
      · omega
    · omega
  · rename_i e; exact absurd h0 e
theorem sf_step {l : List Ob} (h : sf l = 0) (k : Nat) (hk : k + 1 < l.length) : Op.bytesLess (l.getD k onil).1.toList (l.getD (k + 1) onil).1.toList = true := by
  have h0 := (sf_zero h).2 (k + 1) hk
  unfold obF at h0
  split at h0
  · split at h0
    · split at h0
      · omega
      · rename_i e
        have e' : ¬ leS (l.getD (k + 1) onil).1 (l.getD k onil).1 = true := fun e2 => e ⟨by omega, e2⟩
        unfold leS at e'
        rcases bl_total (l.getD k onil).1.toList (l.getD (k + 1) onil).1.toList with a | a | a
        · exact a
        · rw [a] at e'; simp at e'
        · rw [a] at e'; simp at e'
    · omega
  · rename_i e; exact absurd h0 e
theorem sf_less {l : List Ob} (h : sf l = 0) (j : Nat) : ∀ k, j < k → k < l.length → Op.bytesLess (l.getD j onil).1.toList (l.getD k onil).1.toList = true := by
  intro k
  induction k with
  | zero => intro h1; omega
  | succ k ih =>
    intro h1 h2
    have hs := sf_step h k h2
    by_cases e : j = k
    · rw [e]; exact hs
    · exact bl_trans _ _ _ (ih (by omega) (by omega)) hs
theorem sf_new {l : List Ob} (h : sf l = 0) (k : Nat) (hk : k < l.length) : ∀ o ∈ l.take k, o.1 ≠ (l.getD k onil).1 := by
  intro o ho e
  obtain ⟨j, hj, rfl⟩ := List.mem_iff_getElem.1 ho
  rw [List.length_take] at hj
  have := sf_less h j k (by omega) hk
  rw [List.getElem_take, show l[j] = l.getD j onil by rw [List.getD, List.getElem?_eq_getElem (by omega)]; rfl] at e
  rw [e, bl_irr] at this
  cases this

end Go.Proofs.YtkgcpndnlefkoaaGreatDoor
/- Lists of objects that rise; where a new one goes; what was collected out of a map. No statement is proved here. -/
namespace Go.Proofs.YtkgcpndnlefkoaaGreatDoor
open Go.ChangeShapes Go.WideShapes Go.ChangeAt Go.RowKit Go.Maps

/-- One object is ahead of another one. -/
def ltO (o p : Ob) : Bool := Op.bytesLess o.1.toList p.1.toList
/-- A list of objects rises. -/
def Asc (l : List Ob) : Prop := l.Pairwise fun o p => ltO o p = true
theorem asc_of {l : List Ob} (h : sf l = 0) : Asc l := by
  unfold Asc
  rw [List.pairwise_iff_getElem]
  intro i j hi hj hij
  have := sf_less h i j hij hj
  unfold ltO
  simpa [List.getD, hi, hj] using this
theorem ltO_asymm {o p : Ob} (h : ltO o p = true) (k : ltO p o = true) : False := by
  have := bl_trans _ _ _ h k
  rw [bl_irr] at this; cases this
theorem asc_eq {l m : List Ob} (hp : l.Perm m) (hl : Asc l) (hm : Asc m) : l = m :=
  hp.eq_of_pairwise (le := fun o p => ltO o p = true) (fun _ _ _ _ h1 h2 => (ltO_asymm h1 h2).elim) hl hm
theorem asc_ids {l : List Ob} (h : Asc l) : (l.map fun o => o.1).Nodup := by
  refine List.pairwise_map.2 (List.Pairwise.imp ?_ h)
  intro o p hl e
  unfold ltO at hl
  rw [e, bl_irr] at hl; cases hl
theorem ids_nodup {l : List Ob} (h : (l.map fun o => o.1).Nodup) : l.Nodup := List.Pairwise.imp (fun hne e => hne (by rw [e])) (List.pairwise_map.1 h)
/-- A permutation without a fall, of objects of different ids, rises. -/
theorem asc_sorted {l m : List Ob} (hp : m.Perm l) (hl : (l.map fun o => o.1).Nodup) (hs : m.Pairwise fun o p => ltO p o = false) : Asc m := by
  have hd : (m.map fun o => o.1).Nodup := (hp.map _).nodup_iff.2 hl
  have := (List.pairwise_map.1 hd).and hs
  refine List.Pairwise.imp ?_ this
  rintro o p ⟨h1, h2⟩
  unfold ltO at h2 ⊢
  rcases bl_total o.1.toList p.1.toList with h | h | h
  · exact h
  · exact absurd (bytes_inj2 h) h1
  · rw [h] at h2; cases h2

/-- Where a new id goes. -/
def insAt (l : List Ob) (id : ByteArray) : Nat := (l.takeWhile fun o => Op.bytesLess o.1.toList id.toList).length
def insO (l : List Ob) (o : Ob) : List Ob := l.take (insAt l o.1) ++ o :: l.drop (insAt l o.1)
theorem insAt_le (l : List Ob) (id : ByteArray) : insAt l id ≤ l.length := (List.takeWhile_sublist _).length_le
theorem insAt_take (l : List Ob) (id : ByteArray) : ∀ j, j < insAt l id → Op.bytesLess (l.getD j onil).1.toList id.toList = true := by
  induction l with
  | nil => intro j hj; simp [insAt] at hj
  | cons o t ih =>
    intro j hj
    unfold insAt at hj
    rw [List.takeWhile_cons] at hj
    split at hj
    · rename_i h
      cases j with
      | zero => exact h
      | succ j => exact ih j (by simpa [insAt] using hj)
    · simp at hj
theorem insAt_at (l : List Ob) (id : ByteArray) (h : insAt l id < l.length) : Op.bytesLess (l.getD (insAt l id) onil).1.toList id.toList = false := by
  induction l with
  | nil => simp at h
  | cons o t ih =>
    unfold insAt at h ⊢
    rw [List.takeWhile_cons] at h ⊢
    split
    · rename_i hh
      rw [if_pos hh] at h
      exact ih (by simpa [insAt] using h)
    · rename_i hh
      simpa using hh
theorem insO_perm (l : List Ob) (o : Ob) : (insO l o).Perm (l ++ [o]) := by
  unfold insO
  refine List.perm_middle.trans ?_
  rw [List.take_append_drop]
  exact (List.perm_append_comm (l₁ := [o]) (l₂ := l))
theorem insO_asc {l : List Ob} {o : Ob} (h : Asc l) (hn : ∀ p ∈ l, p.1 ≠ o.1) : Asc (insO l o) := by
  unfold Asc insO
  have h1 := List.pairwise_append.1 (show ((l.take (insAt l o.1)) ++ (l.drop (insAt l o.1))).Pairwise _ by rw [List.take_append_drop]; exact h)
  have hlt : ∀ p ∈ l.take (insAt l o.1), ltO p o = true := fun p hp => by
    obtain ⟨j, hj, rfl⟩ := List.getElem_of_mem hp
    have hj2 : j < insAt l o.1 := by simp at hj; omega
    have hj3 : j < l.length := by simp at hj; omega
    have := insAt_take l o.1 j hj2
    unfold ltO
    simpa [List.getD, hj3] using this
  have hgt : ∀ p ∈ l.drop (insAt l o.1), ltO o p = true := fun p hp => by
    have hpl : p ∈ l := List.mem_of_mem_drop hp
    have hle : insAt l o.1 < l.length := by
      have := List.length_pos_of_mem hp
      simp at this; omega
    have h0 := insAt_at l o.1 hle
    have hm := ob_mem l (insAt l o.1) hle
    have h0' : ltO o (l.getD (insAt l o.1) onil) = true := by
      unfold ltO
      rcases bl_total o.1.toList (l.getD (insAt l o.1) onil).1.toList with h | h | h
      · exact h
      · exact absurd (bytes_inj2 h).symm (hn _ hm)
      · rw [h] at h0; cases h0
    have e : l.drop (insAt l o.1) = l.getD (insAt l o.1) onil :: l.drop (insAt l o.1 + 1) := by
      rw [List.drop_eq_getElem_cons hle]; simp [List.getD, hle]
    rw [e] at hp
    rcases List.mem_cons.1 hp with rfl | hp
    · exact h0'
    · have h2 := h1.2.1
      rw [e] at h2
      exact bl_trans _ _ _ h0' ((List.pairwise_cons.1 h2).1 p hp)
  refine List.pairwise_append.2 ⟨h1.1, List.pairwise_cons.2 ⟨hgt, h1.2.1⟩, fun p hp q hq => ?_⟩
  rcases List.mem_cons.1 hq with rfl | hq
  · exact hlt p hp
  · exact h1.2.2 p hp q hq

/-- What was met of a map's objects. -/
def Got (l : List Ob) (left : Lit → Bool) (acc : List Ob) : Prop := acc.Nodup ∧ ∀ o, o ∈ acc ↔ o ∈ l ∧ left (kl o.1) = false
/-- What the map holds, told by the list. -/
def Tells (D : DataW Unit) (l : List Ob) : Prop := size D = l.length ∧ (∀ o ∈ l, o.1.size = 5 ∧ has D (kl o.1) = true ∧ ∀ z, D.atKey (kl o.1) z = obD o) ∧ (∀ z : Lit, has D z = true → ∃ o ∈ l, z = kl o.1)
theorem Got.start {D : DataW Unit} {l : List Ob} (h : Tells D l) : Got l (has D) [] :=
  ⟨List.nodup_nil, fun o => by
    constructor
    · intro ho; cases ho
    · rintro ⟨ho, hf⟩
      rw [(h.2.1 o ho).2.1] at hf; cases hf⟩
/-- The entry that has come is an object of the list. -/
theorem Tells.entry {D : DataW Unit} {l : List Ob} (h : Tells D l) {z : Lit} {c : Ob} {y : DataW Unit × List MemPlace} (hv : obR (obV c) = some y) (hat : ∀ zd, D.atKey z zd = y.1) : c ∈ l ∧ z = kl c.1 := by
  obtain ⟨o, ho, rfl⟩ := h.2.2 z (has_true_of_atKey hat)
  rw [obR_mk] at hv
  have e1 := (h.2.1 o ho).2.2 (.lit (.int .i64 0))
  rw [hat] at e1
  have e2 : y.1 = obD c := by
    have := Option.some.inj hv
    rw [← this]
  rw [e2] at e1
  have e3 := obD_inj e1
  rw [e3]
  exact ⟨ho, rfl⟩
theorem Got.perm {l acc : List Ob} {left : Lit → Bool} (hg : Got l left acc) (hd : l.Nodup) (hl : ∀ z, left z = false) : acc.Perm l :=
  (List.perm_ext_iff_of_nodup hg.1 hd).2 fun o => by rw [hg.2 o, hl]; simp
end Go.Proofs.YtkgcpndnlefkoaaGreatDoor
