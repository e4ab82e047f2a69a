/- Lists of objects that rise; where a new one goes; what was collected out of a map. No statement is proved here. -/
import Derived.Test.YtnififnogdekiaaRows
import Derived.Test.YtnififnogdekiaaLemQ
import Derived.Test.YtnififnogdekiaaObLQ
import Derived.Test.YtnififnogdekiaaSfCQ
import Derived.Test.YtnififnogdekiaaShMQ
import Derived.Test.YtnififnogdekiaaShQQ
import Derived.Maps.RangeWalk
namespace Go.Proofs.Ytnififnogdekiaa
open Go.ChangeShapes Go.WideShapes Go.ChangeAt Go.RowKit Go.Maps

/-- One object is ahead of another one. -/
def ltO (o p : Ob) : Bool := Op.bytesLess o.1.toList p.1.toList
/-- A list of objects rises. -/
def Asc (l : List Ob) : Prop := l.Pairwise fun o p => ltO o p = true
theorem asc_of {l : List Ob} (h : sf l = 0) : Asc l := by
  unfold Asc
  rw [List.pairwise_iff_getElem]
  intro i j hi hj hij
  have := sf_less h i j hij hj
  unfold ltO
  simpa [List.getD, hi, hj] using this
theorem ltO_asymm {o p : Ob} (h : ltO o p = true) (k : ltO p o = true) : False := by
  have := bl_trans _ _ _ h k
  rw [bl_irr] at this; cases this
theorem asc_eq {l m : List Ob} (hp : l.Perm m) (hl : Asc l) (hm : Asc m) : l = m :=
  hp.eq_of_pairwise (le := fun o p => ltO o p = true) (fun _ _ _ _ h1 h2 => (ltO_asymm h1 h2).elim) hl hm
theorem asc_ids {l : List Ob} (h : Asc l) : (l.map fun o => o.1).Nodup := by
  refine List.pairwise_map.2 (List.Pairwise.imp ?_ h)
  intro o p hl e
  unfold ltO at hl
  rw [e, bl_irr] at hl; cases hl
theorem ids_nodup {l : List Ob} (h : (l.map fun o => o.1).Nodup) : l.Nodup := List.Pairwise.imp (fun hne e => hne (by rw [e])) (List.pairwise_map.1 h)
/-- A permutation without a fall, of objects of different ids, rises. -/
theorem asc_sorted {l m : List Ob} (hp : m.Perm l) (hl : (l.map fun o => o.1).Nodup) (hs : m.Pairwise fun o p => ltO p o = false) : Asc m := by
  have hd : (m.map fun o => o.1).Nodup := (hp.map _).nodup_iff.2 hl
  have := (List.pairwise_map.1 hd).and hs
  refine List.Pairwise.imp ?_ this
  rintro o p ⟨h1, h2⟩
  unfold ltO at h2 ⊢
  rcases bl_total o.1.toList p.1.toList with h | h | h
  · exact h
  · exact absurd (bytes_inj2 h) h1
  · rw [h] at h2; cases h2

/-- Where a new id goes. -/
def insAt (l : List Ob) (id : ByteArray) : Nat := (l.takeWhile fun o => Op.bytesLess o.1.toList id.toList).length
def insO (l : List Ob) (o : Ob) : List Ob := l.take (insAt l o.1) ++ o :: l.drop (insAt l o.1)
theorem insAt_le (l : List Ob) (id : ByteArray) : insAt l id ≤ l.length := (List.takeWhile_sublist _).length_le
theorem insAt_take (l : List Ob) (id : ByteArray) : ∀ j, j < insAt l id → Op.bytesLess (l.getD j onil).1.toList id.toList = true := by
  induction l with
  | nil => intro j hj; simp [insAt] at hj
  | cons o t ih =>
    intro j hj
    unfold insAt at hj
    rw [List.takeWhile_cons] at hj
    split at hj
    · rename_i h
      cases j with
      | zero => exact h
      | succ j => exact ih j (by simpa [insAt] using hj)
    · simp at hj
theorem insAt_at (l : List Ob) (id : ByteArray) (h : insAt l id < l.length) : Op.bytesLess (l.getD (insAt l id) onil).1.toList id.toList = false := by
  induction l with
  | nil => simp at h
  | cons o t ih =>
    unfold insAt at h ⊢
    rw [List.takeWhile_cons] at h ⊢
    split
    · rename_i hh
      rw [if_pos hh] at h
      exact ih (by simpa [insAt] using h)
    · rename_i hh
      simpa using hh
theorem insO_perm (l : List Ob) (o : Ob) : (insO l o).Perm (l ++ [o]) := by
  unfold insO
  refine List.perm_middle.trans ?_
  rw [List.take_append_drop]
  exact (List.perm_append_comm (l₁ := [o]) (l₂ := l))
theorem insO_asc {l : List Ob} {o : Ob} (h : Asc l) (hn : ∀ p ∈ l, p.1 ≠ o.1) : Asc (insO l o) := by
  unfold Asc insO
  have h1 := List.pairwise_append.1 (show ((l.take (insAt l o.1)) ++ (l.drop (insAt l o.1))).Pairwise _ by rw [List.take_append_drop]; exact h)
  have hlt : ∀ p ∈ l.take (insAt l o.1), ltO p o = true := fun p hp => by
    obtain ⟨j, hj, rfl⟩ := List.getElem_of_mem hp
    have hj2 : j < insAt l o.1 := by simp at hj; omega
    have hj3 : j < l.length := by simp at hj; omega
    have := insAt_take l o.1 j hj2
    unfold ltO
    simpa [List.getD, hj3] using this
  have hgt : ∀ p ∈ l.drop (insAt l o.1), ltO o p = true := fun p hp => by
    have hpl : p ∈ l := List.mem_of_mem_drop hp
    have hle : insAt l o.1 < l.length := by
      have := List.length_pos_of_mem hp
      simp at this; omega
    have h0 := insAt_at l o.1 hle
    have hm := ob_mem l (insAt l o.1) hle
    have h0' : ltO o (l.getD (insAt l o.1) onil) = true := by
      unfold ltO
      rcases bl_total o.1.toList (l.getD (insAt l o.1) onil).1.toList with h | h | h
      · exact h
      · exact absurd (bytes_inj2 h).symm (hn _ hm)
      · rw [h] at h0; cases h0
    have e : l.drop (insAt l o.1) = l.getD (insAt l o.1) onil :: l.drop (insAt l o.1 + 1) := by
      rw [List.drop_eq_getElem_cons hle]; simp [List.getD, hle]
    rw [e] at hp
    rcases List.mem_cons.1 hp with rfl | hp
    · exact h0'
    · have h2 := h1.2.1
      rw [e] at h2
      exact bl_trans _ _ _ h0' ((List.pairwise_cons.1 h2).1 p hp)
  refine List.pairwise_append.2 ⟨h1.1, List.pairwise_cons.2 ⟨hgt, h1.2.1⟩, fun p hp q hq => ?_⟩
  rcases List.mem_cons.1 hq with rfl | hq
  · exact hlt p hp
  · exact h1.2.2 p hp q hq

/-- What was met of a map's objects. -/
def Got (l : List Ob) (left : Lit → Bool) (acc : List Ob) : Prop := acc.Nodup ∧ ∀ o, o ∈ acc ↔ o ∈ l ∧ left (kl o.1) = false
/-- What the map holds, told by the list. -/
def Tells (D : DataW Unit) (l : List Ob) : Prop := size D = l.length ∧ (∀ o ∈ l, o.1.size = 5 ∧ has D (kl o.1) = true ∧ ∀ z, D.atKey (kl o.1) z = obD o) ∧ (∀ z : Lit, has D z = true → ∃ o ∈ l, z = kl o.1)
theorem Got.start {D : DataW Unit} {l : List Ob} (h : Tells D l) : Got l (has D) [] :=
  ⟨List.nodup_nil, fun o => by
    constructor
    · intro ho; cases ho
    · rintro ⟨ho, hf⟩
      rw [(h.2.1 o ho).2.1] at hf; cases hf⟩
/-- The entry that has come is an object of the list. -/
theorem Tells.entry {D : DataW Unit} {l : List Ob} (h : Tells D l) {z : Lit} {c : Ob} {y : DataW Unit × List MemPlace} (hv : obR (obV c) = some y) (hat : ∀ zd, D.atKey z zd = y.1) : c ∈ l ∧ z = kl c.1 := by
  obtain ⟨o, ho, rfl⟩ := h.2.2 z (has_true_of_atKey hat)
  rw [obR_mk] at hv
  have e1 := (h.2.1 o ho).2.2 (.lit (.int .i64 0))
  rw [hat] at e1
  have e2 : y.1 = obD c := by
    have := Option.some.inj hv
    rw [← this]
  rw [e2] at e1
  have e3 := obD_inj e1
  rw [e3]
  exact ⟨ho, rfl⟩
theorem Got.step {D : DataW Unit} {l acc : List Ob} {left : Lit → Bool} (h : Tells D l) (hg : Got l left acc) {c : Ob} (hc : c ∈ l) (hl : left (kl c.1) = true) : Got l (fun z => left z && !z.sameKey (kl c.1)) (acc ++ [c]) := by
  have hnew : c ∉ acc := fun hx => by
    have := ((hg.2 c).1 hx).2
    rw [hl] at this; cases this
  refine ⟨List.nodup_append.2 ⟨hg.1, by simp, fun a ha b hb => by simp at hb; subst hb; exact fun e => hnew (e ▸ ha)⟩, fun o => ?_⟩
  by_cases ho : o = c
  · subst ho
    have := WideAt.sameKey_self (kl_key o.1)
    simp [hc, this]
  · simp only [List.mem_append, List.mem_singleton, ho, or_false]
    rw [hg.2 o]
    constructor
    · rintro ⟨h1, h2⟩
      exact ⟨h1, by rw [h2]; rfl⟩
    · rintro ⟨h1, h2⟩
      refine ⟨h1, ?_⟩
      have hne : o.1 ≠ c.1 := fun e => ho (by
        have e1 := (h.2.1 o h1).2.2 (.lit (.int .i64 0))
        have e2 := (h.2.1 c hc).2.2 (.lit (.int .i64 0))
        rw [e, e2] at e1
        exact (obD_inj e1).symm)
      have hk := sameKey_ne (kl_ne (h.2.1 o h1).1 (h.2.1 c hc).1 hne)
      rw [hk] at h2
      simpa using h2
theorem Got.perm {l acc : List Ob} {left : Lit → Bool} (hg : Got l left acc) (hd : l.Nodup) (hl : ∀ z, left z = false) : acc.Perm l :=
  (List.perm_ext_iff_of_nodup hg.1 hd).2 fun o => by rw [hg.2 o, hl]; simp
theorem Sh.tells {w : World} {b : Nat} {l : List Ob} (h : Sh w b l) : ∃ D : DataW Unit, w.ownsMap Try.prog 81 obR b l.length D ∧ Tells D l := by
  obtain ⟨D, h1, _, h3, h4, h5⟩ := h
  exact ⟨D, h1, h3, h4, h5⟩
end Go.Proofs.Ytnififnogdekiaa
