/- Paths of lists of files, rising; what is at a path; what differs. Plain mathematics. No statement is proved here. -/
import Derived.Test.YtkgcpndnlefkoaaGreatDoorRows
import Derived.Test.YtkgcpndnlefkoaaGreatDoorLemQ
import Derived.Test.YtkgcpndnlefkoaaGreatDoorLFLemQ
import Derived.Test.YtkgcpndnlefkoaaGreatDoorInQ
import Derived.Test.YtkgcpndnlefkoaaGreatDoorFfCQ
import Derived.Lib.SlicesCompact
import Derived.Lib.RowBridge
namespace Go.Proofs.YtkgcpndnlefkoaaGreatDoor.Fl
open Go.ChangeShapes Go.WideShapes Go.ChangeAt Go.RowKit

/-- One text ahead of another. -/
def plt (a b : ByteArray) : Prop := a.data.toList < b.data.toList
theorem bl_lt : ∀ a b : List UInt8, Op.bytesLess a b = true ↔ a < b
  | _, [] => by simp [Op.bytesLess]
  | [], y :: ys => by simp [Op.bytesLess]
  | x :: xs, y :: ys => by
    have ih := bl_lt xs ys
    rw [List.cons_lt_cons_iff]
    simp only [Op.bytesLess]
    by_cases h1 : x < y
    · simp [h1]
    · by_cases h2 : y < x
      · have h3 : ¬ x = y := fun e => by rw [e] at h2; exact absurd h2 (UInt8.lt_irrefl _)
        simp [h1, h3]
      · have h3 : x = y := UInt8.le_antisymm (UInt8.not_lt.1 h2) (UInt8.not_lt.1 h1)
        simp [h3, ih]
theorem plt_less {a b : ByteArray} : Op.bytesLess a.toList b.toList = true ↔ plt a b := by
  rw [ByteArray.toList_eq, ByteArray.toList_eq]; exact bl_lt _ _
theorem plt_no {a b : ByteArray} : Op.bytesLess a.toList b.toList = false ↔ ¬ plt a b := by
  rw [← plt_less]; simp
theorem plt_irr (a : ByteArray) : ¬ plt a a := List.lt_irrefl _
theorem plt_tr (a b c : ByteArray) (h1 : plt a b) (h2 : plt b c) : plt a c := List.lt_trans h1 h2
theorem plt_tri (a b : ByteArray) : plt a b ∨ a = b ∨ plt b a := by
  by_cases h1 : plt a b
  · exact .inl h1
  · by_cases h2 : plt b a
    · exact .inr (.inr h2)
    · refine .inr (.inl ?_)
      have e : a.data.toList = b.data.toList := List.le_antisymm (List.not_lt.1 h2) (List.not_lt.1 h1)
      exact bytes_inj2 (by rw [ByteArray.toList_eq, ByteArray.toList_eq, e])
theorem cmp_lt0 : ∀ a b : List UInt8, Lib.compareBytes a b < 0 ↔ a < b
  | [], [] => by simp [Lib.compareBytes]
  | [], y :: ys => by simp [Lib.compareBytes]
  | x :: xs, [] => by simp [Lib.compareBytes]
  | x :: xs, y :: ys => by
    have ih := cmp_lt0 xs ys
    rw [List.cons_lt_cons_iff]
    simp only [Lib.compareBytes]
    by_cases h1 : x < y
    · simp [h1]
    · by_cases h2 : y < x
      · have h3 : ¬ x = y := fun e => by rw [e] at h2; exact absurd h2 (UInt8.lt_irrefl _)
        simp [h1, h2, h3]
      · have h3 : x = y := UInt8.le_antisymm (UInt8.not_lt.1 h2) (UInt8.not_lt.1 h1)
        simp [h3, ih]
theorem cmp_eq0 : ∀ a b : List UInt8, Lib.compareBytes a b = 0 ↔ a = b
  | [], [] => by simp [Lib.compareBytes]
  | [], y :: ys => by simp [Lib.compareBytes]
  | x :: xs, [] => by simp [Lib.compareBytes]
  | x :: xs, y :: ys => by
    have ih := cmp_eq0 xs ys
    simp only [Lib.compareBytes]
    by_cases h1 : x < y
    · have h3 : ¬ x = y := fun e => by rw [e] at h1; exact absurd h1 (UInt8.lt_irrefl _)
      simp [h1, h3]
    · by_cases h2 : y < x
      · have h3 : ¬ x = y := fun e => by rw [e] at h2; exact absurd h2 (UInt8.lt_irrefl _)
        simp [h1, h2, h3]
      · have h3 : x = y := UInt8.le_antisymm (UInt8.not_lt.1 h2) (UInt8.not_lt.1 h1)
        simp [h3, ih]
/-- Two rising lists of the same members are one list. -/
theorem pw_one {α : Type} {R : α → α → Prop} (irr : ∀ a, ¬ R a a) (tr : ∀ a b c, R a b → R b c → R a c) : ∀ l m : List α, l.Pairwise R → m.Pairwise R → (∀ x, x ∈ l ↔ x ∈ m) → l = m
  | [], [], _, _, _ => rfl
  | [], b :: m, _, _, h => absurd ((h b).2 (by simp)) (by simp)
  | a :: l, [], _, _, h => absurd ((h a).1 (by simp)) (by simp)
  | a :: l, b :: m, hl, hm, h => by
    obtain ⟨la, lp⟩ := List.pairwise_cons.1 hl
    obtain ⟨mb, mp⟩ := List.pairwise_cons.1 hm
    have e : a = b := by
      rcases List.mem_cons.1 ((h a).1 (by simp)) with q | q
      · exact q
      · rcases List.mem_cons.1 ((h b).2 (by simp)) with r | r
        · exact r.symm
        · exact absurd (tr _ _ _ (la b r) (mb a q)) (irr a)
    subst e
    rw [pw_one irr tr l m lp mp (fun x => ?_)]
    constructor
    · intro hx
      rcases List.mem_cons.1 ((h x).1 (List.mem_cons_of_mem _ hx)) with q | q
      · subst q; exact absurd (la x hx) (irr x)
      · exact q
    · intro hx
      rcases List.mem_cons.1 ((h x).2 (List.mem_cons_of_mem _ hx)) with q | q
      · subst q; exact absurd (mb x hx) (irr x)
      · exact q
/-- A rising list of texts without runs. -/
theorem compact_up (d : Array (List UInt8)) (hs : ∀ i j, i < j → j < d.size → d[i]! ≤ d[j]!) : ∀ m, m ≤ d.size →
    (Lib.compactUpTo d m).Pairwise (· < ·) ∧ (∀ x, x ∈ Lib.compactUpTo d m ↔ ∃ j, j < m ∧ d[j]! = x)
  | 0, _ => ⟨by simp [Lib.compactUpTo], fun x => by simp [Lib.compactUpTo]⟩
  | m + 1, hm => by
    obtain ⟨h1, h2⟩ := compact_up d hs m (by omega)
    rw [Lib.compactUpTo_succ]
    cases hk : Lib.keeps d m with
    | true =>
      simp only [if_true]
      have hne : ∀ x, x ∈ Lib.compactUpTo d m → x < d[m]! := by
        intro x hx
        obtain ⟨j, hj, rfl⟩ := (h2 x).1 hx
        have hm0 : 0 < m := by omega
        have q1 : d[m]! ≠ d[m - 1]! := fun e => by rw [Lib.keeps_neg hm0 e] at hk; cases hk
        have q2 : d[m - 1]! ≤ d[m]! := hs (m - 1) m (by omega) (by omega)
        have q3 : d[m - 1]! < d[m]! := by
          rcases List.le_iff_lt_or_eq.1 q2 with q | q
          · exact q
          · exact absurd q.symm q1
        by_cases e : j = m - 1
        · rw [e]; exact q3
        · exact List.lt_of_le_of_lt (hs j (m - 1) (by omega) (by omega)) q3
      refine ⟨List.pairwise_append.2 ⟨h1, by simp, fun x hx y hy => by rw [List.mem_singleton.1 hy]; exact hne x hx⟩, fun x => ?_⟩
      rw [List.mem_append, h2 x, List.mem_singleton]
      constructor
      · rintro (⟨j, hj, e⟩ | e)
        · exact ⟨j, by omega, e⟩
        · exact ⟨m, by omega, e.symm⟩
      · rintro ⟨j, hj, e⟩
        by_cases q : j = m
        · subst q; exact .inr e.symm
        · exact .inl ⟨j, by omega, e⟩
    | false =>
      simp only [Bool.false_eq_true, if_false, List.append_nil]
      have hm0 : 0 < m := by
        rcases Nat.eq_zero_or_pos m with q | q
        · subst q; rw [Lib.keeps_lt_one d 0 (by omega)] at hk; cases hk
        · exact q
      have he : d[m]! = d[m - 1]! := by
        by_cases q : d[m]! = d[m - 1]!
        · exact q
        · rw [Lib.keeps_pos q] at hk; cases hk
      refine ⟨h1, fun x => ?_⟩
      rw [h2 x]
      constructor
      · rintro ⟨j, hj, e⟩; exact ⟨j, by omega, e⟩
      · rintro ⟨j, hj, e⟩
        by_cases q : j = m
        · subst q; exact ⟨j - 1, by omega, by rw [← he]; exact e⟩
        · exact ⟨j, by omega, e⟩
/-- Texts sorted, and without runs. -/
def srtL (L : List (List UInt8)) : List (List UInt8) := L.mergeSort fun x y => decide (x ≤ y)
def ps (L : List ByteArray) : List ByteArray := (Lib.compact (srtL (L.map (·.data.toList)))).map mkB
theorem srtL_up (L : List (List UInt8)) : (srtL L).Pairwise (· ≤ ·) := by
  have h := List.pairwise_mergeSort (le := fun x y : List UInt8 => decide (x ≤ y)) (fun a b c h1 h2 => by simp only [decide_eq_true_eq] at *; exact List.le_trans h1 h2) (fun a b => by simp only [Bool.or_eq_true, decide_eq_true_eq]; exact List.le_total a b) L
  exact h.imp (fun q => of_decide_eq_true q)
theorem srtL_mem {L : List (List UInt8)} {x : List UInt8} : x ∈ srtL L ↔ x ∈ L := (List.mergeSort_perm _ _).mem_iff
theorem ps_both (L : List ByteArray) : (ps L).Pairwise plt ∧ ∀ p, p ∈ ps L ↔ p ∈ L := by
  have hu := srtL_up (L.map (·.data.toList))
  obtain ⟨h1, h2⟩ := compact_up (srtL (L.map (·.data.toList))).toArray (fun i j hij hj => by
    rw [List.size_toArray] at hj
    have := List.pairwise_iff_getElem.1 hu i j (by omega) hj hij
    have hi : i < (srtL (L.map (·.data.toList))).length := by omega
    rw [getElem!_pos _ i (by simpa using hi), getElem!_pos _ j (by simpa using hj)]
    simpa using this) _ (Nat.le_refl _)
  have hc : Lib.compact (srtL (L.map (·.data.toList))) = Lib.compactUpTo (srtL (L.map (·.data.toList))).toArray (srtL (L.map (·.data.toList))).toArray.size := by
    unfold Lib.compact; rw [List.size_toArray]
  unfold ps
  rw [hc]
  refine ⟨?_, fun p => ?_⟩
  · rw [List.pairwise_map]
    exact h1.imp (fun q => by unfold plt; rw [mkB_data, mkB_data]; exact q)
  · rw [List.mem_map]
    constructor
    · rintro ⟨x, hx, rfl⟩
      obtain ⟨j, hj, e⟩ := (h2 x).1 hx
      rw [List.size_toArray] at hj
      have hm : x ∈ srtL (L.map (·.data.toList)) := by
        rw [← e]
        simp [getElem!_pos, hj]
      obtain ⟨y, hy, rfl⟩ := List.mem_map.1 (srtL_mem.1 hm)
      exact hy
    · intro hp
      refine ⟨p.data.toList, (h2 _).2 ?_, rfl⟩
      obtain ⟨j, hj, e⟩ := List.getElem_of_mem (srtL_mem.2 (List.mem_map.2 ⟨p, hp, rfl⟩))
      exact ⟨j, by rw [List.size_toArray]; exact hj, by simp [getElem!_pos, hj, e]⟩
theorem ps_one {L Q : List ByteArray} (h1 : Q.Pairwise plt) (h2 : ∀ p, p ∈ Q ↔ p ∈ L) : Q = ps L :=
  pw_one plt_irr plt_tr _ _ h1 (ps_both L).1 (fun x => (h2 x).trans ((ps_both L).2 x).symm)
theorem ps_len (L : List ByteArray) : (ps L).length ≤ L.length := by
  unfold ps
  rw [List.length_map]
  have h := Lib.compact_length_le (srtL (L.map (·.data.toList)))
  have k : (srtL (L.map (·.data.toList))).length = L.length := by unfold srtL; rw [List.length_mergeSort, List.length_map]
  omega
/-- The file at a path. -/
def fa (l : List Ob) (p : ByteArray) : Ob := (l.find? fun f => decide (f.1 = p)).getD onil
theorem fa_none {l : List Ob} {p : ByteArray} (h : ∀ k, k < l.length → ¬ (l.getD k onil).1 = p) : fa l p = onil := by
  unfold fa
  have e : l.find? (fun f => decide (f.1 = p)) = none := by
    rw [List.find?_eq_none]
    intro f hf
    obtain ⟨k, hk, rfl⟩ := List.getElem_of_mem hf
    have := h k hk
    simpa [List.getD, hk] using this
  rw [e]; rfl
theorem fa_at {l : List Ob} {p : ByteArray} {k : Nat} (hk : k < l.length) (h : (l.getD k onil).1 = p) (hn : ∀ j, j < k → ¬ (l.getD j onil).1 = p) : fa l p = l.getD k onil := by
  unfold fa
  have e : l.find? (fun f => decide (f.1 = p)) = some (l.getD k onil) := by
    rw [List.find?_eq_some_iff_getElem]
    refine ⟨by simpa using h, k, hk, by simp [List.getD, hk], fun j hj => ?_⟩
    have := hn j hj
    simpa [List.getD, show j < l.length from by omega] using this
  rw [e]; rfl
/-- What differs. -/
def Dt := ByteArray × Ob × Ob
def dOf (a b : List Ob) (p : ByteArray) : Option (ByteArray × Ob × Ob) := if fa a p = fa b p then none else some (p, fa a p, fa b p)
def pths (a b : List Ob) : List ByteArray := a.map (·.1) ++ b.map (·.1)
def dfA (a b : List Ob) (Q : List ByteArray) : List (ByteArray × Ob × Ob) := Q.filterMap (dOf a b)
theorem dfA_same {a b : List Ob} {Q : List ByteArray} {k : Nat} (hk : k < Q.length) (h : fa a (Q.getD k ByteArray.empty) = fa b (Q.getD k ByteArray.empty)) : dfA a b (Q.take (k + 1)) = dfA a b (Q.take k) := by
  unfold dfA
  have e : Q[k] = Q.getD k ByteArray.empty := by simp [List.getD, hk]
  rw [List.take_succ_eq_append_getElem hk, List.filterMap_append, e]
  generalize Q.getD k ByteArray.empty = p at h ⊢
  simp [dOf, h]
theorem dfA_more {a b : List Ob} {Q : List ByteArray} {k : Nat} (hk : k < Q.length) (h : ¬ fa a (Q.getD k ByteArray.empty) = fa b (Q.getD k ByteArray.empty)) : dfA a b (Q.take (k + 1)) = dfA a b (Q.take k) ++ [(Q.getD k ByteArray.empty, fa a (Q.getD k ByteArray.empty), fa b (Q.getD k ByteArray.empty))] := by
  unfold dfA
  have e : Q[k] = Q.getD k ByteArray.empty := by simp [List.getD, hk]
  rw [List.take_succ_eq_append_getElem hk, List.filterMap_append, e]
  generalize Q.getD k ByteArray.empty = p at h ⊢
  simp [dOf, h]
theorem dfA_len (a b : List Ob) (Q : List ByteArray) : (dfA a b Q).length ≤ Q.length := List.length_filterMap_le _ _
def dfR (a b : List Ob) : Int := if ffl a = 0 then ffl b else ffl a
def dfL (a b : List Ob) : List (ByteArray × Ob × Ob) := if dfR a b = 0 then dfA a b (ps (pths a b)) else []
end Go.Proofs.YtkgcpndnlefkoaaGreatDoor.Fl
