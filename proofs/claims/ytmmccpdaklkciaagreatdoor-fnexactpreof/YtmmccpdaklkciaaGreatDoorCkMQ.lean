/- The contracts of the laws' helpers over lists of chunks that are owned (markChunkS, heldChunkS) and over ChunksResult. No statement is proved here. -/
import Derived.Test.YtmmccpdaklkciaaGreatDoorRows
import Derived.Test.YtmmccpdaklkciaaGreatDoorLemQ
import Derived.Test.YtmmccpdaklkciaaGreatDoorMarksQ
import Derived.Test.YtmmccpdaklkciaaGreatDoorDTabQ
import Derived.Test.YtmmccpdaklkciaaGreatDoorCkLQ
import Derived.Test.YtmmccpdaklkciaaGreatDoorCkTQ
import Derived.WalkKit
import Derived.ProofKit
import Derived.Below
import Derived.WalkSpells
import Derived.Test.YtmmccpdaklkciaaGreatDoorLFLemQ
import Derived.Test.YtmmccpdaklkciaaGreatDoorHkTQ
namespace Go.Proofs.YtmmccpdaklkciaaGreatDoor
open Go.ChangeShapes Go.WideShapes Go.ChangeAt Go.RowKit

/-- How many marks the first k chunks take. -/
def mk1 (c : Ck) : Nat := 1 + c.2.1.length + c.2.2.1.length + c.2.2.2.length
def mkK (l : List Ck) (k : Nat) : Nat := ((l.take k).map mk1).sum
theorem mkK_succ (l : List Ck) (k : Nat) (h : k < l.length) : mkK l (k + 1) = mkK l k + mk1 (l.getD k cnil) := by
  unfold mkK
  rw [List.take_succ_eq_append_getElem h, List.map_append, List.sum_append]
  simp [List.getD, h]
theorem mkK_le (l : List Ck) (k : Nat) : mkK l k ≤ mkK l l.length := by
  unfold mkK
  rw [List.take_length]
  conv => rhs; rw [← List.take_append_drop k l, List.map_append, List.sum_append]
  omega
theorem mkK_full (l : List Ck) : mkK l l.length = l.length + allL (lnsAll l) := by
  unfold mkK
  rw [List.take_length]
  induction l with
  | nil => rfl
  | cons c t ih =>
    have a1 : allL (lnsAll (c :: t)) = c.2.1.length + (c.2.2.1.length + (c.2.2.2.length + allL (lnsAll t))) := by rw [lnsAll_cons]; simp [allL]
    have e : mk1 c = 1 + c.2.1.length + c.2.2.1.length + c.2.2.2.length := rfl
    simp only [List.map_cons, List.sum_cons, List.length_cons, a1]
    omega
/-- The chunk that the marks from v on make. -/
def mkC (v n1 n2 n3 : Nat) : Ck := ((v : Int), marks (v + 1) n1, marks (v + 1 + n1) n2, marks (v + 1 + n1 + n2) n3)
def mkX (l : List Ck) (m k : Nat) : Ck := mkC (m + mkK l k) (l.getD k cnil).2.1.length (l.getD k cnil).2.2.1.length (l.getD k cnil).2.2.2.length
/-- The first k chunks are marked. -/
def mixX (l : List Ck) (m k : Nat) : List Ck := (List.range l.length).map fun i => if i < k then mkX l m i else l.getD i cnil
theorem mixX_length (l : List Ck) (m k : Nat) : (mixX l m k).length = l.length := by simp [mixX]
theorem mixX_at (l : List Ck) (m k i : Nat) (h : i < l.length) : (mixX l m k).getD i cnil = if i < k then mkX l m i else l.getD i cnil := by
  simp [mixX, List.getD, h]
theorem mixX_zero (l : List Ck) (m : Nat) : mixX l m 0 = l := by
  apply List.ext_getElem?
  intro i
  by_cases h : i < l.length
  · simp [mixX, h, List.getD]
  · rw [List.getElem?_eq_none (by rw [mixX_length]; omega), List.getElem?_eq_none (by omega)]
theorem mixX_succ (l : List Ck) (m k : Nat) (h : k < l.length) : mixX l m (k + 1) = (mixX l m k).set k (mkX l m k) := by
  apply List.ext_getElem?
  intro i
  by_cases hi : i < l.length
  · by_cases e : i = k
    · subst e
      rw [List.getElem?_set_self (by rw [mixX_length]; exact hi)]
      simp [mixX, hi]
    · rw [List.getElem?_set_ne (by omega)]
      simp only [mixX, List.getElem?_map, List.getElem?_range hi, Option.map_some]
      congr 1
      by_cases hk : i < k
      · rw [if_pos hk, if_pos (by omega)]
      · rw [if_neg hk, if_neg (by omega)]
  · rw [List.getElem?_eq_none (by rw [mixX_length]; omega), List.getElem?_eq_none (by rw [List.length_set, mixX_length]; omega)]
theorem setC_same (l : List Ck) (k : Nat) (X : Ck) (h : k < l.length) : (l.set k X).getD k cnil = X := by simp [List.getD, h]
theorem setC_other (l : List Ck) (k i : Nat) (X : Ck) (h : ¬ i = k) : (l.set k X).getD i cnil = l.getD i cnil := by
  rw [List.getD, List.getD, List.getElem?_set_ne (by omega)]
theorem getC_set (l : List Ck) (k : Nat) (h : k < l.length) : l.set k (l.getD k cnil) = l := by
  apply List.ext_getElem?
  intro i
  by_cases e : i = k
  · subst e
    rw [List.getElem?_set_self h, List.getD, List.getElem?_eq_getElem h]; rfl
  · rw [List.getElem?_set_ne (by omega)]
/-- One list of a chunk, another in its place. -/
def putL (i : Nat) (c : Ck) (S : List ByteArray) : Ck := if i = 0 then (c.1, S, c.2.2.1, c.2.2.2) else if i = 1 then (c.1, c.2.1, S, c.2.2.2) else (c.1, c.2.1, c.2.2.1, S)
theorem sd_put (i j : Nat) (hi : i < 3) (hj : j < 3) (c : Ck) (S : List ByteArray) : sd j (putL i c S) = if j = i then S else sd j c := by
  have h1 : i = 0 ∨ i = 1 ∨ i = 2 := by omega
  have h2 : j = 0 ∨ j = 1 ∨ j = 2 := by omega
  rcases h1 with rfl | rfl | rfl <;> rcases h2 with rfl | rfl | rfl <;> rfl
theorem put_kind (i : Nat) (c : Ck) (S : List ByteArray) : (putL i c S).1 = c.1 := by unfold putL; split; rfl; split <;> rfl
theorem lns_set (L : List Ck) (k j : Nat) (C : Ck) (hk : k < L.length) : lns (L.set k C) j = if j / 3 = k then sd (j % 3) C else lns L j := by
  unfold lns
  by_cases e : j / 3 = k
  · rw [if_pos e, e, setC_same L k C hk]
  · rw [if_neg e, setC_other L k _ C e]
theorem kcell_put (L : List Ck) (sl : Nat → Value) (k i : Nat) (C : Ck) (S : List ByteArray) (hk : k < L.length) : kcell (L.set k (putL i C S)) sl = kcell (L.set k C) sl := by
  funext j
  unfold kcell
  by_cases e : j / 4 = k
  · rw [e, setC_same L k _ hk, setC_same L k _ hk, put_kind]
  · rw [setC_other L k _ _ e, setC_other L k _ _ e]
theorem kcell_kind (L : List Ck) (sl : Nat → Value) (k n : Nat) (x : Int) (hk : k < L.length) :
    (rowK (kcell L sl) n).set (k * 4) (.int .i64 x) = rowK (kcell (L.set k (x, (L.getD k cnil).2)) sl) n := by
  rw [rowK_set]
  apply rowK_congr
  intro j _
  show (if j = k * 4 then _ else _) = _
  by_cases h0 : j = k * 4
  · subst h0
    rw [if_pos rfl, kcell0, setC_same L k _ hk]
  · rw [if_neg h0]
    unfold kcell
    by_cases e : j / 4 = k
    · rw [if_neg (by omega), if_neg (by omega)]
    · rw [setC_other L k _ _ e]
/-- The kind of chunk k is set. -/
theorem KO.kind {base g n c : Nat} {w : World} {L : List Ck} {sl : Nat → Value} (h : KO base w (.slice (some ⟨g, 0, none⟩) n c) L sl) (hn : n = L.length) (k : Nat) (hk : k < L.length) (x : Int) :
    KO base (w.setCell ⟨g, k * 4, none⟩ (.int .i64 x)) (.slice (some ⟨g, 0, none⟩) n c) (L.set k (x, (L.getD k cnil).2)) sl := by
  subst hn
  have hg : ∀ j, j < L.length * 3 → ∀ b, (sl j).ownBlock = some b → b ≠ g := fun j hj b hb e => h.off j hj g rfl (e ▸ hb)
  have s0 := h.row.stored (k * 4) (.int .i64 x)
  refine ⟨?_, fun j hj => ?_, fun i j hij hj => ?_, fun j hj => ?_⟩
  · have r := s0.1
    rw [kcell_kind L sl k _ x hk] at r
    rw [List.length_set]
    exact r
  · rw [List.length_set] at hj
    have e : lns (L.set k (x, (L.getD k cnil).2)) j = lns L j := by
      rw [lns_set L k j _ hk]
      by_cases e : j / 3 = k
      · rw [if_pos e]; unfold lns; rw [e]; rfl
      · rw [if_neg e]
    rw [e]
    exact (h.each j hj).kept s0.2 (blockCases _ _ fun b c1 c2 => by
      have e2 : g = b := by simpa using c2
      exact hg j hj b c1 e2.symm)
  · rw [List.length_set] at hj; exact h.apart i j hij hj
  · rw [List.length_set] at hj; exact h.off j hj
/-- List i of chunk k is written. -/
theorem KO.list {base g n c : Nat} {w w2 : World} {L : List Ck} {sl : Nat → Value} {C : Ck} {k : Nat} (h : KO base w (.slice (some ⟨g, 0, none⟩) n c) (L.set k C) sl) (hn : n = L.length) (hk : k < L.length) (i : Nat) (hi : i < 3) (S : List ByteArray)
    (o2 : w2.ownsRow base 9 1 (sl (k * 3 + i)) S.length (S.map Value.string)) (g2 : w.grownBy w2 (sl (k * 3 + i)).ownBlock) :
    KO base w2 (.slice (some ⟨g, 0, none⟩) n c) (L.set k (putL i C S)) sl := by
  subst hn
  have hLl : (L.set k C).length = L.length := List.length_set
  refine ⟨?_, fun j hj => ?_, fun a b hij hj => ?_, fun j hj => ?_⟩
  · rw [kcell_put L sl k i C S hk, List.length_set]
    have r := h.row
    rw [hLl] at r
    exact r.kept g2 (blockCases _ _ fun b c1 c2 => h.off (k * 3 + i) (by rw [hLl]; omega) b c1 c2)
  · rw [List.length_set] at hj
    rw [lns_set L k j _ hk]
    by_cases e : j / 3 = k
    · rw [if_pos e, sd_put i (j % 3) hi (by omega) C S]
      by_cases e' : j % 3 = i
      · rw [if_pos e', show j = k * 3 + i by omega]; exact o2
      · rw [if_neg e']
        have o := h.each j (by rw [hLl]; exact hj)
        rw [lns_set L k j _ hk, if_pos e] at o
        exact o.kept g2 (blockCases _ _ fun b c1 c2 => by
          rcases Nat.lt_or_ge j (k * 3 + i) with h' | h'
          · exact h.apart j (k * 3 + i) h' (by rw [hLl]; omega) b c1 c2
          · exact h.apart (k * 3 + i) j (by omega) (by rw [hLl]; exact hj) b c2 c1)
    · rw [if_neg e]
      have o := h.each j (by rw [hLl]; exact hj)
      rw [lns_set L k j _ hk, if_neg e] at o
      exact o.kept g2 (blockCases _ _ fun b c1 c2 => by
        rcases Nat.lt_or_ge j (k * 3 + i) with h' | h'
        · exact h.apart j (k * 3 + i) h' (by rw [hLl]; omega) b c1 c2
        · exact h.apart (k * 3 + i) j (by omega) (by rw [hLl]; exact hj) b c2 c1)
  · rw [List.length_set] at hj; exact h.apart a b hij (by rw [hLl]; exact hj)
  · rw [List.length_set] at hj; exact h.off j (by rw [hLl]; exact hj)
/-- The cells of chunk k. -/
theorem KO.cells {base g n c : Nat} {w : World} {L : List Ck} {sl : Nat → Value} (h : KO base w (.slice (some ⟨g, 0, none⟩) n c) L sl) (k : Nat) (hk : k < L.length) :
    (∃ u, w.cell? ⟨g, k * 4, none⟩ = some u) ∧ w.cell? ⟨g, k * 4 + 1, none⟩ = some (sl (k * 3)) ∧ w.cell? ⟨g, k * 4 + 2, none⟩ = some (sl (k * 3 + 1)) ∧ w.cell? ⟨g, k * 4 + 3, none⟩ = some (sl (k * 3 + 2)) ∧ w.frozen? ⟨g, k * 4, none⟩ = false := by
  obtain ⟨a', c', e⟩ := shapeK h.row
  simp only [Value.slice.injEq] at e
  obtain ⟨rfl, rfl, rfl⟩ := e
  have hc := h.row.cellAt
  refine ⟨⟨_, by rw [hc (k * 4) (by omega), rowK_at _ _ _ (by omega)]⟩, ?_, ?_, ?_, h.row.frozenAt (k * 4)⟩
  · rw [hc (k * 4 + 1) (by omega), rowK_at _ _ _ (by omega), kcell1]
  · rw [hc (k * 4 + 2) (by omega), rowK_at _ _ _ (by omega), kcell2]
  · rw [hc (k * 4 + 3) (by omega), rowK_at _ _ _ (by omega), kcell3]

end Go.Proofs.YtmmccpdaklkciaaGreatDoor
/- The contracts of spec.l2Asked and impl.faultOfEither: the LinesFault of one list of lines, then of the other. No statement is proved here. -/
namespace Go.Proofs.YtmmccpdaklkciaaGreatDoor
open Go.ChangeShapes Go.WideShapes Go.ChangeAt Go.RowKit

/-- The fault of two lists of lines. -/
def asked (xs ys : List ByteArray) : Int := if lf xs = 0 then lf ys else lf xs
theorem asked_left {xs ys : List ByteArray} (h : ¬ lf xs = 0) : asked xs ys = lf xs := if_neg h
theorem asked_right {xs ys : List ByteArray} (h : lf xs = 0) : asked xs ys = lf ys := if_pos h
theorem lf_zero {ss : List ByteArray} (h : lf ss = 0) : ss.length ≤ 100 ∧ tot ss ≤ 2000 := by
  unfold lf at h
  split at h
  · cases h
  · omega
theorem asked_zero {xs ys : List ByteArray} (h : asked xs ys = 0) : lf xs = 0 ∧ lf ys = 0 := by
  by_cases hx : lf xs = 0
  · rw [asked_right hx] at h; exact ⟨hx, h⟩
  · rw [asked_left hx] at h; exact absurd h hx
end Go.Proofs.YtmmccpdaklkciaaGreatDoor
/- The contracts of the laws' helpers over ChunksResult. No statement is proved here. -/
namespace Go.Proofs.YtmmccpdaklkciaaGreatDoor
open Go.ChangeShapes Go.WideShapes Go.ChangeAt Go.RowKit

theorem marks_fit (m n : Nat) (h : m + n ≤ 4194304) : ∀ k, k < (marks m n).length → ((marks m n).getD k ByteArray.empty).size ≤ 9223372036854775807 := fun k hk => by
  rw [marks_length] at hk
  rw [marks_at m n k hk]
  exact mtxt_size _ (by omega)
/-- A marked line is short; so are the lines of marked chunks. -/
theorem mixX_fits {l : List Ck} {m : Nat} (h : m + mkK l l.length ≤ 4194304) : FitsK (mixX l m l.length) := fun ss hss k hk => by
  obtain ⟨y, hy, hq⟩ := mem_of_lns hss
  unfold mixX at hy
  obtain ⟨i, hi, e⟩ := List.mem_map.1 hy
  have hi' : i < l.length := List.mem_range.1 hi
  rw [if_pos hi'] at e
  subst e
  have h1 := mkK_le l (i + 1)
  rw [mkK_succ l i hi'] at h1
  unfold mk1 at h1
  unfold mkX mkC at hq
  rcases hq with rfl | rfl | rfl
  · exact marks_fit _ _ (by omega) k hk
  · exact marks_fit _ _ (by omega) k hk
  · exact marks_fit _ _ (by omega) k hk
/-- The answer with code r and chunks L, in memory of its own. -/
def KP2 (r : Int) (L : List Ck) (w : World) (e : Ending) (w' : World) : Prop := ∃ v sl, e = .returned (.agg #[.int .i64 r, v]) ∧ KO w.heap.size w' v L sl ∧ Below w.heap.size w w'
end Go.Proofs.YtmmccpdaklkciaaGreatDoor
