/- The contracts of the laws' helpers over lists of hunks that are owned (markHunkS, heldHunkS) and over HunksResult. No statement is proved here. -/
import Derived.Test.YtnkbjbbaoddfkaaGreatDoorRows
import Derived.Test.YtnkbjbbaoddfkaaGreatDoorLemQ
import Derived.Test.YtnkbjbbaoddfkaaGreatDoorMarksQ
import Derived.Test.YtnkbjbbaoddfkaaGreatDoorDTabQ
import Derived.Test.YtnkbjbbaoddfkaaGreatDoorHkLQ
import Derived.Test.YtnkbjbbaoddfkaaGreatDoorHkCQ
import Derived.Test.YtnkbjbbaoddfkaaGreatDoorHkTQ
import Derived.Test.YtnkbjbbaoddfkaaGreatDoorHnLQ
import Derived.Test.YtnkbjbbaoddfkaaGreatDoorHfCQ
import Derived.WalkKit
import Derived.ProofKit
import Derived.Below
import Derived.WalkSpells
import Derived.Maps.AppendAt
namespace Go.Proofs.YtnkbjbbaoddfkaaGreatDoor
open Go.ChangeShapes Go.WideShapes Go.ChangeAt Go.RowKit

/-- How many marks the first k hunks take. -/
def mkN (l : List Hk) (k : Nat) : Nat := ((l.take k).map fun h => 2 + h.2.2.length).sum
theorem mkN_succ (l : List Hk) (k : Nat) (h : k < l.length) : mkN l (k + 1) = mkN l k + (2 + (l.getD k (0, 0, [])).2.2.length) := by
  unfold mkN
  rw [List.take_succ_eq_append_getElem h, List.map_append, List.sum_append]
  simp [List.getD, h]
theorem mkN_le (l : List Hk) (k : Nat) : mkN l k ≤ mkN l l.length := by
  unfold mkN
  rw [List.take_length]
  conv => rhs; rw [← List.take_append_drop k l, List.map_append, List.sum_append]
  omega
theorem mkN_full (l : List Hk) : mkN l l.length = 2 * l.length + allN l := by
  unfold mkN allN
  rw [List.take_length]
  induction l with
  | nil => rfl
  | cons h t ih => simp only [List.map_cons, List.sum_cons, List.length_cons]; omega
/-- The hunks that the marks from m on make. -/
def mkH (l : List Hk) (m : Nat) (k : Nat) : Hk := (((m + mkN l k : Nat) : Int), ((m + mkN l k + 1 : Nat) : Int), marks (m + mkN l k + 2) (l.getD k (0, 0, [])).2.2.length)
/-- The first k hunks are marked. -/
def mixM (l : List Hk) (m k : Nat) : List Hk := (List.range l.length).map fun i => if i < k then mkH l m i else l.getD i (0, 0, [])
theorem mixM_length (l : List Hk) (m k : Nat) : (mixM l m k).length = l.length := by simp [mixM]
theorem mixM_at (l : List Hk) (m k i : Nat) (h : i < l.length) : (mixM l m k).getD i (0, 0, []) = if i < k then mkH l m i else l.getD i (0, 0, []) := by
  simp [mixM, List.getD, h]
theorem mixM_zero (l : List Hk) (m : Nat) : mixM l m 0 = l := by
  apply List.ext_getElem?
  intro i
  by_cases h : i < l.length
  · simp [mixM, h, List.getD]
  · rw [List.getElem?_eq_none (by rw [mixM_length]; omega), List.getElem?_eq_none (by omega)]
theorem mixM_succ (l : List Hk) (m k : Nat) (h : k < l.length) : mixM l m (k + 1) = (mixM l m k).set k (mkH l m k) := by
  apply List.ext_getElem?
  intro i
  by_cases hi : i < l.length
  · by_cases e : i = k
    · subst e
      rw [List.getElem?_set_self (by rw [mixM_length]; exact hi)]
      simp [mixM, hi]
    · rw [List.getElem?_set_ne (by omega)]
      simp only [mixM, List.getElem?_map, List.getElem?_range hi, Option.map_some]
      congr 1
      by_cases hk : i < k
      · rw [if_pos hk, if_pos (by omega)]
      · rw [if_neg hk, if_neg (by omega)]
  · rw [List.getElem?_eq_none (by rw [mixM_length]; omega), List.getElem?_eq_none (by rw [List.length_set, mixM_length]; omega)]
theorem setD_same (l : List Hk) (k : Nat) (X : Hk) (h : k < l.length) : (l.set k X).getD k (0, 0, []) = X := by simp [List.getD, h]
theorem setD_other (l : List Hk) (k i : Nat) (X : Hk) (h : ¬ i = k) : (l.set k X).getD i (0, 0, []) = l.getD i (0, 0, []) := by
  rw [List.getD, List.getD, List.getElem?_set_ne (by omega)]
theorem hcell_mark (L : List Hk) (sl : Nat → Value) (k n : Nat) (X : Hk) (hk : k < L.length) :
    ((rowF (hcell L sl) n).set (k * 3) (.int .i64 X.1)).set (k * 3 + 1) (.int .i64 X.2.1) = rowF (hcell (L.set k X) sl) n := by
  rw [rowF_set, rowF_set]
  apply rowF_congr
  intro j _
  show (if j = k * 3 + 1 then _ else if j = k * 3 then _ else _) = _
  by_cases h1 : j = k * 3 + 1
  · subst h1
    rw [if_pos rfl, hcell1, setD_same L k X hk]
  · rw [if_neg h1]
    by_cases h0 : j = k * 3
    · subst h0
      rw [if_pos rfl, hcell0, setD_same L k X hk]
    · rw [if_neg h0]
      unfold hcell
      by_cases e : j / 3 = k
      · have h3 : j % 3 = 2 := by omega
        rw [if_neg (by omega), if_neg (by omega), if_neg (by omega), if_neg (by omega)]
      · rw [setD_other L k (j / 3) X e]
/-- Hunk k is marked: its numbers, then its lines. -/
theorem HO.mark {base g n c : Nat} {w w2 : World} {L : List Hk} {sl : Nat → Value} (h : HO base w (.slice (some ⟨g, 0, none⟩) n c) L sl) (hn : n = L.length) (k : Nat) (hk : k < L.length) (X : Hk)
    (o2 : w2.ownsRow base 9 1 (sl k) X.2.2.length (X.2.2.map Value.string)) (g2 : ((w.setCell ⟨g, k * 3, none⟩ (.int .i64 X.1)).setCell ⟨g, k * 3 + 1, none⟩ (.int .i64 X.2.1)).grownBy w2 (sl k).ownBlock) :
    HO base w2 (.slice (some ⟨g, 0, none⟩) n c) (L.set k X) sl := by
  subst hn
  have hg : ∀ j, j < L.length → ∀ b, (sl j).ownBlock = some b → b ≠ g := fun j hj b hb e => h.off j hj g rfl (e ▸ hb)
  have s0 := h.row.stored (k * 3) (.int .i64 X.1)
  have s1 := s0.1.stored (k * 3 + 1) (.int .i64 X.2.1)
  have hG := grownTrans s0.2 s1.2
  refine ⟨?_, fun j hj => ?_, fun i j hij hj => ?_, fun j hj => ?_⟩
  · have r := s1.1
    rw [hcell_mark L sl k _ X hk] at r
    rw [List.length_set]
    exact r.kept g2 (blockCases _ _ fun b c1 c2 => by
      have e1 : g = b := by simpa [Value.ownBlock] using c1
      exact hg k hk b c2 e1.symm)
  · rw [List.length_set] at hj
    by_cases e : j = k
    · subst e
      rw [setD_same L j X hk]; exact o2
    · rw [setD_other L k j X e]
      have o3 := (h.each j hj).kept hG (blockCases _ _ fun b c1 c2 => by
        have e2 : g = b := by simpa [Value.ownBlock] using c2
        exact hg j hj b c1 e2.symm)
      exact o3.kept g2 (blockCases _ _ fun b c1 c2 => by
        rcases Nat.lt_or_ge j k with h' | h'
        · exact h.apart j k h' hk b c1 c2
        · exact h.apart k j (by omega) hj b c2 c1)
  · rw [List.length_set] at hj; exact h.apart i j hij hj
  · rw [List.length_set] at hj; exact h.off j hj

end Go.Proofs.YtnkbjbbaoddfkaaGreatDoor
/- Answers that are hunks, and small laws of hunks that are marked. No statement is proved here. -/
namespace Go.Proofs.YtnkbjbbaoddfkaaGreatDoor
open Go.ChangeShapes Go.WideShapes Go.ChangeAt Go.RowKit

/-- The answer with code r, place t and hunks L. -/
def HP (r t : Int) (L : List Hk) (w : World) (e : Ending) (w' : World) : Prop := ∃ v sl, e = .returned (.agg #[.int .i64 r, .int .i64 t, v]) ∧ HO w.heap.size w' v L sl ∧ Below w.heap.size w w'
theorem below_set3 {B p : Nat} {a w : World} (h : Below B a w) (hp : B ≤ p) (u v z : Value) : Below B a (((w.setCell ⟨p, 0, none⟩ u).setCell ⟨p, 1, none⟩ v).setCell ⟨p, 2, none⟩ z) := ((h.setCell (p := ⟨p, 0, none⟩) hp u).setCell (p := ⟨p, 1, none⟩) hp v).setCell (p := ⟨p, 2, none⟩) hp z
theorem grownSet3 (w : World) (p : Nat) (u v z : Value) : w.grownBy (((w.setCell ⟨p, 0, none⟩ u).setCell ⟨p, 1, none⟩ v).setCell ⟨p, 2, none⟩ z) (some p) := grownTrans (grownTrans (grownSet w p 0 u) (grownSet _ p 1 v)) (grownSet _ p 2 z)
theorem Rf.drew {w : World} {b : Nat} {vs : List Value} (h : Rf w b vs) : Rf w.drew b vs := ⟨fun k v hk => h.at_ k v hk, fun k => h.fz k⟩
theorem newsRow (w : World) (vs : Array Value) (t : TypeId) : ∀ j u, vs.toList[j]? = some u → (w.alloc (.cells vs t)).cell? ((⟨w.heap.size, 0, none⟩ : Addr).add j) = some u := by
  intro j u hj
  rw [add_plain, Nat.zero_add]
  exact Rs.new w vs t j u hj
theorem Rf.grown {w w' : World} {b : Nat} {vs : List Value} {row : Option Nat} (h : Rf w b vs) (hg : w.grownBy w' row) (hne : some b ≠ row) (hlt : b < w.heap.size) : Rf w' b vs :=
  ⟨fun k v hk => hg.cell (h.at_ k v hk) hne, fun k => by
    have e := hg.block b hlt hne
    have h1 := h.fz k
    unfold World.frozen? at h1 ⊢
    rw [e]; exact h1⟩
theorem HO.grown {base : Nat} {w w' : World} {v : Value} {l : List Hk} {sl : Nat → Value} {p : Nat} (h : HO base w v l sl) (hg : w.grownBy w' (some p)) (hp : p < base) : HO base w' v l sl :=
  ⟨h.row.kept hg (blockCases _ _ fun j c1 c2 => by cases c2; have := (h.row.lt _ c1).1; omega), fun k hk => (h.each k hk).kept hg (blockCases _ _ fun j c1 c2 => by cases c2; have := ((h.each k hk).lt _ c1).1; omega), h.apart, h.off⟩
theorem HO.nil (base : Nat) (w : World) (sl : Nat → Value) : HO base w (.slice none 0 0) [] sl :=
  ⟨⟨rfl, .inl ⟨rfl, rfl⟩⟩, fun _ hk => absurd hk (Nat.not_lt_zero _), fun _ _ _ hk => absurd hk (Nat.not_lt_zero _), fun _ hk => absurd hk (Nat.not_lt_zero _)⟩
theorem leftHF_le : ∀ (l : List Hk) (n : Int), leftHF n l ≤ n ∨ leftHF n l = -1 := by
  intro l
  induction l with
  | nil => intro n; exact .inl (Int.le_refl _)
  | cons h t ih =>
    intro n
    by_cases hl : left n h.2.2 < 0
    · exact .inr (leftHF_stop hl)
    · rw [leftHF_go hl]
      have e := (left_nums hl).1
      have ht := tot_nonneg h.2.2
      rcases ih (left n h.2.2) with h' | h'
      · exact .inl (by omega)
      · exact .inr h'
theorem leftH_le (n : Int) (l : List Hk) {m : Int} (h : n ≤ m) (hm : 0 ≤ m) : leftH n l ≤ m := by
  unfold leftH
  split
  · omega
  · rcases leftHF_le l (n - l.length) with h' | h' <;> omega
theorem mixM_fits {l : List Hk} {m : Nat} (h : m + mkN l l.length ≤ 4194304) : Fits (mixM l m l.length) := fun x hx k hk => by
  obtain ⟨i, hi, e⟩ := List.mem_map.1 hx
  have hi' : i < l.length := List.mem_range.1 hi
  rw [if_pos hi'] at e
  subst e
  have h1 := mkN_le l (i + 1)
  rw [mkN_succ l i hi'] at h1
  exact marks_small _ _ (by omega) k hk
theorem tot_in {ss : List ByteArray} {x : ByteArray} (h : x ∈ ss) : (x.size : Int) ≤ tot ss := by
  induction ss with
  | nil => cases h
  | cons y ys ih =>
    have e : tot (y :: ys) = (y.size : Int) + tot ys := by simp [tot]
    have := tot_nonneg ys
    rcases List.mem_cons.1 h with rfl | h
    · omega
    · have := ih h; omega
theorem sum_short {l : List Hk} (h : ∀ x ∈ l, (x.2.2.length : Int) ≤ 1048576 ∧ tot x.2.2 ≤ 1048576) : ∀ x ∈ l, ∀ s ∈ x.2.2, s.size ≤ 1048576 := fun x hx s hs => by
  have h1 := (h x hx).2
  have h2 := tot_in hs
  omega

end Go.Proofs.YtnkbjbbaoddfkaaGreatDoor
