/- The contracts of what ApplyHunks calls: linesWithout, spanIsIn. No statement is proved here. -/
import Derived.Test.YtnkbjbbaoddfkaaGreatDoorRows
import Derived.Test.YtnkbjbbaoddfkaaGreatDoorLemQ
import Derived.Test.YtnkbjbbaoddfkaaGreatDoorLFLemQ
import Derived.Test.YtnkbjbbaoddfkaaGreatDoorHkTQ
import Derived.Test.YtnkbjbbaoddfkaaGreatDoorDTabQ
import Derived.Test.YtnkbjbbaoddfkaaGreatDoorHkLQ
import Derived.Test.YtnkbjbbaoddfkaaGreatDoorHkCQ
import Derived.WalkKit
import Derived.ProofKit
import Derived.Below
import Derived.WalkSpells
import Derived.Maps.AppendAt
import Derived.Test.YtnkbjbbaoddfkaaGreatDoorHfCQ
import Derived.Test.YtnkbjbbaoddfkaaGreatDoorHnLQ
namespace Go.Proofs.YtnkbjbbaoddfkaaGreatDoor
open Go.ChangeShapes Go.WideShapes Go.ChangeAt Go.RowKit

/-- The lines behind the marks, without those that bear the mark b. -/
def wout (b : Int) (ss : List ByteArray) : List ByteArray := (ss.filter fun s => mark0 s != b).map fun s => s.extract 1 s.size
theorem wout_take (b : Int) (ss : List ByteArray) (k : Nat) (h : k < ss.length) :
    wout b (ss.take (k + 1)) = wout b (ss.take k) ++ (if (mark0 (ss.getD k ByteArray.empty) != b) = true then [(ss.getD k ByteArray.empty).extract 1 (ss.getD k ByteArray.empty).size] else []) := by
  unfold wout
  rw [List.take_succ_eq_append_getElem h, List.filter_append, List.map_append, getD_at ss k h]
  congr 1
  by_cases e : (mark0 ss[k] != b) = true
  · simp [List.filter, e]
  · simp [List.filter, e]
theorem wout_length (b : Int) (ss : List ByteArray) : (wout b ss).length ≤ ss.length := by
  unfold wout
  rw [List.length_map]
  exact List.length_filter_le _ _
theorem wout_take_length (b : Int) (ss : List ByteArray) (k : Nat) : (wout b (ss.take k)).length ≤ ss.length := by
  have h1 := wout_length b (ss.take k)
  have h2 : (ss.take k).length ≤ ss.length := by rw [List.length_take]; omega
  omega

end Go.Proofs.YtnkbjbbaoddfkaaGreatDoor
/- Plain mathematics of hunks that are applied: line by line, or all old lines at once. No statement is proved here. -/
namespace Go.Proofs.YtnkbjbbaoddfkaaGreatDoor
open Go.RowKit

/-- Whether the lines os stand in xs at place i. -/
def stands (xs : List ByteArray) (i : Nat) (os : List ByteArray) : Prop := i + os.length ≤ xs.length ∧ (xs.drop i).take os.length = os
/-- The specification's walk through the lines of a hunk: the place and the lines that come of it. -/
def lineW (xs : List ByteArray) : List ByteArray → Nat → List ByteArray → Option (Nat × List ByteArray)
  | [], i, out => some (i, out)
  | s :: t, i, out =>
    if mark0 s = 43 then lineW xs t i (out ++ [s.extract 1 s.size])
    else if i < xs.length ∧ xs.getD i ByteArray.empty = s.extract 1 s.size then
      lineW xs t (i + 1) (if mark0 s = 45 then out else out ++ [s.extract 1 s.size])
    else none
theorem wout_cons (b : Int) (s : ByteArray) (t : List ByteArray) : wout b (s :: t) = if mark0 s = b then wout b t else s.extract 1 s.size :: wout b t := by
  unfold wout
  by_cases h : mark0 s = b
  · simp [h]
  · simp [h]
theorem stands_cons (xs : List ByteArray) (i : Nat) (o : ByteArray) (os : List ByteArray) : stands xs i (o :: os) ↔ (i < xs.length ∧ xs.getD i ByteArray.empty = o) ∧ stands xs (i + 1) os := by
  unfold stands
  constructor
  · rintro ⟨h1, h2⟩
    simp only [List.length_cons] at h1
    have hi : i < xs.length := by omega
    rw [List.drop_eq_getElem_cons hi, List.length_cons, List.take_succ_cons] at h2
    injection h2 with e1 e2
    exact ⟨⟨hi, by rw [getD_at xs i hi]; exact e1⟩, by omega, e2⟩
  · rintro ⟨⟨hi, e1⟩, h1, e2⟩
    refine ⟨by simp only [List.length_cons]; omega, ?_⟩
    rw [List.drop_eq_getElem_cons hi, List.length_cons, List.take_succ_cons, e2]
    rw [getD_at xs i hi] at e1
    rw [e1]
theorem lineW_ok (xs : List ByteArray) : ∀ (ss : List ByteArray) (i : Nat) (out : List ByteArray), i ≤ xs.length → stands xs i (wout 43 ss) → lineW xs ss i out = some (i + (wout 43 ss).length, out ++ wout 45 ss) := by
  intro ss
  induction ss with
  | nil => intro i out _ _; simp [lineW, wout]
  | cons s t ih =>
    intro i out hi h
    rw [lineW, wout_cons 43, wout_cons 45]
    rw [wout_cons] at h
    by_cases hm : mark0 s = 43
    · have h5 : ¬ mark0 s = 45 := by omega
      rw [if_pos hm] at h
      rw [if_pos hm, if_pos hm, if_neg h5, ih i _ hi h, List.append_assoc]; rfl
    · rw [if_neg hm] at h
      obtain ⟨hh, ht⟩ := (stands_cons xs i _ _).1 h
      rw [if_neg hm, if_neg hm, if_pos hh, ih (i + 1) _ (by omega) ht, List.length_cons]
      by_cases h5 : mark0 s = 45
      · rw [if_pos h5, if_pos h5]; congr 2; omega
      · rw [if_neg h5, if_neg h5, List.append_assoc]; congr 2; omega
theorem lineW_no (xs : List ByteArray) : ∀ (ss : List ByteArray) (i : Nat) (out : List ByteArray), i ≤ xs.length → ¬ stands xs i (wout 43 ss) → lineW xs ss i out = none := by
  intro ss
  induction ss with
  | nil => intro i out hi h; exact absurd ⟨by simpa [wout] using hi, by simp [wout]⟩ h
  | cons s t ih =>
    intro i out hi h
    rw [lineW]
    rw [wout_cons] at h
    by_cases hm : mark0 s = 43
    · rw [if_pos hm] at h
      rw [if_pos hm, ih i _ hi h]
    · rw [if_neg hm] at h
      rw [if_neg hm]
      by_cases hh : i < xs.length ∧ xs.getD i ByteArray.empty = s.extract 1 s.size
      · rw [if_pos hh]
        exact ih (i + 1) _ (by omega) (fun ht => h ((stands_cons xs i _ _).2 ⟨hh, ht⟩))
      · rw [if_neg hh]
end Go.Proofs.YtnkbjbbaoddfkaaGreatDoor
/- Plain mathematics of hunks that are applied: what is made hunk by hunk, and its bounds. No statement is proved here. -/
namespace Go.Proofs.YtnkbjbbaoddfkaaGreatDoor
open Go.RowKit

theorem lf_zero' {ss : List ByteArray} (h : lf ss = 0) : ss.length ≤ 100 ∧ tot ss ≤ 2000 := by
  unfold lf at h
  split at h
  · cases h
  · omega
theorem tot_app (a b : List ByteArray) : tot (a ++ b) = tot a + tot b := by unfold tot; rw [List.map_append, List.sum_append]
theorem tot_of_mem {ss : List ByteArray} {x : ByteArray} (h : x ∈ ss) : (x.size : Int) ≤ tot ss := by
  induction ss with
  | nil => cases h
  | cons s t ih =>
    have e : tot (s :: t) = (s.size : Int) + tot t := by simp [tot]
    have ht := tot_nonneg t
    rcases List.mem_cons.1 h with rfl | h
    · omega
    · have := ih h; omega
/-- Whether the lines os stand in xs at place i, as a Bool. -/
def stBo (xs : List ByteArray) (i : Nat) (os : List ByteArray) : Bool := decide (i + os.length ≤ xs.length ∧ (xs.drop i).take os.length = os)
theorem stBo_true {xs : List ByteArray} {i : Nat} {os : List ByteArray} (h : stBo xs i os = true) : stands xs i os := by
  have h' := of_decide_eq_true (p := i + os.length ≤ xs.length ∧ (xs.drop i).take os.length = os) h
  exact h'
theorem stBo_false {xs : List ByteArray} {i : Nat} {os : List ByteArray} (h : stBo xs i os = false) : ¬ stands xs i os := by
  have h' := of_decide_eq_false (p := i + os.length ≤ xs.length ∧ (xs.drop i).take os.length = os) h
  exact h'
/-- Where the walk stands in the old lines behind k hunks, and what is made so far. -/
def apAt (l : List Hk) : Nat → Nat
  | 0 => 0
  | k + 1 => (l.getD k (0, 0, [])).1.toNat + (wout 43 (l.getD k (0, 0, [])).2.2).length
def apM (xs : List ByteArray) (l : List Hk) : Nat → List ByteArray
  | 0 => []
  | k + 1 => apM xs l k ++ (xs.drop (apAt l k)).take ((l.getD k (0, 0, [])).1.toNat - apAt l k) ++ wout 45 (l.getD k (0, 0, [])).2.2
theorem apM_succ (xs : List ByteArray) (l : List Hk) (k : Nat) : apM xs l (k + 1) = apM xs l k ++ (xs.drop (apAt l k)).take ((l.getD k (0, 0, [])).1.toNat - apAt l k) ++ wout 45 (l.getD k (0, 0, [])).2.2 := rfl
theorem apAt_succ (l : List Hk) (k : Nat) : apAt l (k + 1) = (l.getD k (0, 0, [])).1.toNat + (wout 43 (l.getD k (0, 0, [])).2.2).length := rfl
def apAll (xs : List ByteArray) (l : List Hk) : List ByteArray := apM xs l l.length ++ (xs.drop (apAt l l.length)).take (xs.length - apAt l l.length)
/-- Hunk j stands in xs. -/
def apSt (xs : List ByteArray) (l : List Hk) (j : Nat) : Bool := stBo xs (l.getD j (0, 0, [])).1.toNat (wout 43 (l.getD j (0, 0, [])).2.2)
def apOk (xs : List ByteArray) (l : List Hk) : Bool := (List.range l.length).all (apSt xs l)
theorem apOk_no {xs : List ByteArray} {l : List Hk} {k : Nat} (hk : k < l.length) (h : apSt xs l k = false) : apOk xs l = false := by
  cases e : apOk xs l with
  | false => rfl
  | true =>
    have := List.all_eq_true.1 e k (List.mem_range.2 hk)
    rw [h] at this; cases this
theorem apOk_yes {xs : List ByteArray} {l : List Hk} (h : ∀ k, k < l.length → apSt xs l k = true) : apOk xs l = true :=
  List.all_eq_true.2 fun k hk => h k (List.mem_range.1 hk)
/-- The code and the lines that ApplyHunks tells. -/
def apR (xs : List ByteArray) (l : List Hk) : Int := if lf xs = 0 then (if hf l = 0 then (if apOk xs l = true then lf (apAll xs l) else 6) else hf l) else lf xs
def apL (xs : List ByteArray) (l : List Hk) : List ByteArray := if lf xs = 0 ∧ hf l = 0 ∧ apOk xs l = true ∧ lf (apAll xs l) = 0 then apAll xs l else []
theorem wout_old (ss : List ByteArray) (h : ss.all okH = true) : ((wout 43 ss).length : Int) = oldN ss := by
  induction ss with
  | nil => rfl
  | cons s t ih =>
    rw [List.all_cons, Bool.and_eq_true] at h
    have e : oldN (s :: t) = old1 (mark0 s) + oldN t := by simp [oldN]
    rw [wout_cons, e, old1_mk (okH_mk h.1)]
    have := ih h.2
    by_cases hm : mark0 s = 43
    · rw [if_pos hm, if_pos hm]; omega
    · rw [if_neg hm, if_neg hm, List.length_cons]; omega
theorem wout_tot (b : Int) (ss : List ByteArray) : tot (wout b ss) ≤ tot ss := by
  induction ss with
  | nil => exact Int.le_refl _
  | cons s t ih =>
    have e : tot (s :: t) = (s.size : Int) + tot t := by simp [tot]
    rw [wout_cons, e]
    by_cases hm : mark0 s = b
    · rw [if_pos hm]; omega
    · rw [if_neg hm]
      have e2 : tot (s.extract 1 s.size :: wout b t) = ((s.extract 1 s.size).size : Int) + tot (wout b t) := by simp [tot]
      have := tail_size s
      rw [e2]; omega
/-- Hunks without a fault, told from hunk k on. -/
theorem hfF_at : ∀ (l : List Hk) (i j : Int), hfF l i j = 0 → ∀ k, k < l.length → ∃ i' j', hkC i' j' (l.getD k (0, 0, [])) = 0 ∧ (if k = 0 then i' = i else i' = (l.getD (k - 1) (0, 0, [])).1 + oldN (l.getD (k - 1) (0, 0, [])).2.2) := by
  intro l
  induction l with
  | nil => intro i j _ k hk; exact absurd hk (Nat.not_lt_zero _)
  | cons h t ih =>
    intro i j e k hk
    by_cases hc : hkC i j h = 0
    · rw [hfF_go hc] at e
      cases k with
      | zero => exact ⟨i, j, hc, rfl⟩
      | succ k =>
        obtain ⟨i', j', h1, h2⟩ := ih _ _ e k (by simpa using hk)
        refine ⟨i', j', h1, ?_⟩
        rw [if_neg (by omega)]
        cases k with
        | zero => simpa using h2
        | succ k => simpa using h2
    · rw [hfF_stop rfl hc] at e; exact absurd e hc
theorem ap_nums {l : List Hk} (h : hf l = 0) {k : Nat} (hk : k < l.length) :
    apAt l k ≤ (l.getD k (0, 0, [])).1.toNat ∧ 0 ≤ (l.getD k (0, 0, [])).1 ∧ (l.getD k (0, 0, [])).1 ≤ 100 ∧ (l.getD k (0, 0, [])).2.2.length ≤ 200 ∧ (l.getD k (0, 0, [])).2.2.all okH = true := by
  have hl : hfF l 0 0 = 0 := by
    unfold hf at h
    split at h
    · cases h
    · exact h
  obtain ⟨i', j', h1, h2⟩ := hfF_at l 0 0 hl k hk
  obtain ⟨a1, a2, _, a4, _, a6, _⟩ := hkC_zero h1
  refine ⟨?_, a4.1, a4.2, a1, a2⟩
  cases k with
  | zero => exact Nat.zero_le _
  | succ k =>
    rw [if_neg (by omega)] at h2
    simp only [Nat.add_sub_cancel] at h2
    obtain ⟨i2, j2, g1, _⟩ := hfF_at l 0 0 hl k (by omega)
    obtain ⟨_, b2, _, b4, _, _, _⟩ := hkC_zero g1
    have hw := wout_old _ b2
    rw [apAt_succ]
    omega
theorem hf_len {l : List Hk} (h : hf l = 0) : l.length ≤ 100 := by
  unfold hf at h
  split at h
  · cases h
  · omega
theorem apM_length {xs : List ByteArray} {l : List Hk} (h : hf l = 0) : ∀ k, k ≤ l.length → (apM xs l k).length ≤ k * 300 := by
  intro k
  induction k with
  | zero => intro _; exact Nat.zero_le _
  | succ k ih =>
    intro hk
    have h1 := ih (by omega)
    have h2 := ap_nums h (show k < l.length by omega)
    have h3 := wout_length 45 (l.getD k (0, 0, [])).2.2
    rw [apM_succ, List.length_append, List.length_append]
    have h4 : ((xs.drop (apAt l k)).take ((l.getD k (0, 0, [])).1.toNat - apAt l k)).length ≤ (l.getD k (0, 0, [])).1.toNat - apAt l k := by rw [List.length_take]; omega
    omega
theorem apAll_length {xs : List ByteArray} {l : List Hk} (h : hf l = 0) (hx : xs.length ≤ 100) : (apAll xs l).length ≤ 30100 := by
  have h1 := apM_length (xs := xs) h l.length (Nat.le_refl _)
  have h2 := hf_len h
  unfold apAll
  rw [List.length_append, List.length_take, List.length_drop]
  omega
/-- The bytes of the lines of the first k hunks. -/
def totK (l : List Hk) : Nat → Int
  | 0 => 0
  | k + 1 => totK l k + tot (l.getD k (0, 0, [])).2.2
theorem tot_seg (xs : List ByteArray) (i j : Nat) (h : i ≤ j) : tot ((xs.drop i).take (j - i)) = tot (xs.take j) - tot (xs.take i) := by
  have e : xs.take j = xs.take i ++ (xs.drop i).take (j - i) := by
    have hj : j = i + (j - i) := by omega
    conv => lhs; rw [hj]
    rw [List.take_add]
  rw [e, tot_app]; omega
theorem tot_take_mono (xs : List ByteArray) {i j : Nat} (h : i ≤ j) : tot (xs.take i) ≤ tot (xs.take j) := by
  have h1 := tot_seg xs i j h
  have h2 := tot_nonneg ((xs.drop i).take (j - i))
  omega
theorem apM_tot {xs : List ByteArray} {l : List Hk} (h : hf l = 0) : ∀ k, k ≤ l.length → tot (apM xs l k) ≤ tot (xs.take (apAt l k)) + totK l k := by
  intro k
  induction k with
  | zero => intro _; simp [apM, apAt, tot, totK]
  | succ k ih =>
    intro hk
    have h1 := ih (by omega)
    have h2 := ap_nums h (show k < l.length by omega)
    have h3 := wout_tot 45 (l.getD k (0, 0, [])).2.2
    have h4 := tot_seg xs _ _ h2.1
    have h5 : tot (xs.take (l.getD k (0, 0, [])).1.toNat) ≤ tot (xs.take (apAt l (k + 1))) := tot_take_mono xs (by rw [apAt_succ]; omega)
    rw [apM_succ, tot_app, tot_app, totK]
    omega
theorem apAll_tot {xs : List ByteArray} {l : List Hk} (h : hf l = 0) : tot (apAll xs l) ≤ tot xs + totK l l.length := by
  have h1 := apM_tot (xs := xs) h l.length (Nat.le_refl _)
  unfold apAll
  rw [tot_app]
  by_cases hc : apAt l l.length ≤ xs.length
  · rw [tot_seg xs _ _ hc, List.take_length]; omega
  · have e : xs.length - apAt l l.length = 0 := by omega
    have h2 := tot_take_le xs (apAt l l.length)
    rw [e, List.take_zero]
    have : tot [] = 0 := rfl
    omega
theorem totK_pos (l : List Hk) (n : Nat) : 0 ≤ totK l n := by
  induction n with
  | zero => exact Int.le_refl _
  | succ n ih => rw [totK]; have := tot_nonneg (l.getD n (0, 0, [])).2.2; omega
theorem totK_mem (l : List Hk) (k n : Nat) (h : k < n) : tot (l.getD k (0, 0, [])).2.2 ≤ totK l n := by
  have key : ∀ n, 0 ≤ totK l n := by
    intro n
    induction n with
    | zero => exact Int.le_refl _
    | succ n ih => rw [totK]; have := tot_nonneg (l.getD n (0, 0, [])).2.2; omega
  induction n with
  | zero => exact absurd h (Nat.not_lt_zero _)
  | succ n ih =>
    rw [totK]
    have h1 := tot_nonneg (l.getD n (0, 0, [])).2.2
    by_cases e : k = n
    · rw [e]; have := key n; omega
    · have := ih (by omega); omega
theorem apAt_le {xs : List ByteArray} {l : List Hk} {k : Nat} (h : ∀ j, j < k → apSt xs l j = true) : apAt l k ≤ xs.length := by
  cases k with
  | zero => exact Nat.zero_le _
  | succ k => exact (stBo_true (h k (Nat.lt_succ_self _))).1
theorem wout_small {b : Int} {ss : List ByteArray} {Z : Int} (h : tot ss ≤ Z) : ∀ k, k < (wout b ss).length → ((wout b ss).getD k ByteArray.empty).size ≤ Z.toNat := by
  intro k hk
  rw [getD_at _ k hk]
  have h1 := tot_of_mem (List.getElem_mem hk)
  have h2 := wout_tot b ss
  omega
theorem totK_cons (h : Hk) (t : List Hk) : ∀ k, k ≤ t.length → totK (h :: t) (k + 1) = tot h.2.2 + totK t k := by
  intro k
  induction k with
  | zero => intro _; simp [totK]
  | succ k ih =>
    intro hk
    rw [totK, ih (by omega), totK]
    have : (h :: t).getD (k + 1) (0, 0, []) = t.getD k (0, 0, []) := rfl
    rw [this]; omega
theorem leftHF_tot : ∀ (l : List Hk) (n : Int), ¬ leftHF n l < 0 → totK l l.length ≤ n := by
  intro l
  induction l with
  | nil => intro n h; simp only [leftHF] at h; simp [totK]; omega
  | cons h t ih =>
    intro n hn
    by_cases hl : left n h.2.2 < 0
    · rw [leftHF_stop hl] at hn; omega
    · rw [leftHF_go hl] at hn
      obtain ⟨e, h1, h2⟩ := left_nums hl
      have i1 := ih _ hn
      rw [List.length_cons, totK_cons h t _ (Nat.le_refl _)]
      omega
theorem leftH_tot {l : List Hk} {n : Int} (h : ¬ leftH n l < 0) : totK l l.length ≤ n := by
  unfold leftH at h
  split at h
  · omega
  · have := leftHF_tot l _ h; omega
end Go.Proofs.YtnkbjbbaoddfkaaGreatDoor
