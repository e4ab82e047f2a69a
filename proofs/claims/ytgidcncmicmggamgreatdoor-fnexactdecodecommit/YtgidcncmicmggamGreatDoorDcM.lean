/- The lines of a commit, one behind another: what the specification has made behind k of them. No statement is proved here. -/
import Derived.Test.YtgidcncmicmggamGreatDoorRows
import Derived.Test.YtgidcncmicmggamGreatDoorLem
import Derived.Test.YtgidcncmicmggamGreatDoorLFLem
import Derived.Test.YtgidcncmicmggamGreatDoorSplLem
import Derived.Test.YtgidcncmicmggamGreatDoorCutL
import Derived.Test.YtgidcncmicmggamGreatDoorFdL
import Derived.Test.YtgidcncmicmggamGreatDoorCutC
import Derived.Test.YtgidcncmicmggamGreatDoorDtU
import Derived.Test.YtgidcncmicmggamGreatDoorWcC
import Derived.Test.YtgidcncmicmggamGreatDoorDcL
import Derived.Test.YtgidcncmicmggamGreatDoorDcT
import Derived.Test.YtgidcncmicmggamGreatDoorDcU
namespace Go.Proofs.YtgidcncmicmggamGreatDoor.Dc
open Go.Proofs.YtgidcncmicmggamGreatDoor.Te

theorem st_open {x wd : ByteArray} (h : endB x = false) : stW wd.data.toList x.data.toList = none := by
  unfold stW
  rw [if_neg (fun q => of_decide_eq_false h q.1)]
theorem un_end {x : ByteArray} (h : endB x = true) : (unT x).data.toList = x.data.toList.dropLast := by
  unfold unT
  rw [if_pos h, mkB_data]
  unfold trimL
  rw [if_pos (of_decide_eq_true h)]
theorem st_hit {x wd v : ByteArray} (h : endB x = true) (hv : (unT x).data.toList = wd.data.toList ++ 32 :: v.data.toList) : stW wd.data.toList x.data.toList = some v.data.toList := by
  rw [un_end h] at hv
  unfold stW
  rw [if_pos ⟨of_decide_eq_true h, by rw [hv, List.isPrefixOf_iff_prefix]; exact ⟨v.data.toList, by simp⟩⟩, hv]
  rw [show wd.data.toList ++ 32 :: v.data.toList = (wd.data.toList ++ [32]) ++ v.data.toList by simp, List.drop_left' (by simp)]
theorem st_miss {x wd : ByteArray} (h : endB x = true) (hv : ∀ v, ¬ (unT x).data.toList = wd.data.toList ++ 32 :: v) : stW wd.data.toList x.data.toList = none := by
  unfold stW
  refine if_neg fun q => ?_
  obtain ⟨r, hr⟩ := List.isPrefixOf_iff_prefix.1 q.2
  refine hv r ?_
  rw [un_end h, ← hr]
  simp
/-- What the specification has made behind k lines. -/
def cT (xs : List (List UInt8)) (k : Nat) : ByteArray := if 0 < k then mkB (txt xs 0) else ⟨#[]⟩
def cP (xs : List (List UInt8)) (k : Nat) : List ByteArray := (List.range (min (k - 1) (xs.length - 3))).map (fun i => mkB (txt xs (i + 1)))
def cM (xs : List (List UInt8)) (k : Nat) : Int := if xs.length - 2 < k then (tI (txt xs (xs.length - 2))).getD 0 else 0
def cN (xs : List (List UInt8)) (k : Nat) : ByteArray := if xs.length - 1 < k then mkB (txt xs (xs.length - 1)) else ⟨#[]⟩
def cG (xs : List (List UInt8)) (k : Nat) : Prop := (∀ i, i < k → (stW (wOf xs.length i).data.toList (xs.getD i [])).isSome = true) ∧ (xs.length - 2 < k → (tI (txt xs (xs.length - 2))).isSome = true)
theorem c_zero (xs : List (List UInt8)) : cT xs 0 = ⟨#[]⟩ ∧ cP xs 0 = [] ∧ cM xs 0 = 0 ∧ cN xs 0 = ⟨#[]⟩ ∧ cG xs 0 :=
  ⟨if_neg (by omega), by simp [cP], if_neg (by omega), if_neg (by omega), fun i h => by omega, fun h => by omega⟩
theorem c_all {xs : List (List UInt8)} (h3 : 3 ≤ xs.length) (h : cG xs xs.length) : sOk tI xs ∧ sCm tI xs = (cT xs xs.length, cP xs xs.length, cM xs xs.length, cN xs xs.length) := by
  refine ⟨⟨h3, h.1, h.2 (by omega)⟩, ?_⟩
  unfold sCm cT cP cM cN
  rw [if_pos (by omega), if_pos (by omega), if_pos (by omega), show min (xs.length - 1) (xs.length - 3) = xs.length - 3 by omega]
theorem txt_of {xs : List (List UInt8)} {k : Nat} {v : ByteArray} (h : stW (wOf xs.length k).data.toList (xs.getD k []) = some v.data.toList) : mkB (txt xs k) = v := by
  unfold txt; rw [h]; rfl
theorem cG_bad {xs : List (List UInt8)} {k : Nat} (hk : k < xs.length) (h : stW (wOf xs.length k).data.toList (xs.getD k []) = none) : ¬ sOk tI xs := fun q => by
  have := q.2.1 k hk
  rw [h] at this
  cases this
theorem cG_time {xs : List (List UInt8)} {k : Nat} (hk : k + 2 = xs.length) {v : ByteArray} (h : stW (wOf xs.length k).data.toList (xs.getD k []) = some v.data.toList) (ht : tI v.data.toList = none) : ¬ sOk tI xs := fun q => by
  have := q.2.2
  rw [show xs.length - 2 = k by omega, show txt xs k = v.data.toList by unfold txt; rw [h]; rfl, ht] at this
  cases this
theorem cG_step {xs : List (List UInt8)} {k : Nat} {v : ByteArray} (h3 : 3 ≤ xs.length) (hg : cG xs k) (h : stW (wOf xs.length k).data.toList (xs.getD k []) = some v.data.toList) (ht : k + 2 = xs.length → (tI v.data.toList).isSome = true) : cG xs (k + 1) := by
  refine ⟨fun i hi => ?_, fun hn => ?_⟩
  · by_cases e : i = k
    · subst e; rw [h]; rfl
    · exact hg.1 i (by omega)
  · by_cases e : k + 2 = xs.length
    · rw [show xs.length - 2 = k by omega, show txt xs k = v.data.toList by unfold txt; rw [h]; rfl]
      exact ht e
    · exact hg.2 (by omega)
theorem step_tree {xs : List (List UInt8)} (h3 : 3 ≤ xs.length) {v : ByteArray} (h : stW (wOf xs.length 0).data.toList (xs.getD 0 []) = some v.data.toList) : cT xs 1 = v ∧ cP xs 1 = cP xs 0 ∧ cM xs 1 = cM xs 0 ∧ cN xs 1 = cN xs 0 := by
  refine ⟨?_, by simp [cP], ?_, ?_⟩
  · unfold cT; rw [if_pos (by omega), txt_of h]
  · unfold cM; rw [if_neg (by omega), if_neg (by omega)]
  · unfold cN; rw [if_neg (by omega), if_neg (by omega)]
theorem step_par {xs : List (List UInt8)} {k : Nat} (h0 : 0 < k) (hk : k + 2 < xs.length) {v : ByteArray} (h : stW (wOf xs.length k).data.toList (xs.getD k []) = some v.data.toList) : cT xs (k + 1) = cT xs k ∧ cP xs (k + 1) = cP xs k ++ [v] ∧ cM xs (k + 1) = cM xs k ∧ cN xs (k + 1) = cN xs k := by
  refine ⟨?_, ?_, ?_, ?_⟩
  · unfold cT; rw [if_pos (by omega), if_pos (by omega)]
  · unfold cP
    rw [show min (k + 1 - 1) (xs.length - 3) = (k - 1) + 1 by omega, show min (k - 1) (xs.length - 3) = k - 1 by omega, List.range_succ, List.map_append, List.map_singleton, show k - 1 + 1 = k by omega, txt_of h]
  · unfold cM; rw [if_neg (by omega), if_neg (by omega)]
  · unfold cN; rw [if_neg (by omega), if_neg (by omega)]
theorem step_time {xs : List (List UInt8)} {k : Nat} (h0 : 0 < k) (hk : k + 2 = xs.length) {v : ByteArray} {n : Int} (h : stW (wOf xs.length k).data.toList (xs.getD k []) = some v.data.toList) (ht : tI v.data.toList = some n) : cT xs (k + 1) = cT xs k ∧ cP xs (k + 1) = cP xs k ∧ cM xs (k + 1) = n ∧ cN xs (k + 1) = cN xs k := by
  refine ⟨?_, ?_, ?_, ?_⟩
  · unfold cT; rw [if_pos (by omega), if_pos (by omega)]
  · unfold cP; rw [show min (k + 1 - 1) (xs.length - 3) = min (k - 1) (xs.length - 3) by omega]
  · unfold cM; rw [if_pos (by omega), show xs.length - 2 = k by omega, show txt xs k = v.data.toList by unfold txt; rw [h]; rfl, ht]; rfl
  · unfold cN; rw [if_neg (by omega), if_neg (by omega)]
theorem step_note {xs : List (List UInt8)} {k : Nat} (h3 : 3 ≤ xs.length) (hk : k + 1 = xs.length) {v : ByteArray} (h : stW (wOf xs.length k).data.toList (xs.getD k []) = some v.data.toList) : cT xs (k + 1) = cT xs k ∧ cP xs (k + 1) = cP xs k ∧ cM xs (k + 1) = cM xs k ∧ cN xs (k + 1) = v := by
  refine ⟨?_, ?_, ?_, ?_⟩
  · unfold cT; rw [if_pos (by omega), if_pos (by omega)]
  · unfold cP; rw [show min (k + 1 - 1) (xs.length - 3) = min (k - 1) (xs.length - 3) by omega]
  · unfold cM; rw [if_pos (by omega), if_pos (by omega)]
  · unfold cN; rw [if_pos (by omega), show xs.length - 1 = k by omega, txt_of h]
/-- The word of a line, by its place. -/
theorem w_tree {n : Nat} (h : 3 ≤ n) : wOf n 0 = wTree := by unfold wOf; rw [if_neg (by omega), if_neg (by omega), if_pos rfl]
theorem w_par {n k : Nat} (h0 : 0 < k) (h : k + 2 < n) : wOf n k = wPar := by unfold wOf; rw [if_neg (by omega), if_neg (by omega), if_neg (by omega)]
theorem w_time {n k : Nat} (h : k + 2 = n) : wOf n k = wTime := by unfold wOf; rw [if_neg (by omega), if_pos h]
theorem w_note {n k : Nat} (h : k + 1 = n) : wOf n k = wNote := by unfold wOf; rw [if_pos h]
theorem cP_len (xs : List (List UInt8)) (k : Nat) : (cP xs k).length ≤ xs.length := by unfold cP; rw [List.length_map, List.length_range]; omega
theorem stW_len {w x v : List UInt8} (h : stW w x = some v) : v.length ≤ x.length := by
  rw [stW_some h]; simp; omega
theorem txt_len (xs : List (List UInt8)) (i : Nat) : (txt xs i).length ≤ (xs.getD i []).length := by
  unfold txt
  cases h : stW (wOf xs.length i).data.toList (xs.getD i []) with
  | none => simp
  | some v => exact stW_len h
theorem cP_size {xs : List (List UInt8)} {k M : Nat} (h : ∀ i, i < xs.length → (xs.getD i []).length ≤ M) (j : Nat) (hj : j < (cP xs k).length) : ((cP xs k).getD j ByteArray.empty).size ≤ M := by
  have hj' : j < min (k - 1) (xs.length - 3) := by unfold cP at hj; rwa [List.length_map, List.length_range] at hj
  have e : (cP xs k).getD j ByteArray.empty = mkB (txt xs (j + 1)) := by
    unfold cP
    simp only [List.getD]
    rw [List.getElem?_map, List.getElem?_range hj']
    rfl
  rw [e, ← size_eq, mkB_data]
  exact Nat.le_trans (txt_len xs (j + 1)) (h (j + 1) (by omega))
end Go.Proofs.YtgidcncmicmggamGreatDoor.Dc
