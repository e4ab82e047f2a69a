/- The lines that changes weave: plain lemmas. No statement is proved here. -/
import Derived.Test.YtbmokagmpdgidaaRows
import Derived.Test.YtbmokagmpdgidaaStrs
import Derived.Test.YtbmokagmpdgidaaLFLem
import Derived.Test.YtbmokagmpdgidaaCom
import Derived.Test.YtbmokagmpdgidaaAsked
import Derived.Test.YtbmokagmpdgidaaDTab
import Derived.Test.YtbmokagmpdgidaaChg
import Derived.Test.YtbmokagmpdgidaaEdC
import Derived.Test.YtbmokagmpdgidaaCFC
import Derived.Test.YtbmokagmpdgidaaCFI
import Derived.Test.YtbmokagmpdgidaaCFS
namespace Go.Proofs.Ytbmokagmpdgidaa

theorem cfF_zero (n m : Nat) (l : List Chg) : ∀ f k, cfF n m l f k = 0 → ∀ j, k ≤ j → j < k + f → codeAt n m l j = 0 := by
  intro f
  induction f with
  | zero => intro k _ j h1 h2; omega
  | succ f ih =>
    intro k h j h1 h2
    rw [cfF] at h
    by_cases hc : codeAt n m l k = 0
    · rw [if_pos hc] at h
      by_cases e : j = k
      · rw [e]; exact hc
      · exact ih (k + 1) h j (by omega) (by omega)
    · rw [if_neg hc] at h; exact absurd h hc
/-- Changes without a fault: each in its bounds and behind the one ahead. -/
theorem cf_each {n m : Nat} {l : List Chg} (h : cf n m l = 0) (k : Nat) (hk : k < l.length) : inR n m (l.getD k (0, 0, 0, 0)) = true ∧ folB (l.getD k (0, 0, 0, 0)) (endA l k) (endB l k) = true := by
  have hc := cfF_zero n m l l.length 0 h k (Nat.zero_le _) (by omega)
  cases h1 : inR n m (l.getD k (0, 0, 0, 0)) with
  | false => rw [code_range h1] at hc; exact absurd hc (by decide)
  | true =>
    cases h2 : folB (l.getD k (0, 0, 0, 0)) (endA l k) (endB l k) with
    | false => rw [code_form h1 h2] at hc; exact absurd hc (by decide)
    | true => exact ⟨rfl, rfl⟩
/-- The numbers of change k: where the walk stands ahead of it, and where behind. -/
theorem cf_nums {n m : Nat} {l : List Chg} (h : cf n m l = 0) (k : Nat) (hk : k < l.length) :
    0 ≤ stA l k ∧ stA l k ≤ (l.getD k (0, 0, 0, 0)).1 ∧ 0 ≤ stB l k ∧ stB l k ≤ (l.getD k (0, 0, 0, 0)).2.2.1 ∧ (l.getD k (0, 0, 0, 0)).1 ≤ stA l (k + 1) ∧ stA l (k + 1) ≤ n ∧ (l.getD k (0, 0, 0, 0)).2.2.1 + (l.getD k (0, 0, 0, 0)).2.2.2 = stB l (k + 1) ∧ stB l (k + 1) ≤ m ∧ 0 ≤ (l.getD k (0, 0, 0, 0)).2.2.2 ∧
    stA l (k + 1) = (l.getD k (0, 0, 0, 0)).1 + (l.getD k (0, 0, 0, 0)).2.1 := by
  obtain ⟨h1, h2⟩ := cf_each h k hk
  have hb := end_bd h1
  have hf := of_decide_eq_true h2
  rw [stA_succ, stB_succ, endA_succ, endB_succ]
  by_cases hk0 : k = 0
  · subst hk0
    have e1 : stA l 0 = 0 := rfl
    have e2 : stB l 0 = 0 := rfl
    omega
  · have e1 : stA l k = endA l k := if_neg hk0
    have e2 : stB l k = endB l k := if_neg hk0
    have hp : 0 ≤ endA l k ∧ 0 ≤ endB l k := by
      obtain ⟨j, rfl⟩ : ∃ j, k = j + 1 := ⟨k - 1, by omega⟩
      obtain ⟨g1, _⟩ := cf_each h j (by omega)
      have := end_next g1
      omega
    omega
/-- Lines i to j of a list. -/
def part (xs : List ByteArray) (i j : Int) : List ByteArray := (xs.drop i.toNat).take (j.toNat - i.toNat)
theorem part_length (xs : List ByteArray) (i j : Int) (h0 : 0 ≤ i) (h1 : i ≤ j) (h2 : j ≤ xs.length) : ((part xs i j).length : Int) = j - i := by
  unfold part; rw [List.length_take, List.length_drop]; omega
/-- What is woven behind k changes. -/
def wv (xs ys : List ByteArray) (l : List Chg) : Nat → List ByteArray
  | 0 => []
  | k + 1 => wv xs ys l k ++ part xs (stA l k) (l.getD k (0, 0, 0, 0)).1 ++ part ys (l.getD k (0, 0, 0, 0)).2.2.1 ((l.getD k (0, 0, 0, 0)).2.2.1 + (l.getD k (0, 0, 0, 0)).2.2.2)
theorem wv_succ (xs ys : List ByteArray) (l : List Chg) (k : Nat) : wv xs ys l (k + 1) = wv xs ys l k ++ part xs (stA l k) (l.getD k (0, 0, 0, 0)).1 ++ part ys (l.getD k (0, 0, 0, 0)).2.2.1 ((l.getD k (0, 0, 0, 0)).2.2.1 + (l.getD k (0, 0, 0, 0)).2.2.2) := rfl
theorem wv_length {xs ys : List ByteArray} {l : List Chg} (h : cf xs.length ys.length l = 0) : ∀ k, k ≤ l.length → ((wv xs ys l k).length : Int) ≤ stA l k + stB l k := by
  intro k
  induction k with
  | zero => intro _; simp [wv, stA, stB]
  | succ k ih =>
    intro hk
    have h1 := ih (by omega)
    have h2 := cf_nums h k (by omega)
    have p1 := part_length xs (stA l k) (l.getD k (0, 0, 0, 0)).1 (by omega) (by omega) (by omega)
    have p2 := part_length ys (l.getD k (0, 0, 0, 0)).2.2.1 ((l.getD k (0, 0, 0, 0)).2.2.1 + (l.getD k (0, 0, 0, 0)).2.2.2) (by omega) (by omega) (by omega)
    rw [wv_succ, List.length_append, List.length_append]
    omega
/-- The lines that are woven. -/
def weave (xs ys : List ByteArray) (l : List Chg) : List ByteArray := wv xs ys l l.length ++ xs.drop (stA l l.length).toNat
theorem part_mem {xs : List ByteArray} {i j : Int} {x : ByteArray} (h : x ∈ part xs i j) : x ∈ xs := List.mem_of_mem_drop (List.mem_of_mem_take h)
end Go.Proofs.Ytbmokagmpdgidaa
