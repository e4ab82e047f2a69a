/- The mathematics of a score: the same forth and back, at most 1000, and full just for the same. No statement is proved here. -/
import Derived.Test.YtgidcncmicmggacRows
import Derived.Test.YtgidcncmicmggacLem
import Derived.Test.YtgidcncmicmggacLFLem
import Derived.Test.YtgidcncmicmggacSplLem
import Derived.Test.YtgidcncmicmggacFdL
import Derived.Test.YtgidcncmicmggacCom
import Derived.Test.YtgidcncmicmggacBinC
import Derived.Test.YtgidcncmicmggacTF
import Derived.Test.YtgidcncmicmggacScC
import Derived.Test.YtgidcncmicmggacScD
namespace Go.Proofs.Ytgidcncmicmggac.Sc

theorem com_comm : ∀ (n : Nat) (xs ys : List ByteArray), xs.length + ys.length ≤ n → com xs ys = com ys xs := by
  intro n
  induction n with
  | zero =>
    intro xs ys h
    have hx : xs = [] := List.length_eq_zero_iff.1 (by omega)
    have hy : ys = [] := List.length_eq_zero_iff.1 (by omega)
    rw [hx, hy]
  | succ n ih =>
    intro xs ys h
    match xs, ys, h with
    | [], ys, _ => rw [com_nil_left, com_nil_right]
    | x :: xs, [], _ => rw [com_nil_left, com_nil_right]
    | x :: xs, y :: ys, h =>
      simp only [List.length_cons] at h
      rw [com, com]
      by_cases e : x = y
      · rw [if_pos e, if_pos e.symm, ih xs ys (by omega)]
      · rw [if_neg e, if_neg (fun q => e q.symm), ih xs (y :: ys) (by simp only [List.length_cons]; omega), ih (x :: xs) ys (by simp only [List.length_cons]; omega), Nat.max_comm]
theorem com_full : ∀ (xs ys : List ByteArray), xs.length = ys.length → com xs ys = xs.length → xs = ys
  | [], [], _, _ => rfl
  | [], _ :: _, h, _ => by simp at h
  | _ :: _, [], h, _ => by simp at h
  | x :: xs, y :: ys, hl, h => by
    simp only [List.length_cons] at hl h
    rw [com] at h
    by_cases e : x = y
    · rw [if_pos e] at h
      rw [e, com_full xs ys (by omega) (by omega)]
    · rw [if_neg e] at h
      have h1 := (com_le_length _ xs (y :: ys) (Nat.le_refl _)).1
      have h2 := (com_le_length _ (x :: xs) ys (Nat.le_refl _)).2
      omega
theorem comAt0 (xs ys : List ByteArray) : comAt xs ys 0 0 = com xs ys := rfl
theorem lines_inj {a b : ByteArray} (h : linesOf a = linesOf b) : a = b := by
  apply WideShapes.bytes_inj
  rw [← Te.spl_join a.data.toList, ← Te.spl_join b.data.toList]
  have ha : (linesOf a).map (fun x => x.data.toList) = spl a.data.toList := by simp [linesOf, linesFrom, mkB_data, Function.comp_def]
  have hb : (linesOf b).map (fun x => x.data.toList) = spl b.data.toList := by simp [linesOf, linesFrom, mkB_data, Function.comp_def]
  rw [← ha, ← hb, h]
theorem sc_comm (a b : ByteArray) : scV a b = scV b a := by
  by_cases h : a = b
  · rw [h]
  · have h' : ¬ b = a := fun q => h q.symm
    by_cases k : binB a.data.toList = true ∨ binB b.data.toList = true
    · rw [sc_bin h k, sc_bin h' k.symm]
    · have ka : binB a.data.toList = false := by
        cases e : binB a.data.toList with
        | true => exact absurd (.inl e) k
        | false => rfl
      have kb : binB b.data.toList = false := by
        cases e : binB b.data.toList with
        | true => exact absurd (.inr e) k
        | false => rfl
      rw [sc_num h ka kb, sc_num h' kb ka, comAt0, comAt0, com_comm _ (linesOf a) (linesOf b) (Nat.le_refl _), Nat.add_comm (linesOf a).length]
theorem sc_bd (a b : ByteArray) : 0 ≤ scV a b ∧ scV a b ≤ 1000 := by
  unfold scV
  split
  · omega
  · split
    · omega
    · have h2 := com_two (linesOf a) (linesOf b)
      have : 2000 * comAt (linesOf a) (linesOf b) 0 0 / ((linesOf a).length + (linesOf b).length) ≤ 1000 := Nat.div_le_of_le_mul (by omega)
      exact ⟨Int.natCast_nonneg _, Int.ofNat_le.2 this⟩
theorem sc_full {a b : ByteArray} (h : ¬ a = b) : ¬ scV a b = 1000 := fun e => by
  unfold scV at e
  rw [if_neg h] at e
  split at e
  · cases e
  · have e' : 2000 * comAt (linesOf a) (linesOf b) 0 0 / ((linesOf a).length + (linesOf b).length) = 1000 := Int.ofNat_inj.1 e
    have hm := Nat.div_mul_le_self (2000 * comAt (linesOf a) (linesOf b) 0 0) ((linesOf a).length + (linesOf b).length)
    rw [e'] at hm
    have hc := comAt_le (linesOf a) (linesOf b) 0 0
    exact h (lines_inj (com_full _ _ (by omega) (by rw [← comAt0]; omega)))
theorem st_comm {a b : ByteArray} (h : stC a b = 0) : stC b a = 0 ∧ stV b a = stV a b ∧ tf a = 0 ∧ tf b = 0 := by
  unfold stC at h
  by_cases ha : tf a = 0
  · rw [if_pos ha] at h
    unfold stC stV
    rw [if_pos h, if_pos ⟨h, ha⟩, if_pos ⟨ha, h⟩]
    exact ⟨ha, sc_comm _ _, ha, h⟩
  · rw [if_neg ha] at h; exact absurd h ha
theorem st_self {a : ByteArray} (h : tf a = 0) : stC a a = 0 ∧ stV a a = 1000 := by
  unfold stC stV
  rw [if_pos h, if_pos ⟨h, h⟩]
  exact ⟨h, sc_same rfl⟩
end Go.Proofs.Ytgidcncmicmggac.Sc
