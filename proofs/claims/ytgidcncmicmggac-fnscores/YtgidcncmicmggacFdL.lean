/- Fields of a line: what is ahead of the first blank and behind it; the lines of a text. No statement is proved here. -/
import Derived.Test.YtgidcncmicmggacRows
import Derived.Test.YtgidcncmicmggacLem
import Derived.Test.YtgidcncmicmggacLFLem
import Derived.Test.YtgidcncmicmggacSplLem
import Derived.Test.YtgidcncmicmggacCutL
namespace Go.Proofs.Ytgidcncmicmggac.Te

/-- What is ahead of the first blank, and what is behind it. -/
def bef (l : List UInt8) : List UInt8 := l.takeWhile (fun c => c != 32)
def aft (l : List UInt8) : List UInt8 := (l.dropWhile (fun c => c != 32)).drop 1
theorem bef_app (q : List UInt8) : ∀ {p : List UInt8}, ¬ (32 : UInt8) ∈ p → bef (p ++ 32 :: q) = p ∧ aft (p ++ 32 :: q) = q
  | [], _ => by simp [bef, aft]
  | x :: xs, h => by
    have h1 : ¬ x = 32 := fun e => h (by rw [e]; exact List.mem_cons_self)
    have ih := bef_app q (p := xs) (fun e => h (List.mem_cons_of_mem _ e))
    simp only [bef, aft] at ih ⊢
    simp only [List.cons_append, List.takeWhile_cons, List.dropWhile_cons, bne_iff_ne, ne_eq, h1, not_false_eq_true, if_true]
    exact ⟨by rw [ih.1], ih.2⟩
theorem bef_no : ∀ {p : List UInt8}, ¬ (32 : UInt8) ∈ p → bef p = p ∧ aft p = []
  | [], _ => by simp [bef, aft]
  | x :: xs, h => by
    have h1 : ¬ x = 32 := fun e => h (by rw [e]; exact List.mem_cons_self)
    have ih := bef_no (p := xs) (fun e => h (List.mem_cons_of_mem _ e))
    simp only [bef, aft] at ih ⊢
    simp only [List.takeWhile_cons, List.dropWhile_cons, bne_iff_ne, ne_eq, h1, not_false_eq_true, if_true]
    exact ⟨by rw [ih.1], ih.2⟩
/-- A line without the line feed that it may end with. -/
def trimL (l : List UInt8) : List UInt8 := if l.getLast? = some 10 then l.dropLast else l
theorem trim_snoc (l : List UInt8) : trimL (l ++ [10]) = l := by simp [trimL]
theorem cut_cons {c : UInt8} : ∀ {l p : List UInt8} {t : List (List UInt8)}, cutL c l = p :: t → ¬ c ∈ p ∧ ((t = [] ∧ l = p) ∨ ∃ q, l = p ++ c :: q ∧ cutL c q = t)
  | [], p, t, h => by
    simp only [cutL, List.cons.injEq] at h
    obtain ⟨rfl, rfl⟩ := h
    exact ⟨by simp, .inl ⟨rfl, rfl⟩⟩
  | x :: xs, p, t, h => by
    by_cases e : x = c
    · simp only [cutL, if_pos e, List.cons.injEq] at h
      obtain ⟨rfl, rfl⟩ := h
      exact ⟨by simp, .inr ⟨xs, by rw [e]; rfl, rfl⟩⟩
    · simp only [cutL, if_neg e] at h
      cases e2 : cutL c xs with
      | nil => have := (cut_len c xs).1; rw [e2] at this; simp at this
      | cons y ys =>
        rw [e2] at h
        simp only [List.cons.injEq] at h
        obtain ⟨rfl, rfl⟩ := h
        obtain ⟨h1, h2⟩ := cut_cons e2
        refine ⟨fun hm => ?_, ?_⟩
        · rcases List.mem_cons.1 hm with hm | hm
          · exact e hm.symm
          · exact h1 hm
        · rcases h2 with ⟨h3, h4⟩ | ⟨q, h3, h4⟩
          · exact .inl ⟨h3, by rw [h4]⟩
          · exact .inr ⟨q, by rw [h3]; rfl, h4⟩
theorem cut3 {c : UInt8} {l p q r : List UInt8} (h : cutL c l = [p, q, r]) : l = p ++ c :: (q ++ c :: r) ∧ ¬ c ∈ p ∧ ¬ c ∈ q ∧ ¬ c ∈ r := by
  obtain ⟨h1, h2⟩ := cut_cons h
  rcases h2 with ⟨h3, _⟩ | ⟨l1, rfl, h4⟩
  · cases h3
  obtain ⟨h5, h6⟩ := cut_cons h4
  rcases h6 with ⟨h7, _⟩ | ⟨l2, rfl, h8⟩
  · cases h7
  obtain ⟨h9, h10⟩ := cut_cons h8
  rcases h10 with ⟨_, rfl⟩ | ⟨l3, _, h11⟩
  · exact ⟨rfl, h1, h5, h9⟩
  · have := (cut_len c l3).1; rw [h11] at this; simp at this
theorem last_snoc {x : List UInt8} (h : x.getLast? = some 10) : x = x.dropLast ++ [10] := by
  cases x with
  | nil => simp at h
  | cons a l =>
    rw [List.getLast?_eq_some_getLast (by simp)] at h
    have e := Option.some.inj h
    have k := List.dropLast_concat_getLast (l := a :: l) (by simp)
    rw [e] at k
    exact k.symm
theorem spl_join : ∀ l : List UInt8, (spl l).flatten = l
  | [] => rfl
  | c :: l => by
    have ih := spl_join l
    by_cases e : c = 10
    · simp only [spl, if_pos e, List.flatten_cons, ih]; simp
    · simp only [spl, if_neg e]
      cases e2 : spl l with
      | nil => rw [e2] at ih; simp at ih; simp [← ih]
      | cons x xs => rw [e2] at ih; simp only [List.flatten_cons] at ih ⊢; rw [List.cons_append, ih]
end Go.Proofs.Ytgidcncmicmggac.Te
