/- The contracts of CommonOf, the program's and the specification's. No statement is proved here. -/
import Derived.Test.YtnkbjbbaoddfkaaGreatDoorRows
import Derived.Test.YtnkbjbbaoddfkaaGreatDoorLemQ
import Derived.Test.YtnkbjbbaoddfkaaGreatDoorDTabQ
import Derived.Test.YtnkbjbbaoddfkaaGreatDoorLFLemQ
import Derived.Test.YtnkbjbbaoddfkaaGreatDoorHkTQ
import Derived.Test.YtnkbjbbaoddfkaaGreatDoorComQ
import Derived.Test.YtnkbjbbaoddfkaaGreatDoorAskedQ
import Derived.Test.YtnkbjbbaoddfkaaGreatDoorSTabQ
import Derived.Test.YtnkbjbbaoddfkaaGreatDoorAlcQ
import Derived.WalkKit
import Derived.ProofKit
import Derived.Below
import Derived.Test.YtnkbjbbaoddfkaaGreatDoorPairsQ
import Derived.WalkSpells
import Derived.Test.YtnkbjbbaoddfkaaGreatDoorSameCQ
import Derived.RegionTactic
import Derived.Deep.RegionWith
namespace Go.Proofs.YtnkbjbbaoddfkaaGreatDoor
open Go.ChangeShapes Go.WideShapes Go.ChangeAt Go.RowKit

/-- The value that CommonOf tells. -/
def comV (xs ys : List ByteArray) : Int := if asked xs ys = 0 then (comAt xs ys 0 0 : Int) else 0
theorem comV_ok {xs ys : List ByteArray} (h : asked xs ys = 0) : comV xs ys = (comAt xs ys 0 0 : Int) := if_pos h
theorem comV_no {xs ys : List ByteArray} (h : ¬ asked xs ys = 0) : comV xs ys = 0 := if_neg h
end Go.Proofs.YtnkbjbbaoddfkaaGreatDoor
/- The contracts of EditCount, the program's and the specification's. No statement is proved here. -/
namespace Go.Proofs.YtnkbjbbaoddfkaaGreatDoor
open Go.ChangeShapes Go.WideShapes Go.ChangeAt Go.RowKit

/-- Every number of a change is small. -/
def SmallC (c : Chg) : Prop := (-101 ≤ c.1 ∧ c.1 ≤ 101) ∧ (-101 ≤ c.2.1 ∧ c.2.1 ≤ 101) ∧ (-101 ≤ c.2.2.1 ∧ c.2.2.1 ≤ 101) ∧ (-101 ≤ c.2.2.2 ∧ c.2.2.2 ≤ 101)
theorem chg_small : ∀ (l : List (Nat × Nat)) (i j : Nat), (∀ p ∈ l, p.1 ≤ 100 ∧ p.2 ≤ 100) → i ≤ 101 → j ≤ 101 → ∀ c ∈ chg l i j, SmallC c := by
  intro l
  induction l with
  | nil => intro i j _ _ _ c hc; cases hc
  | cons a l ih =>
    obtain ⟨p, q⟩ := a
    intro i j hp hi hj c hc
    have hpq := hp (p, q) (List.mem_cons_self ..)
    simp only [] at hpq
    have hl : ∀ p ∈ l, p.1 ≤ 100 ∧ p.2 ≤ 100 := fun x hx => hp x (List.mem_cons_of_mem _ hx)
    by_cases h : i < p ∨ j < q
    · rw [chg_more l h] at hc
      rcases List.mem_cons.1 hc with rfl | hc
      · refine ⟨?_, ?_, ?_, ?_⟩ <;> simp only [] <;> omega
      · exact ih _ _ hl (by omega) (by omega) c hc
    · rw [chg_less l h] at hc
      exact ih _ _ hl (by omega) (by omega) c hc
theorem changes_small (xs ys : List ByteArray) (n1 : xs.length ≤ 100) (n2 : ys.length ≤ 100) : ∀ c ∈ changes xs ys, SmallC c := by
  refine chg_small _ 0 0 (fun p hp => ?_) (by omega) (by omega)
  rcases List.mem_append.1 hp with hp | hp
  · have := mat_bd xs ys _ 0 0 (Nat.le_refl _) _ hp; omega
  · rw [List.mem_singleton.1 hp]; exact ⟨n1, n2⟩
theorem changes_length (xs ys : List ByteArray) (n1 : xs.length ≤ 100) : (changes xs ys).length ≤ 101 := by
  have h1 := chg_length (ends xs ys) 0 0
  have h2 := ends_length xs ys
  have h3 := (com_le_length _ xs ys (Nat.le_refl _)).1
  unfold changes
  omega
theorem edits_take (l : List Chg) (k : Nat) (h : k < l.length) : edits (l.take (k + 1)) = edits (l.take k) + ((l.getD k (0, 0, 0, 0)).2.1 + (l.getD k (0, 0, 0, 0)).2.2.2) := by
  unfold edits
  rw [List.take_succ_eq_append_getElem h, List.map_append, List.sum_append]
  simp [List.getD, h]
theorem edits_bd (l : List Chg) (hs : ∀ c ∈ l, SmallC c) : -(202 * (l.length : Int)) ≤ edits l ∧ edits l ≤ 202 * (l.length : Int) := by
  induction l with
  | nil => simp [edits]
  | cons c l ih =>
    have h1 := hs c (List.mem_cons_self ..)
    have h2 := ih (fun x hx => hs x (List.mem_cons_of_mem _ hx))
    obtain ⟨_, h3, _, h4⟩ := h1
    rw [edits_cons]
    simp only [List.length_cons]
    omega
/-- A list of changes that can be read, below block B. -/
def CB (B : Nat) (w : World) (a : Option Addr) (l : List Chg) : Prop :=
  ∀ k, k < l.length → ∃ g off, a = some ⟨g, off, none⟩ ∧ g < B ∧ w.cell? ⟨g, off + k * 4, none⟩ = some (.int .i64 (l.getD k (0, 0, 0, 0)).1) ∧ w.cell? ⟨g, off + k * 4 + 1, none⟩ = some (.int .i64 (l.getD k (0, 0, 0, 0)).2.1) ∧
    w.cell? ⟨g, off + k * 4 + 2, none⟩ = some (.int .i64 (l.getD k (0, 0, 0, 0)).2.2.1) ∧ w.cell? ⟨g, off + k * 4 + 3, none⟩ = some (.int .i64 (l.getD k (0, 0, 0, 0)).2.2.2)
theorem CB.of {w : World} {base : Nat} {v : Value} {l : List Chg} (h : w.ownsRow base 94 4 v l.length (chgCells l)) : ∃ a c, v = .slice a l.length c ∧ CB w.heap.size w a l := by
  rcases h.2 with ⟨rfl, h0⟩ | ⟨g, c, cur, rfl, _, hh, _⟩
  · exact ⟨none, 0, by rw [h0], fun k hk => by omega⟩
  · refine ⟨_, c, rfl, fun k hk => ⟨g, 0, rfl, (Array.getElem?_eq_some_iff.1 hh).1, ?_, ?_, ?_, ?_⟩⟩
    · rw [Nat.zero_add]; have := chgCells_at l k 0 hk (by omega); rw [Nat.add_zero] at this; rw [h.cellAt (k * 4) (by omega), this]; rfl
    · rw [Nat.zero_add, h.cellAt (k * 4 + 1) (by omega), chgCells_at l k 1 hk (by omega)]; rfl
    · rw [Nat.zero_add, h.cellAt (k * 4 + 2) (by omega), chgCells_at l k 2 hk (by omega)]; rfl
    · rw [Nat.zero_add, h.cellAt (k * 4 + 3) (by omega), chgCells_at l k 3 hk (by omega)]; rfl
theorem CB.fr {lo hi B : Nat} {w w' : World} {a : Option Addr} {l : List Chg} (h : CB B w a l) (hF : Fr lo hi w w') (hb : B ≤ lo ∨ hi ≤ lo) : CB B w' a l := fun k hk => by
  obtain ⟨g, off, e, hg, h0, h1, h2, h3⟩ := h k hk
  exact ⟨g, off, e, hg, hF.cell h0 (by omega), hF.cell h1 (by omega), hF.cell h2 (by omega), hF.cell h3 (by omega)⟩
theorem CB.below {B : Nat} {w w' : World} {a : Option Addr} {l : List Chg} (h : CB B w a l) (hb : Below w.heap.size w w') : CB B w' a l := h.fr (Fr.ofBelow (lo := 0) (hi := 0) hb) (.inr (Nat.le_refl _))

/-- The value that EditCount tells. -/
def edV (xs ys : List ByteArray) : Int := if asked xs ys = 0 then edits (changes xs ys) else 0
theorem edV_ok {xs ys : List ByteArray} (h : asked xs ys = 0) : edV xs ys = edits (changes xs ys) := if_pos h
theorem edV_no {xs ys : List ByteArray} (h : ¬ asked xs ys = 0) : edV xs ys = 0 := if_neg h

end Go.Proofs.YtnkbjbbaoddfkaaGreatDoor
/- Contracts of the laws' helpers over lists of changes and of ChangesOf (the program's and the specification's). No statement is proved here. -/
namespace Go.Proofs.YtnkbjbbaoddfkaaGreatDoor
open Go.ChangeShapes Go.WideShapes Go.ChangeAt Go.RowKit

/-- Rows of four marks that can be read. -/
def IR4 (w : World) (a : Option Addr) (n m : Nat) : Prop := ∀ k, k < n → ∃ g, a = some ⟨g, 0, none⟩ ∧ g < w.heap.size ∧ ∀ j, j < 4 → w.cell? ⟨g, k * 4 + j, none⟩ = some (.int .i64 ((m + k * 4 + j : Nat) : Int))
theorem IR4.of {w : World} {base n m c : Nat} {a : Option Addr} (h : w.ownsRow base 94 4 (.slice a n c) n (marksI m (n * 4))) : IR4 w a n m := fun k hk => by
  rcases h.2 with ⟨_, h0⟩ | ⟨g, cap, cur, h', hb, hh, _⟩
  · omega
  · simp only [Value.slice.injEq] at h'
    obtain ⟨rfl, _, rfl⟩ := h'
    exact ⟨g, rfl, (Array.getElem?_eq_some_iff.1 hh).1, fun j hj => by rw [h.cellAt (k * 4 + j) (by omega), marksI_at m (n * 4) _ (by omega), Nat.add_assoc]⟩
theorem IR4.below {w w' : World} {a : Option Addr} {n m : Nat} (h : IR4 w a n m) (hb : Below w.heap.size w w') : IR4 w' a n m := fun k hk => by
  obtain ⟨g, e, hg, hc⟩ := h k hk
  exact ⟨g, e, Nat.lt_of_lt_of_le hg hb.size, fun j hj => (hb.cell (p := ⟨g, k * 4 + j, none⟩) hg).trans (hc j hj)⟩

theorem cbOf {w : World} {base c : Nat} {a : Option Addr} {l : List Chg} (h : w.ownsRow base 94 4 (.slice a l.length c) l.length (chgCells l)) : CB w.heap.size w a l := by
  obtain ⟨a', c', e, hC⟩ := CB.of h
  simp only [Value.slice.injEq] at e
  obtain ⟨rfl, _⟩ := e
  exact hC
/-- The changes that ChangesOf tells. -/
def chL (xs ys : List ByteArray) : List Chg := if asked xs ys = 0 then changes xs ys else []
theorem chL_ok {xs ys : List ByteArray} (h : asked xs ys = 0) : chL xs ys = changes xs ys := if_pos h
theorem chL_no {xs ys : List ByteArray} (h : ¬ asked xs ys = 0) : chL xs ys = [] := if_neg h
theorem chL_length (xs ys : List ByteArray) : (chL xs ys).length ≤ 101 := by
  by_cases h : asked xs ys = 0
  · rw [chL_ok h]; exact changes_length xs ys (lf_zero (asked_zero h).1).1
  · rw [chL_no h]; exact Nat.zero_le _
/-- The answer with code r and changes L. -/
def CP (r : Int) (L : List Chg) (w : World) (e : Ending) (w' : World) : Prop := ∃ v, e = .returned (.agg #[.int .i64 r, v]) ∧ w'.ownsRow w.heap.size 94 4 v L.length (chgCells L) ∧ Below w.heap.size w w'

end Go.Proofs.YtnkbjbbaoddfkaaGreatDoor
