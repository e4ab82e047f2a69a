/- Contracts of the laws' helpers over lists of changes and of ChangesOf (the program's and the specification's). No statement is proved here. -/
import Derived.Test.YtepbkaidlffaiabRows
import Derived.Test.YtepbkaidlffaiabLemQ
import Derived.Test.YtepbkaidlffaiabStrsQ
import Derived.Test.YtepbkaidlffaiabLFLemQ
import Derived.Test.YtepbkaidlffaiabLFQ
import Derived.Test.YtepbkaidlffaiabComQ
import Derived.Test.YtepbkaidlffaiabAskedQ
import Derived.Test.YtepbkaidlffaiabDTabQ
import Derived.Test.YtepbkaidlffaiabSTabQ
import Derived.Test.YtepbkaidlffaiabPairsQ
import Derived.Test.YtepbkaidlffaiabIntSQ
import Derived.Test.YtepbkaidlffaiabFrQ
import Derived.Test.YtepbkaidlffaiabChgQ
import Derived.Test.YtepbkaidlffaiabEdCQ
import Derived.WalkKit
import Derived.ProofKit
import Derived.Below
import Derived.WalkSpells
import Derived.RegionTactic
import Derived.Deep.RegionWith
namespace Go.Proofs.Ytepbkaidlffaiab
open Go.ChangeShapes Go.WideShapes Go.ChangeAt Go.RowKit

/-- Rows of four marks that can be read. -/
def IR4 (w : World) (a : Option Addr) (n m : Nat) : Prop := ∀ k, k < n → ∃ g, a = some ⟨g, 0, none⟩ ∧ g < w.heap.size ∧ ∀ j, j < 4 → w.cell? ⟨g, k * 4 + j, none⟩ = some (.int .i64 ((m + k * 4 + j : Nat) : Int))
theorem IR4.of {w : World} {base n m c : Nat} {a : Option Addr} (h : w.ownsRow base 177 4 (.slice a n c) n (marksI m (n * 4))) : IR4 w a n m := fun k hk => by
  rcases h.2 with ⟨_, h0⟩ | ⟨g, cap, cur, h', hb, hh, _⟩
  · omega
  · simp only [Value.slice.injEq] at h'
    obtain ⟨rfl, _, rfl⟩ := h'
    exact ⟨g, rfl, (Array.getElem?_eq_some_iff.1 hh).1, fun j hj => by rw [h.cellAt (k * 4 + j) (by omega), marksI_at m (n * 4) _ (by omega), Nat.add_assoc]⟩
theorem IR4.below {w w' : World} {a : Option Addr} {n m : Nat} (h : IR4 w a n m) (hb : Below w.heap.size w w') : IR4 w' a n m := fun k hk => by
  obtain ⟨g, e, hg, hc⟩ := h k hk
  exact ⟨g, e, Nat.lt_of_lt_of_le hg hb.size, fun j hj => (hb.cell (p := ⟨g, k * 4 + j, none⟩) hg).trans (hc j hj)⟩

theorem cbOf {w : World} {base c : Nat} {a : Option Addr} {l : List Chg} (h : w.ownsRow base 177 4 (.slice a l.length c) l.length (chgCells l)) : CB w.heap.size w a l := by
  obtain ⟨a', c', e, hC⟩ := CB.of h
  simp only [Value.slice.injEq] at e
  obtain ⟨rfl, _⟩ := e
  exact hC
/-- The changes that ChangesOf tells. -/
def chL (xs ys : List ByteArray) : List Chg := if asked xs ys = 0 then changes xs ys else []
theorem chL_ok {xs ys : List ByteArray} (h : asked xs ys = 0) : chL xs ys = changes xs ys := if_pos h
theorem chL_no {xs ys : List ByteArray} (h : ¬ asked xs ys = 0) : chL xs ys = [] := if_neg h
theorem chL_length (xs ys : List ByteArray) : (chL xs ys).length ≤ 101 := by
  by_cases h : asked xs ys = 0
  · rw [chL_ok h]; exact changes_length xs ys (lf_zero (asked_zero h).1).1
  · rw [chL_no h]; exact Nat.zero_le _
/-- The answer with code r and changes L. -/
def CP (r : Int) (L : List Chg) (w : World) (e : Ending) (w' : World) : Prop := ∃ v, e = .returned (.agg #[.int .i64 r, v]) ∧ w'.ownsRow w.heap.size 177 4 v L.length (chgCells L) ∧ Below w.heap.size w w'

end Go.Proofs.Ytepbkaidlffaiab
