/- Contracts of the laws' helpers over lists of numbers and pairs of them, and of MatchLines. No statement is proved here. -/
import Derived.Test.YtepbkaidlffaiabRows
import Derived.Test.YtepbkaidlffaiabLemQ
import Derived.Test.YtepbkaidlffaiabStrsQ
import Derived.Test.YtepbkaidlffaiabDTabQ
import Derived.Test.YtepbkaidlffaiabOwnQ
import Derived.WalkKit
import Derived.ProofKit
import Derived.Below
import Derived.WalkSpells
import Derived.Deep.QuietTactic
import Derived.BigQuiet
namespace Go.Proofs.Ytepbkaidlffaiab
open Go.ChangeShapes Go.WideShapes Go.ChangeAt Go.RowKit

/-- A row of numbers that can be read. -/
def IR (w : World) (v : Value) (n : Nat) (f : Nat → Int) : Prop := ∃ a cap, v = .slice a n cap ∧ ∀ k, k < n → ∃ g, a = some ⟨g, 0, none⟩ ∧ g < w.heap.size ∧ w.cell? ⟨g, k, none⟩ = some (.int .i64 (f k))
theorem IR.of {w : World} {base : Nat} {v : Value} {n : Nat} {xs : List Value} (h : w.ownsRow base 2 1 v n xs) (f : Nat → Int) (hf : ∀ k, k < n → xs[k]? = some (.int .i64 (f k))) : IR w v n f := by
  rcases h.2 with ⟨rfl, rfl⟩ | ⟨g, cap, cur, rfl, hb, hh, _⟩
  · exact ⟨none, 0, rfl, fun k hk => absurd hk (Nat.not_lt_zero _)⟩
  · exact ⟨_, cap, rfl, fun k hk => ⟨g, rfl, (Array.getElem?_eq_some_iff.1 hh).1, by rw [h.cellAt k (by omega), hf k hk]⟩⟩
theorem IR.below {w w' : World} {v : Value} {n : Nat} {f : Nat → Int} (h : IR w v n f) (hb : Below w.heap.size w w') : IR w' v n f := by
  obtain ⟨a, cap, rfl, hc⟩ := h
  exact ⟨a, cap, rfl, fun k hk => by
    obtain ⟨g, e, hlt, hg⟩ := hc k hk
    exact ⟨g, e, Nat.lt_of_lt_of_le hlt hb.size, (hb.cell (p := ⟨g, k, none⟩) hlt).trans hg⟩⟩
theorem IR.drewN {w : World} {v : Value} {n : Nat} {f : Nat → Int} (h : IR w v n f) (m : Nat) : IR (w.drewN m) v n f := h

/-- The marks from m on. -/
def marksI (m n : Nat) : List Value := (List.range n).map fun i => .int .i64 ((m + i : Nat) : Int)
theorem marksI_at (m n k : Nat) (h : k < n) : (marksI m n)[k]? = some (.int .i64 ((m + k : Nat) : Int)) := by simp [marksI, h]
def mixI (xs : List Value) (m k : Nat) : List Value := marksI m k ++ xs.drop k
theorem mixI_set (xs : List Value) (m k : Nat) (h : k < xs.length) : (mixI xs m k).set k (.int .i64 ((m + k : Nat) : Int)) = mixI xs m (k + 1) := by
  unfold mixI
  have e : marksI m (k + 1) = marksI m k ++ [.int .i64 ((m + k : Nat) : Int)] := by simp [marksI, List.range_succ]
  have el : (marksI m k).length = k := by simp [marksI]
  rw [e, List.append_assoc, List.set_append_right _ _ (by omega), el, Nat.sub_self, List.drop_eq_getElem_cons h]
  rfl

end Go.Proofs.Ytepbkaidlffaiab
