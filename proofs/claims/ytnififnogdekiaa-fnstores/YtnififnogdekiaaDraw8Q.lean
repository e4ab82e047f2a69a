/- The contracts of the specification's l2Two and DrawEditCount over this seat's program. No statement is proved here. -/
import Derived.Test.YtnififnogdekiaaRows
import Derived.Test.YtnififnogdekiaaLemQ
import Derived.Test.YtnififnogdekiaaMarksQ
import Derived.Test.YtnififnogdekiaaDrawQ
import Derived.Test.YtnififnogdekiaaDraw5Q
import Derived.Test.YtnififnogdekiaaDraw7Q
import Derived.WalkKit
import Derived.ProofKit
import Derived.Below
import Derived.WalkSpells
namespace Go.Proofs.Ytnififnogdekiaa
open Go.ChangeShapes Go.WideShapes Go.ChangeAt Go.RowKit

/-- Lines are never read from the source's own block. -/
theorem SS.src {N : Nat} {w w' : World} {b : Nat} {a : Option Addr} {n cap : Nat} {k : Int} {x : Option Addr} {ss : List ByteArray} (h : SS w x ss) (hs : Src N w b a n cap k) (hg : w.grownBy w' (some b)) : SS w' x ss :=
  ⟨h.1, fun i hi => by
    obtain ⟨b', off, e, hb, hc⟩ := h.2 i hi
    refine ⟨b', off, e, Nat.lt_of_lt_of_le hb hg.size, hg.cell hc (fun e' => ?_)⟩
    simp only [Option.some.injEq] at e'
    subst e'
    have : w.cell? ⟨b', off + i, none⟩ = (#[Value.slice a n cap, Value.int .i64 k] : Array Value)[off + i]? := cell_of_row w b' (off + i) _ _ _ hs.blk
    rw [this] at hc
    have h3 : off + i = 0 ∨ off + i = 1 ∨ 2 ≤ off + i := by omega
    rcases h3 with h3 | h3 | h3
    · rw [h3] at hc; simp at hc
    · rw [h3] at hc; simp at hc
    · rw [Array.getElem?_eq_none (by simp; omega)] at hc; cases hc⟩
theorem Small.mono {z z' : Nat} {ss : List ByteArray} (h : Small z ss) (hz : z ≤ z') : Small z' ss := fun x hx => Nat.le_trans (h x hx) hz
def TwoPost (b : Nat) (w : World) (e : Ending) (w' : World) : Prop := ∃ (a1 : Option Addr) (c1 : Nat) (xs : List ByteArray) (a2 : Option Addr) (c2 : Nat) (ys : List ByteArray), e = .returned (.tuple #[.slice a1 xs.length c1, .slice a2 ys.length c2]) ∧ SS w' a1 xs ∧ SS w' a2 ys ∧ xs.length ≤ 1000 ∧ ys.length ≤ 1000 ∧ Small 9 xs ∧ Small 9 ys ∧ w.grownBy w' (some b)

end Go.Proofs.Ytnififnogdekiaa
