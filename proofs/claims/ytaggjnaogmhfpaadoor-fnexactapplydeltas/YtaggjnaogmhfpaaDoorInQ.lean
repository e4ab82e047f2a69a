/- The contract of spec.l1In. No statement is proved here. -/
import Derived.Test.YtaggjnaogmhfpaaDoorRows
import Derived.Test.YtaggjnaogmhfpaaDoorLemQ
import Derived.WalkKit
import Derived.ProofKit
import Derived.Below
import Derived.Test.YtaggjnaogmhfpaaDoorDTabQ
import Derived.WalkSpells
namespace Go.Proofs.YtaggjnaogmhfpaaDoor
open Go.ChangeShapes Go.WideShapes Go.ChangeAt Go.RowKit

def inB (v lo hi : Int) : Bool := decide (lo ≤ v ∧ v ≤ hi)
end Go.Proofs.YtaggjnaogmhfpaaDoor
/- The contracts of the laws' helpers over one hunk. No statement is proved here. -/
namespace Go.Proofs.YtaggjnaogmhfpaaDoor
open Go.ChangeShapes Go.WideShapes Go.ChangeAt Go.RowKit

/-- The cells of a struct that a variable holds, and that they may be written. -/
structure Rf (w : World) (b : Nat) (vs : List Value) : Prop where
  at_ : ∀ k v, vs[k]? = some v → w.cell? ⟨b, k, none⟩ = some v
  fz : ∀ k, w.frozen? ⟨b, k, none⟩ = false
theorem Rf.new (w : World) (vs : Array Value) (t : TypeId) : Rf (w.alloc (.cells vs t)) w.heap.size vs.toList := ⟨Rs.new w vs t, fun k => by unfold World.frozen?; rw [heap_alloc_new]; simp⟩
theorem Rf.below {w w' : World} {b : Nat} {vs : List Value} (h : Rf w b vs) (hp : b < w.heap.size) (hb : Below w.heap.size w w') : Rf w' b vs :=
  ⟨fun k v hk => (hb.cell (p := ⟨b, k, none⟩) hp).trans (h.at_ k v hk), fun k => (hb.frozen (p := ⟨b, k, none⟩) hp).trans (h.fz k)⟩
theorem Rf.other {w : World} {b b' o : Nat} {vs : List Value} (h : Rf w b vs) (hne : b ≠ b') (v : Value) : Rf (w.setCell ⟨b', o, none⟩ v) b vs :=
  ⟨fun k u hk => by rw [World.cell?_setCell_other _ _ _ _ (by intro c; simp only [Addr.mk.injEq] at c; exact hne (by omega))]; exact h.at_ k u hk, fun k => by rw [World.frozen?_setCell]; exact h.fz k⟩
theorem Rf.set {w : World} {b o : Nat} {vs : List Value} (h : Rf w b vs) (ho : o < vs.length) (v : Value) : Rf (w.setCell ⟨b, o, none⟩ v) b (vs.set o v) :=
  ⟨fun k u hk => by
    by_cases e : k = o
    · subst e
      rw [World.cell?_setCell_same _ _ _ (h.at_ k vs[k] (List.getElem?_eq_getElem ho))]
      simpa [ho] using hk
    · rw [World.cell?_setCell_other _ _ _ _ (by intro c; simp only [Addr.mk.injEq] at c; omega)]
      rw [List.getElem?_set_ne (by omega)] at hk
      exact h.at_ k u hk, fun k => by rw [World.frozen?_setCell]; exact h.fz k⟩

end Go.Proofs.YtaggjnaogmhfpaaDoor
