/- The contracts of the laws' helpers over one hunk. No statement is proved here. -/
import Derived.Test.YtjcnnmnnbjaheaaGreatDoorRows
import Derived.Test.YtjcnnmnnbjaheaaGreatDoorLemQ
import Derived.Test.YtjcnnmnnbjaheaaGreatDoorDTabQ
import Derived.WalkKit
import Derived.ProofKit
import Derived.Below
import Derived.WalkSpells
import Derived.Test.YtjcnnmnnbjaheaaGreatDoorFlLQ
import Derived.Deep.QuietTactic
import Derived.BigQuiet
import Derived.Deep.RegionWith
import Derived.Test.YtjcnnmnnbjaheaaGreatDoorMarksQ
namespace Go.Proofs.YtjcnnmnnbjaheaaGreatDoor
open Go.ChangeShapes Go.WideShapes Go.ChangeAt Go.RowKit

/-- The cells of a struct that a variable holds, and that they may be written. -/
structure Rf (w : World) (b : Nat) (vs : List Value) : Prop where
  at_ : ∀ k v, vs[k]? = some v → w.cell? ⟨b, k, none⟩ = some v
  fz : ∀ k, w.frozen? ⟨b, k, none⟩ = false
theorem Rf.new (w : World) (vs : Array Value) (t : TypeId) : Rf (w.alloc (.cells vs t)) w.heap.size vs.toList := ⟨Rs.new w vs t, fun k => by unfold World.frozen?; rw [heap_alloc_new]; simp⟩
theorem Rf.below {w w' : World} {b : Nat} {vs : List Value} (h : Rf w b vs) (hp : b < w.heap.size) (hb : Below w.heap.size w w') : Rf w' b vs :=
  ⟨fun k v hk => (hb.cell (p := ⟨b, k, none⟩) hp).trans (h.at_ k v hk), fun k => (hb.frozen (p := ⟨b, k, none⟩) hp).trans (h.fz k)⟩
theorem Rf.other {w : World} {b b' o : Nat} {vs : List Value} (h : Rf w b vs) (hne : b ≠ b') (v : Value) : Rf (w.setCell ⟨b', o, none⟩ v) b vs :=
  ⟨fun k u hk => by rw [World.cell?_setCell_other _ _ _ _ (by intro c; simp only [Addr.mk.injEq] at c; exact hne (by omega))]; exact h.at_ k u hk, fun k => by rw [World.frozen?_setCell]; exact h.fz k⟩
theorem Rf.set {w : World} {b o : Nat} {vs : List Value} (h : Rf w b vs) (ho : o < vs.length) (v : Value) : Rf (w.setCell ⟨b, o, none⟩ v) b (vs.set o v) :=
  ⟨fun k u hk => by
    by_cases e : k = o
    · subst e
      rw [World.cell?_setCell_same _ _ _ (h.at_ k vs[k] (List.getElem?_eq_getElem ho))]
      simpa [ho] using hk
    · rw [World.cell?_setCell_other _ _ _ _ (by intro c; simp only [Addr.mk.injEq] at c; omega)]
      rw [List.getElem?_set_ne (by omega)] at hk
      exact h.at_ k u hk, fun k => by rw [World.frozen?_setCell]; exact h.fz k⟩

end Go.Proofs.YtjcnnmnnbjaheaaGreatDoor
/- The contracts of the laws' helpers over lists of files (szFileS, toFileS, eqFileS). No statement is proved here. -/
namespace Go.Proofs.YtjcnnmnnbjaheaaGreatDoor.Fl
open Go.ChangeShapes Go.WideShapes Go.ChangeAt Go.RowKit

theorem beqSelf (s : ByteArray) : (s.toList == s.toList) = true := beq_bytes_true rfl
end Go.Proofs.YtjcnnmnnbjaheaaGreatDoor.Fl
/- The contracts of the laws' helpers that mark lists of files (markFileS, heldFileS). No statement is proved here. -/
namespace Go.Proofs.YtjcnnmnnbjaheaaGreatDoor.Fl
open Go.ChangeShapes Go.WideShapes Go.ChangeAt Go.RowKit

/-- Files that are marks, from m on. -/
def mkO (m n : Nat) : List Ob := (List.range n).map fun j => (mtxt (m + 3 * j), ((m + 3 * j + 1 : Nat) : Int), mtxt (m + 3 * j + 2))
theorem mkO_length (m n : Nat) : (mkO m n).length = n := by simp [mkO]
theorem mkO_at (m n k : Nat) (h : k < n) : (mkO m n).getD k onil = (mtxt (m + 3 * k), ((m + 3 * k + 1 : Nat) : Int), mtxt (m + 3 * k + 2)) := by simp [mkO, List.getD, h]
def mixP (l : List Ob) (xs : List Value) (k j : Nat) : Value := if j < k * 3 then ocell l j else xs.getD j (.int .i64 0)
theorem mixP_zero (l : List Ob) (xs : List Value) : rowG (mixP l xs 0) xs.length = xs := by
  apply List.ext_getElem?
  intro j
  by_cases hj : j < xs.length
  · rw [rowG_at _ _ _ hj]
    unfold mixP
    rw [if_neg (by omega)]
    simp [List.getD, hj]
  · rw [List.getElem?_eq_none (by rw [rowG_length]; omega), List.getElem?_eq_none (by omega)]
theorem mixP_set (l : List Ob) (xs : List Value) (k m : Nat) :
    (((rowG (mixP l xs k) m).set (k * 3) (.string (l.getD k onil).1)).set (k * 3 + 1) (.int .i64 (l.getD k onil).2.1)).set (k * 3 + 2) (.string (l.getD k onil).2.2) = rowG (mixP l xs (k + 1)) m := by
  rw [rowG_set, rowG_set, rowG_set]
  apply rowG_congr
  intro j _
  by_cases e2 : j = k * 3 + 2
  · rw [if_pos e2]; unfold mixP; rw [if_pos (by omega), e2, ocell2]
  · rw [if_neg e2]
    by_cases e1 : j = k * 3 + 1
    · rw [if_pos e1]; unfold mixP; rw [if_pos (by omega), e1, ocell1]
    · rw [if_neg e1]
      by_cases e0 : j = k * 3
      · rw [if_pos e0]; unfold mixP; rw [if_pos (by omega), e0, ocell0]
      · rw [if_neg e0]
        unfold mixP
        by_cases h : j < k * 3
        · rw [if_pos h, if_pos (by omega)]
        · have h1 : ¬ j < (k + 1) * 3 := by omega
          rw [if_neg h, if_neg h1]
theorem mixP_full (l : List Ob) (xs : List Value) : rowG (mixP l xs l.length) (l.length * 3) = ocells l := by
  apply rowG_congr
  intro j hj
  unfold mixP
  rw [if_pos hj]

end Go.Proofs.YtjcnnmnnbjaheaaGreatDoor.Fl
/- The contracts of the laws' helpers over FilesResult. No statement is proved here. -/
namespace Go.Proofs.YtjcnnmnnbjaheaaGreatDoor.Fl
open Go.ChangeShapes Go.WideShapes Go.ChangeAt Go.RowKit

theorem obMk {w : World} {base n c m : Nat} {a : Option Addr} (h : w.ownsRow base 88 3 (.slice a n c) n (ocells (mkO m n))) : OB w.heap.size w a (mkO m n) :=
  OB.of (c := c) (base := base) (by rw [mkO_length]; exact h)
end Go.Proofs.YtjcnnmnnbjaheaaGreatDoor.Fl
