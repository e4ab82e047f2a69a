/- Entries of a tree, as the specification draws them. No statement is proved here. -/
import Derived.Test.YtijphomojljckaaGreatDoorRows
import Derived.Test.YtijphomojljckaaGreatDoorLemQ
import Derived.Test.YtijphomojljckaaGreatDoorLFLemQ
import Derived.Test.YtijphomojljckaaGreatDoorComQ
import Derived.Test.YtijphomojljckaaGreatDoorInQ
import Derived.Test.YtijphomojljckaaGreatDoorHkTQ
import Derived.Test.YtijphomojljckaaGreatDoorTeLQ
import Derived.Test.YtijphomojljckaaGreatDoorTeAQ
import Derived.Test.YtijphomojljckaaGreatDoorDigCQ
import Derived.Test.YtijphomojljckaaGreatDoorDrawQ
import Derived.Test.YtijphomojljckaaGreatDoorCutDQ
import Derived.Test.YtijphomojljckaaGreatDoorDraw21Q
import Derived.WalkKit
import Derived.ProofKit
import Derived.Below
import Derived.WalkSpells
import Derived.Maps.AppendAt
import Derived.Deep.QuietTactic
import Derived.BigQuiet
import Derived.Deep.RegionWith
import Derived.Deep.RegionHeld
import Derived.Deep.Cut
import Derived.Deep.CutRange
import Derived.Deep.Onto
set_option linter.unusedVariables false
namespace Go.Proofs.YtijphomojljckaaGreatDoor.Te
open Go.ChangeShapes Go.WideShapes Go.ChangeAt Go.RowKit
theorem getD_setX (l : List Ob) (k : Nat) (o : Ob) (h : k < l.length) : (l.set k o).getD k onil = o := by rw [List.getD, List.getElem?_set_self h]; rfl
theorem getD_setY (l : List Ob) (k j : Nat) (o : Ob) (h : k ≠ j) : (l.set k o).getD j onil = l.getD j onil := by rw [List.getD, List.getD, List.getElem?_set_ne h]
theorem ocells_setX (l : List Ob) (k off : Nat) (o : Ob) (v : Value) (h : k < l.length) (hk : off / 3 = k) (hv : ocell (l.set k o) off = v) (hs : ∀ j, j / 3 = k → j ≠ off → ocell (l.set k o) j = ocell l j) : (ocells l).set off v = ocells (l.set k o) := by
  unfold ocells
  rw [rowG_set, List.length_set]
  apply rowG_congr
  intro j hj
  by_cases e : j = off
  · rw [if_pos e, e, hv]
  · rw [if_neg e]
    by_cases e3 : j / 3 = k
    · exact (hs j e3 e).symm
    · unfold ocell; rw [getD_setY l k (j / 3) o (fun q => e3 q.symm)]
theorem ocells_set0 (l : List Ob) (k : Nat) (p : ByteArray) (h : k < l.length) : (ocells l).set (k * 3) (.string p) = ocells (l.set k (p, (l.getD k onil).2)) := by
  refine ocells_setX l k _ _ _ h (by omega) (by rw [ocell0, getD_setX l k _ h]) ?_
  intro j hj hne
  have : j = k * 3 + 1 ∨ j = k * 3 + 2 := by omega
  rcases this with rfl | rfl
  · rw [ocell1, ocell1, getD_setX l k _ h]
  · rw [ocell2, ocell2, getD_setX l k _ h]
theorem ocells_set1 (l : List Ob) (k : Nat) (p : Int) (h : k < l.length) : (ocells l).set (k * 3 + 1) (.int .i64 p) = ocells (l.set k ((l.getD k onil).1, p, (l.getD k onil).2.2)) := by
  refine ocells_setX l k _ _ _ h (by omega) (by rw [ocell1, getD_setX l k _ h]) ?_
  intro j hj hne
  have : j = k * 3 ∨ j = k * 3 + 2 := by omega
  rcases this with rfl | rfl
  · rw [ocell0, ocell0, getD_setX l k _ h]
  · rw [ocell2, ocell2, getD_setX l k _ h]
theorem ocells_set2 (l : List Ob) (k : Nat) (p : ByteArray) (h : k < l.length) : (ocells l).set (k * 3 + 2) (.string p) = ocells (l.set k ((l.getD k onil).1, (l.getD k onil).2.1, p)) := by
  refine ocells_setX l k _ _ _ h (by omega) (by rw [ocell2, getD_setX l k _ h]) ?_
  intro j hj hne
  have : j = k * 3 ∨ j = k * 3 + 1 := by omega
  rcases this with rfl | rfl
  · rw [ocell0, ocell0, getD_setX l k _ h]
  · rw [ocell1, ocell1, getD_setX l k _ h]
theorem getD_memX (l : List Ob) (k : Nat) (h : k < l.length) : l.getD k onil ∈ l := by
  rw [List.getD, List.getElem?_eq_getElem h]; exact List.getElem_mem h
/-- An entry of the row is stored anew: the answer as it is asked. -/
theorem EW.put {N b nb : Nat} {a : Option Addr} {n cap : Nat} {k K : Int} {w wr : World} {g c : Nat} {L : List Ob} {k' : Int} (h : EW N b w.heap.size nb a n cap K w wr g c L k') (hL : L.length ≤ 6) (hok : ∀ o ∈ L, EOk o) (i : Nat) (o : Ob) (ho : EOk o) (off : Nat) (v : Value)
    (he : (ocells L).set off v = ocells (L.set i o)) (hb : b < w.heap.size) (hK : K ≤ k + 40) : EntPost N b a n cap k w (.returned (.slice (some ⟨g, 0, none⟩) L.length c)) (wr.setCell ⟨g, off, none⟩ v) := by
  obtain ⟨s1, s2⟩ := h.own.stored off v
  rw [he] at s1
  have hg := h.own.lt g rfl
  have hge := h.src.ge
  refine ⟨L.set i o, g, c, k', by rw [List.length_set], by rw [List.length_set]; omega, ?_, by unfold TeR; rw [List.length_set]; exact s1, h.src.kept s2 (by simp; omega) (fun j hj => by have : g = j := Option.some.inj hj; omega), by have := h.hi; omega, grown_new h.gr s2 (fun j hj => by have : g = j := Option.some.inj hj; omega)⟩
  intro z hz
  rcases List.mem_or_eq_of_mem_set hz with q | q
  · exact hok z q
  · rw [q]; exact ho
theorem EOk.nil : EOk onil := by unfold EOk onil; decide
theorem madeX (m : Nat) : (madeCells (Value.agg #[.string ⟨#[]⟩, .int .i64 0, .string ⟨#[]⟩]).cells (m * 3)).toList = ocells (List.replicate m onil) := by
  rw [mixO_zero []]
  unfold ocells
  rw [List.length_replicate]
  apply rowG_congr
  intro j hj
  have e : (List.replicate m onil).getD (j / 3) onil = onil := by rw [List.getD, List.getElem?_replicate]; split <;> rfl
  unfold mixO ocell
  rw [e, if_neg (by omega)]
  unfold onil
  split
  · split
    · omega
    · simp
  · split <;> (simp; rfl)
end Go.Proofs.YtijphomojljckaaGreatDoor.Te
