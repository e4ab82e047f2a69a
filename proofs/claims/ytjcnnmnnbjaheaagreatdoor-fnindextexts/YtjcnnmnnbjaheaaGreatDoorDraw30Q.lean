/- Entries of an index, as the specification draws them: what stands meanwhile. No statement is proved here. -/
import Derived.Test.YtjcnnmnnbjaheaaGreatDoorRows
import Derived.Test.YtjcnnmnnbjaheaaGreatDoorLemQ
import Derived.Test.YtjcnnmnnbjaheaaGreatDoorLFLemQ
import Derived.Test.YtjcnnmnnbjaheaaGreatDoorDTabQ
import Derived.Test.YtjcnnmnnbjaheaaGreatDoorHkTQ
import Derived.Test.YtjcnnmnnbjaheaaGreatDoorSgCQ
import Derived.Test.YtjcnnmnnbjaheaaGreatDoorDigCQ
import Derived.Test.YtjcnnmnnbjaheaaGreatDoorDrawQ
import Derived.Test.YtjcnnmnnbjaheaaGreatDoorPickCQ
import Derived.WalkKit
import Derived.ProofKit
import Derived.Below
import Derived.WalkSpells
import Derived.Maps.AppendAt
set_option linter.unusedVariables false
namespace Go.Proofs.YtjcnnmnnbjaheaaGreatDoor.En
open Go.ChangeShapes Go.WideShapes Go.ChangeAt Go.RowKit
abbrev EnR (base : Nat) (w : World) (g c : Nat) (L : List Ob) : Prop := w.ownsRow base 51 4 (.slice (some ⟨g, 0, none⟩) L.length c) L.length (ocells L)
theorem grBE {w w' : World} (h : Below w.heap.size w w') (row : Option Nat) : w.grownBy w' row := ⟨h.os, h.tape, h.output, h.size, fun j hj _ => h.block j hj⟩
theorem EnR.grew {base g c b : Nat} {w w' : World} {L : List Ob} (h : EnR base w g c L) (hg : w.grownBy w' (some b)) (hb : b < base) : EnR base w' g c L :=
  h.kept hg (.inr (by rw [ownBlock_slice]; have := (h.lt g rfl).1; simp; omega))
theorem EnR.bel {base g c : Nat} {w w' : World} {L : List Ob} (h : EnR base w g c L) (hb : Below w.heap.size w w') : EnR base w' g c L :=
  h.kept (grBE hb none) (blockCases _ _ fun b c1 c2 => by cases c2)
theorem litD (w : World) : EnR w.heap.size (w.alloc (.cells #[] 51)) w.heap.size 0 [] := World.ownsRow_made w #[] 0 (Nat.le_refl _) (by unfold maxLen; omega) rfl
theorem ownedD {w : World} {base : Nat} {v : Value} {L : List Ob} (h : w.ownsRow base 51 4 v L.length (ocells L)) (h0 : 0 < L.length) : ∃ g c, v = .slice (some ⟨g, 0, none⟩) L.length c := by
  rcases h.2 with ⟨_, hh⟩ | ⟨g, c, cur, e, _⟩
  · omega
  · exact ⟨g, c, e⟩
/-- What stands while entries are drawn: the row, the paths, the source. -/
structure EW (N b q nb : Nat) (a : Option Addr) (n cap : Nat) (k : Int) (w wr : World) (g c : Nat) (L : List Ob) (k' : Int) : Prop where
  own : EnR q wr g c L
  nm : LitB wr nb 6 100
  src : Src N wr b a n cap k'
  hi : k' ≤ k
  gr : w.grownBy wr (some b)
theorem EW.draw {N b q nb : Nat} {a : Option Addr} {n cap : Nat} {k : Int} {w wr w2 : World} {g c : Nat} {L : List Ob} {k' k2 : Int} (h : EW N b q nb a n cap k w wr g c L k') (hs : Src N w2 b a n cap k2) (hg : wr.grownBy w2 (some b)) (hb : b < q) (hnb : nb ≠ b) (K : Int) (hk : k2 ≤ K) : EW N b q nb a n cap K w w2 g c L k2 :=
  ⟨h.own.grew hg hb, h.nm.kept hg (by simpa using hnb), hs, hk, grown_trans h.gr hg⟩
theorem EW.bel {N b q nb : Nat} {a : Option Addr} {n cap : Nat} {k : Int} {w wr w2 : World} {g c : Nat} {L : List Ob} {k' : Int} (h : EW N b q nb a n cap k w wr g c L k') (hB : Below wr.heap.size wr w2) : EW N b q nb a n cap k w w2 g c L k' :=
  ⟨h.own.bel hB, h.nm.kept (grBE hB none) (by simp), h.src.below hB, h.hi, grown_trans h.gr (grBE hB _)⟩
theorem EW.step {N b q nb : Nat} {a : Option Addr} {n cap : Nat} {k : Int} {w wr w2 : World} {g c p : Nat} {L : List Ob} {k' : Int} (h : EW N b q nb a n cap k w wr g c L k') (hg : wr.grownBy w2 (some p)) (h1 : g ≠ p) (h2 : nb ≠ p) (h3 : b ≠ p) (h4 : N ≤ p) (h5 : w.heap.size ≤ p) : EW N b q nb a n cap k w w2 g c L k' :=
  ⟨h.own.kept hg (.inr (by rw [ownBlock_slice]; simpa using h1)), h.nm.kept hg (by simpa using h2), h.src.kept hg (by simpa using h3) (fun j hj => by cases hj; exact h4), h.hi, grown_new h.gr hg (fun j hj => by cases hj; exact h5)⟩
theorem EW.more {N b q nb : Nat} {a : Option Addr} {n cap : Nat} {k K : Int} {w wr : World} {g c : Nat} {L : List Ob} {k' : Int} (h : EW N b q nb a n cap k w wr g c L k') (hK : k' ≤ K) : EW N b q nb a n cap K w wr g c L k' := ⟨h.own, h.nm, h.src, hK, h.gr⟩
theorem hexs_lenD (D : Nat) : ∀ i, (hexs D i).length = i := by
  intro i; induction i generalizing D with
  | zero => simp [hexs]
  | succ i ih => simp [hexs, ih]
theorem idN_szD (k : Int) (d : ByteArray) : (idN k d).size = 5 := by
  unfold idN; simp [ByteArray.size, hexs_lenD]
/-- An entry as it is drawn: short texts. -/
def EOk (o : Ob) : Prop := o.1.size ≤ 100 ∧ o.2.2.2.size ≤ 100
def EntPost (N b : Nat) (a : Option Addr) (n cap : Nat) (k : Int) (w : World) (e : Ending) (w' : World) : Prop :=
  ∃ (L : List Ob) (g c : Nat) (k' : Int), e = .returned (.slice (some ⟨g, 0, none⟩) L.length c) ∧ L.length ≤ 5000 ∧ (∀ o ∈ L, EOk o) ∧
    EnR w.heap.size w' g c L ∧ Src N w' b a n cap k' ∧ k' ≤ k + 80 ∧ w.grownBy w' (some b)
theorem getD_setX (l : List Ob) (k : Nat) (o : Ob) (h : k < l.length) : (l.set k o).getD k onil = o := by rw [List.getD, List.getElem?_set_self h]; rfl
theorem getD_setY (l : List Ob) (k j : Nat) (o : Ob) (h : k ≠ j) : (l.set k o).getD j onil = l.getD j onil := by rw [List.getD, List.getD, List.getElem?_set_ne h]
theorem ocells_setX (l : List Ob) (k off : Nat) (o : Ob) (v : Value) (h : k < l.length) (hk : off / 4 = k) (hv : ocell (l.set k o) off = v) (hs : ∀ j, j / 4 = k → j ≠ off → ocell (l.set k o) j = ocell l j) : (ocells l).set off v = ocells (l.set k o) := by
  unfold ocells
  rw [rowG_set, List.length_set]
  apply rowG_congr
  intro j hj
  by_cases e : j = off
  · rw [if_pos e, e, hv]
  · rw [if_neg e]
    by_cases e3 : j / 4 = k
    · exact (hs j e3 e).symm
    · unfold ocell; rw [getD_setY l k (j / 4) o (fun q => e3 q.symm)]
theorem ocells_setD0 (l : List Ob) (k : Nat) (p : ByteArray) (h : k < l.length) : (ocells l).set (k * 4) (.string p) = ocells (l.set k (p, (l.getD k onil).2.1, (l.getD k onil).2.2.1, (l.getD k onil).2.2.2)) := by
  refine ocells_setX l k _ _ _ h (by omega) (by rw [ocell0, getD_setX l k _ h]) ?_
  intro j hj hne
  have : j = k * 4 + 1 ∨ j = k * 4 + 2 ∨ j = k * 4 + 3 := by omega
  rcases this with rfl | rfl | rfl
  · rw [ocell1, ocell1, getD_setX l k _ h]
  · rw [ocell2, ocell2, getD_setX l k _ h]
  · rw [ocell3, ocell3, getD_setX l k _ h]
theorem ocells_setD1 (l : List Ob) (k : Nat) (p : Int) (h : k < l.length) : (ocells l).set (k * 4 + 1) (.int .i64 p) = ocells (l.set k ((l.getD k onil).1, p, (l.getD k onil).2.2.1, (l.getD k onil).2.2.2)) := by
  refine ocells_setX l k _ _ _ h (by omega) (by rw [ocell1, getD_setX l k _ h]) ?_
  intro j hj hne
  have : j = k * 4 ∨ j = k * 4 + 2 ∨ j = k * 4 + 3 := by omega
  rcases this with rfl | rfl | rfl
  · rw [ocell0, ocell0, getD_setX l k _ h]
  · rw [ocell2, ocell2, getD_setX l k _ h]
  · rw [ocell3, ocell3, getD_setX l k _ h]
theorem ocells_setD2 (l : List Ob) (k : Nat) (p : Int) (h : k < l.length) : (ocells l).set (k * 4 + 2) (.int .i64 p) = ocells (l.set k ((l.getD k onil).1, (l.getD k onil).2.1, p, (l.getD k onil).2.2.2)) := by
  refine ocells_setX l k _ _ _ h (by omega) (by rw [ocell2, getD_setX l k _ h]) ?_
  intro j hj hne
  have : j = k * 4 ∨ j = k * 4 + 1 ∨ j = k * 4 + 3 := by omega
  rcases this with rfl | rfl | rfl
  · rw [ocell0, ocell0, getD_setX l k _ h]
  · rw [ocell1, ocell1, getD_setX l k _ h]
  · rw [ocell3, ocell3, getD_setX l k _ h]
theorem ocells_setD3 (l : List Ob) (k : Nat) (p : ByteArray) (h : k < l.length) : (ocells l).set (k * 4 + 3) (.string p) = ocells (l.set k ((l.getD k onil).1, (l.getD k onil).2.1, (l.getD k onil).2.2.1, p)) := by
  refine ocells_setX l k _ _ _ h (by omega) (by rw [ocell3, getD_setX l k _ h]) ?_
  intro j hj hne
  have : j = k * 4 ∨ j = k * 4 + 1 ∨ j = k * 4 + 2 := by omega
  rcases this with rfl | rfl | rfl
  · rw [ocell0, ocell0, getD_setX l k _ h]
  · rw [ocell1, ocell1, getD_setX l k _ h]
  · rw [ocell2, ocell2, getD_setX l k _ h]
theorem getD_memX (l : List Ob) (k : Nat) (h : k < l.length) : l.getD k onil ∈ l := by
  rw [List.getD, List.getElem?_eq_getElem h]; exact List.getElem_mem h
/-- An entry of the row is stored anew: the answer as it is asked. -/
theorem EW.put {N b nb : Nat} {a : Option Addr} {n cap : Nat} {k K : Int} {w wr : World} {g c : Nat} {L : List Ob} {k' : Int} (h : EW N b w.heap.size nb a n cap K w wr g c L k') (hL : L.length ≤ 18) (hok : ∀ o ∈ L, EOk o) (i : Nat) (o : Ob) (ho : EOk o) (off : Nat) (v : Value)
    (he : (ocells L).set off v = ocells (L.set i o)) (hb : b < w.heap.size) (hK : K ≤ k + 80) : EntPost N b a n cap k w (.returned (.slice (some ⟨g, 0, none⟩) L.length c)) (wr.setCell ⟨g, off, none⟩ v) := by
  obtain ⟨s1, s2⟩ := h.own.stored off v
  rw [he] at s1
  have hg := h.own.lt g rfl
  have hge := h.src.ge
  refine ⟨L.set i o, g, c, k', by rw [List.length_set], by rw [List.length_set]; omega, ?_, by unfold EnR; rw [List.length_set]; exact s1, h.src.kept s2 (by simp; omega) (fun j hj => by have : g = j := Option.some.inj hj; omega), by have := h.hi; omega, grown_new h.gr s2 (fun j hj => by have : g = j := Option.some.inj hj; omega)⟩
  intro z hz
  rcases List.mem_or_eq_of_mem_set hz with q | q
  · exact hok z q
  · rw [q]; exact ho
theorem EOk.nil : EOk onil := by unfold EOk onil; decide
theorem madeD (m : Nat) : (madeCells (Value.agg #[.string ⟨#[]⟩, .int .i64 0, .int .i64 0, .string ⟨#[]⟩]).cells (m * 4)).toList = ocells (List.replicate m onil) := by
  rw [mixO_zero []]
  unfold ocells
  rw [List.length_replicate]
  apply rowG_congr
  intro j hj
  have e : (List.replicate m onil).getD (j / 4) onil = onil := by rw [List.getD, List.getElem?_replicate]; split <;> rfl
  have h3 : j % 4 = 0 ∨ j % 4 = 1 ∨ j % 4 = 2 ∨ j % 4 = 3 := by omega
  unfold mixO ocell
  rw [e]
  rcases h3 with q | q | q | q <;> simp [q, onil] <;> rfl
end Go.Proofs.YtjcnnmnnbjaheaaGreatDoor.En
