/- The contracts of the laws' helpers over chunks (szChunk, toChunk, eqChunk and their lists). No statement is proved here. -/
import Derived.Test.YtgincoiehbdphaaGreatDoorCkLQ
import Derived.Test.YtgincoiehbdphaaGreatDoorMarksQ
import Derived.Deep.RegionWith
import Derived.Maps.AppendAt
import Derived.Deep.Strs
import Derived.Lib.SmallJoins
namespace Go.Proofs.YtgincoiehbdphaaGreatDoor
open Go.ChangeShapes Go.WideShapes Go.ChangeAt Go.RowKit
theorem Fr.ofSet (w : World) (b o : Nat) (v : Value) : Fr b (b + 1) w (w.setCell ⟨b, o, none⟩ v) := Fr.ofGrown (grownSet w b o v) (fun j hj => by cases hj; omega)
end Go.Proofs.YtgincoiehbdphaaGreatDoor
namespace Go.Proofs.YtgincoiehbdphaaGreatDoor
open Go.ChangeShapes Go.WideShapes Go.ChangeAt Go.RowKit
theorem threeK {i k : Nat} (h : i < (k + 1) * 3) : i < k * 3 \/ i = k * 3 \/ i = k * 3 + 1 \/ i = k * 3 + 2 := by omega
theorem fourSets (w : World) (b o : Nat) (v0 v1 v2 v3 : Value) : Fr b (b + 1) w ((((w.setCell ⟨b, o, none⟩ v0).setCell ⟨b, o + 1, none⟩ v1).setCell ⟨b, o + 2, none⟩ v2).setCell ⟨b, o + 3, none⟩ v3) := by
 have G : ∀ (u : World) (o : Nat) (v : Value), Fr b (b + 1) u (u.setCell ⟨b, o, none⟩ v) := fun u o v => Fr.ofGrown (grownSet u b o v) (fun j hj => by cases hj; omega)
 exact (((G _ _ _).trans (G _ _ _)).trans (G _ _ _)).trans (G _ _ _)
end Go.Proofs.YtgincoiehbdphaaGreatDoor
namespace Go.Proofs.YtgincoiehbdphaaGreatDoor
open Go.ChangeShapes Go.WideShapes Go.ChangeAt Go.RowKit
theorem mem_of_lns {l : List Ck} {ss : List ByteArray} (h : ss ∈ lnsAll l) : ∃ c ∈ l, ss = c.2.1 \/ ss = c.2.2.1 \/ ss = c.2.2.2 := by
 unfold lnsAll at h
 obtain ⟨c, hc, hs⟩ := List.mem_flatMap.1 h
 exact ⟨c, hc, by simpa using hs⟩
end Go.Proofs.YtgincoiehbdphaaGreatDoor
namespace Go.Proofs.YtgincoiehbdphaaGreatDoor
open Go.ChangeShapes Go.WideShapes Go.ChangeAt Go.RowKit
def mkC (v n1 n2 n3 : Nat) : Ck := ((v : Int), marks (v + 1) n1, marks (v + 1 + n1) n2, marks (v + 1 + n1 + n2) n3)
end Go.Proofs.YtgincoiehbdphaaGreatDoor
