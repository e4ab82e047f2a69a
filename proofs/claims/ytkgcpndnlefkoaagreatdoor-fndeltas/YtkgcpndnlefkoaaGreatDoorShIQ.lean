/- The contracts of the program's shelf: keyOf, cloneObject, put, find. No statement is proved here. -/
import Derived.Test.YtkgcpndnlefkoaaGreatDoorRows
import Derived.Test.YtkgcpndnlefkoaaGreatDoorLemQ
import Derived.Test.YtkgcpndnlefkoaaGreatDoorDTabQ
import Derived.Test.YtkgcpndnlefkoaaGreatDoorInQ
import Derived.Test.YtkgcpndnlefkoaaGreatDoorObLQ
import Derived.Test.YtkgcpndnlefkoaaGreatDoorGtSQ
import Derived.WalkKit
import Derived.ProofKit
import Derived.Below
import Derived.WalkSpells
import Derived.Laws.IdiomCopy
import Derived.Laws.Cover1
import Derived.Defers
import Derived.Deep.RegionWith
import Derived.Deep.RegionHeld
namespace Go.Proofs.YtkgcpndnlefkoaaGreatDoor
open Go.ChangeShapes Go.WideShapes Go.ChangeAt Go.RowKit

def set5 (w : World) (b : Nat) (v0 v1 v2 v3 v4 : Value) : World := ((((w.setCell ⟨b, 0, none⟩ v0).setCell ⟨b, 1, none⟩ v1).setCell ⟨b, 2, none⟩ v2).setCell ⟨b, 3, none⟩ v3).setCell ⟨b, 4, none⟩ v4
theorem undBytes : Tryz.prog.underlying 22 = some (.slice 5) := by kernel_rfl
theorem sizeU8 : (Tryz.prog.info? 5).map (·.size) = some 1 := by kernel_rfl
theorem run_copy5 (w : World) (b : Nat) (ty : TypeId) (id : ByteArray) (h : id.size = 5) (x0 x1 x2 x3 x4 : Value) (hr : Rf w b [x0, x1, x2, x3, x4]) :
    (Builtin.copy_ #[22, 9] ty #[.slice (some ⟨b, 0, none⟩) 5 5, .string id]).run Tryz.prog w = .ok (.int .i64 5) (set5 w b (u8 (kc id 0)) (u8 (kc id 1)) (u8 (kc id 2)) (u8 (kc id 3)) (u8 (kc id 4))) := by
  have hst := run_storeCells_cells (P := Tryz.prog) b 0 [u8 (kc id 0), u8 (kc id 1), u8 (kc id 2), u8 (kc id 3), u8 (kc id 4)] 0 w
    (fun j hj => by
      rw [show 0 + 0 + j = j by omega]
      have : j < ([x0, x1, x2, x3, x4] : List Value).length := hj
      rw [hr.at_ j _ (List.getElem?_eq_getElem this)]; rfl)
    (fun j hj => by rw [show 0 + 0 + j = j by omega]; exact hr.fz j)
    (by intro v hv; simp [u8] at hv; rcases hv with rfl | rfl | rfl | rfl | rfl <;> rfl)
  have hx : List.take 5 (List.map (fun b : UInt8 => Value.int .u8 (b.toNat : Int)) id.data.toList) = [u8 (kc id 0), u8 (kc id 1), u8 (kc id 2), u8 (kc id 3), u8 (kc id 4)] := by
    rw [kc_list h]
    rfl
  obtain ⟨i, hi, _⟩ : ∃ i, Tryz.prog.info? 5 = some i ∧ i.size = 1 := by
    have := sizeU8
    cases hq : Tryz.prog.info? 5 with
    | none => rw [hq] at this; cases this
    | some i => rw [hq] at this; exact ⟨i, rfl, by simpa using this⟩
  simp [Builtin.copy_, run_underlying undBytes, Builtin.lenOf, Builtin.firstCells, sizeOf, typeInfo, hi, h, hx, hst, set5, World.setCells, goInt]

end Go.Proofs.YtkgcpndnlefkoaaGreatDoor
/- The contracts of the program's shelf: put, find. No statement is proved here. -/
namespace Go.Proofs.YtkgcpndnlefkoaaGreatDoor
open Go.ChangeShapes Go.WideShapes Go.ChangeAt Go.RowKit

theorem Rf.five {w : World} {b k : Nat} {vs : List Value} (h : Rf w b vs) (hne : b ≠ k) (v0 v1 v2 v3 v4 : Value) : Rf (set5 w k v0 v1 v2 v3 v4) b vs :=
  ((((h.other (o := 0) hne v0).other (o := 1) hne v1).other (o := 2) hne v2).other (o := 3) hne v3).other (o := 4) hne v4
theorem Rf.fiveAt {w : World} {k : Nat} {x0 x1 x2 x3 x4 : Value} (h : Rf w k [x0, x1, x2, x3, x4]) (v0 v1 v2 v3 v4 : Value) : Rf (set5 w k v0 v1 v2 v3 v4) k [v0, v1, v2, v3, v4] :=
  ((((h.set (o := 0) (by simp) v0).set (o := 1) (by simp) v1).set (o := 2) (by simp) v2).set (o := 3) (by simp) v3).set (o := 4) (by simp) v4
theorem below5 {B k : Nat} {w0 w : World} (h : Below B w0 w) (hk : B ≤ k) (v0 v1 v2 v3 v4 : Value) : Below B w0 (set5 w k v0 v1 v2 v3 v4) :=
  ((((h.setCell (p := ⟨k, 0, none⟩) hk v0).setCell (p := ⟨k, 1, none⟩) hk v1).setCell (p := ⟨k, 2, none⟩) hk v2).setCell (p := ⟨k, 3, none⟩) hk v3).setCell (p := ⟨k, 4, none⟩) hk v4
def set3 (w : World) (b : Nat) (v0 v1 v2 : Value) : World := ((w.setCell ⟨b, 0, none⟩ v0).setCell ⟨b, 1, none⟩ v1).setCell ⟨b, 2, none⟩ v2
theorem Rf.three {w : World} {b k : Nat} {vs : List Value} (h : Rf w b vs) (hne : b ≠ k) (v0 v1 v2 : Value) : Rf (set3 w k v0 v1 v2) b vs :=
  ((h.other (o := 0) hne v0).other (o := 1) hne v1).other (o := 2) hne v2
theorem below3 {B k : Nat} {w0 w : World} (h : Below B w0 w) (hk : B ≤ k) (v0 v1 v2 : Value) : Below B w0 (set3 w k v0 v1 v2) :=
  ((h.setCell (p := ⟨k, 0, none⟩) hk v0).setCell (p := ⟨k, 1, none⟩) hk v1).setCell (p := ⟨k, 2, none⟩) hk v2
theorem Rf.grewM {w w' : World} {b : Nat} {vs : List Value} {row : Option Nat} (h : Rf w b vs) (hg : w.grownBy w' row) (hne : some b ≠ row) (hlt : b < w.heap.size) : Rf w' b vs :=
  ⟨fun k v hk => hg.cell (h.at_ k v hk) hne, fun k => by
    have e := hg.block b hlt hne
    have h1 := h.fz k
    unfold World.frozen? at h1 ⊢
    rw [e]; exact h1⟩
theorem Rf.drewM {w : World} {b : Nat} {vs : List Value} (h : Rf w b vs) : Rf w.drew b vs := ⟨fun k v hk => h.at_ k v hk, fun k => h.fz k⟩
theorem kv_ints (id : ByteArray) : ∃ n0 n1 n2 n3 n4 : Int, kv id = .agg #[.int .u8 n0, .int .u8 n1, .int .u8 n2, .int .u8 n3, .int .u8 n4] := ⟨_, _, _, _, _, rfl⟩

/-- Of the old blocks none but b and p has turned. -/
def PK (b p : Nat) (w w' : World) : Prop := ∀ k, k < w.heap.size → k ≠ b → k ≠ p → w'.heap[k]? = w.heap[k]?
theorem pk_set {b p o : Nat} {w w' : World} {v : Value} (h : PK b p w w') : PK b p w (w'.drew.setCell ⟨p, o, none⟩ v) := fun k hk hb hp =>
  (Below.heap_setCell w'.drew ⟨p, o, none⟩ v k (by simpa using hp)).trans (h k hk hb hp)
end Go.Proofs.YtkgcpndnlefkoaaGreatDoor
