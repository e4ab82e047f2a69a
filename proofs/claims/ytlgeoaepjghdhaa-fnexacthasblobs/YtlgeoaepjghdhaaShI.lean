/- The contracts of the program's shelf: keyOf, cloneObject, put, find. No statement is proved here. -/
import Derived.Test.YtlgeoaepjghdhaaRows
import Derived.Test.YtlgeoaepjghdhaaLem
import Derived.Test.YtlgeoaepjghdhaaStrs
import Derived.Test.YtlgeoaepjghdhaaDTab
import Derived.Test.YtlgeoaepjghdhaaOwn
import Derived.Test.YtlgeoaepjghdhaaFr
import Derived.Test.YtlgeoaepjghdhaaHkT
import Derived.Test.YtlgeoaepjghdhaaObL
import Derived.Test.YtlgeoaepjghdhaaSfC
import Derived.Test.YtlgeoaepjghdhaaShM
import Derived.WalkKit
import Derived.ProofKit
import Derived.Below
import Derived.WalkSpells
import Derived.Laws.IdiomCopy
import Derived.Laws.Cover1
import Derived.Defers
namespace Go.Proofs.Ytlgeoaepjghdhaa
open Go.ChangeShapes Go.WideShapes Go.ChangeAt Go.RowKit

def set5 (w : World) (b : Nat) (v0 v1 v2 v3 v4 : Value) : World := ((((w.setCell ⟨b, 0, none⟩ v0).setCell ⟨b, 1, none⟩ v1).setCell ⟨b, 2, none⟩ v2).setCell ⟨b, 3, none⟩ v3).setCell ⟨b, 4, none⟩ v4
theorem undBytes : Try.prog.underlying 124 = some (.slice 5) := by kernel_rfl
theorem sizeU8 : (Try.prog.info? 5).map (·.size) = some 1 := by kernel_rfl
theorem run_copy5 (w : World) (b : Nat) (ty : TypeId) (id : ByteArray) (h : id.size = 5) (x0 x1 x2 x3 x4 : Value) (hr : Rf w b [x0, x1, x2, x3, x4]) :
    (Builtin.copy_ #[124, 9] ty #[.slice (some ⟨b, 0, none⟩) 5 5, .string id]).run Try.prog w = .ok (.int .i64 5) (set5 w b (u8 (kc id 0)) (u8 (kc id 1)) (u8 (kc id 2)) (u8 (kc id 3)) (u8 (kc id 4))) := by
  have hst := run_storeCells_cells (P := Try.prog) b 0 [u8 (kc id 0), u8 (kc id 1), u8 (kc id 2), u8 (kc id 3), u8 (kc id 4)] 0 w
    (fun j hj => by
      rw [show 0 + 0 + j = j by omega]
      have : j < ([x0, x1, x2, x3, x4] : List Value).length := hj
      rw [hr.at_ j _ (List.getElem?_eq_getElem this)]; rfl)
    (fun j hj => by rw [show 0 + 0 + j = j by omega]; exact hr.fz j)
    (by intro v hv; simp [u8] at hv; rcases hv with rfl | rfl | rfl | rfl | rfl <;> rfl)
  have hx : List.take 5 (List.map (fun b : UInt8 => Value.int .u8 (b.toNat : Int)) id.data.toList) = [u8 (kc id 0), u8 (kc id 1), u8 (kc id 2), u8 (kc id 3), u8 (kc id 4)] := by
    rw [kc_list h]
    rfl
  obtain ⟨i, hi, _⟩ : ∃ i, Try.prog.info? 5 = some i ∧ i.size = 1 := by
    have := sizeU8
    cases hq : Try.prog.info? 5 with
    | none => rw [hq] at this; cases this
    | some i => rw [hq] at this; exact ⟨i, rfl, by simpa using this⟩
  simp [Builtin.copy_, run_underlying undBytes, Builtin.lenOf, Builtin.firstCells, sizeOf, typeInfo, hi, h, hx, hst, set5, World.setCells, goInt]

set_option maxRecDepth 20000 in
set_option maxHeartbeats 1000000 in
theorem keyOfC (id : ByteArray) (w : World) (h : id.size = 5) : Calls Try.prog 116 #[.string id] w fun e w' => e = .returned (kv id) ∧ Below w.heap.size w w' := by
  obtain ⟨W1, hW1⟩ : ∃ W, w.alloc (.cells #[.int .u8 0, .int .u8 0, .int .u8 0, .int .u8 0, .int .u8 0] 173) = W := ⟨_, rfl⟩
  have b1 : Below w.heap.size w W1 := by rw [← hW1]; exact allocBelow _ _
  have z1 : W1.heap.size = w.heap.size + 1 := by rw [← hW1]; simp
  have r1 : Rf W1 w.heap.size [.int .u8 0, .int .u8 0, .int .u8 0, .int .u8 0, .int .u8 0] := by rw [← hW1]; exact Rf.new _ _ _
  obtain ⟨W2, hW2⟩ : ∃ W, W1.alloc (.cells #[.int .u8 0, .int .u8 0, .int .u8 0, .int .u8 0, .int .u8 0] 173) = W := ⟨_, rfl⟩
  have b2 : Below W1.heap.size W1 W2 := by rw [← hW2]; exact allocBelow _ _
  have z2 : W2.heap.size = w.heap.size + 2 := by rw [← hW2]; simp; omega
  have r2 : Rf W2 (w.heap.size + 1) [.int .u8 0, .int .u8 0, .int .u8 0, .int .u8 0, .int .u8 0] := by rw [← hW2, ← z1]; exact Rf.new _ _ _
  have r1' := r1.below (by omega) b2
  have hC := fun ty => run_copy5 W2 (w.heap.size + 1) ty id h _ _ _ _ _ r2
  obtain ⟨n0, e0⟩ : ∃ n : Int, u8 (kc id 0) = .int .u8 n := ⟨_, rfl⟩
  obtain ⟨n1, e1⟩ : ∃ n : Int, u8 (kc id 1) = .int .u8 n := ⟨_, rfl⟩
  obtain ⟨n2, e2⟩ : ∃ n : Int, u8 (kc id 2) = .int .u8 n := ⟨_, rfl⟩
  obtain ⟨n3, e3⟩ : ∃ n : Int, u8 (kc id 3) = .int .u8 n := ⟨_, rfl⟩
  obtain ⟨n4, e4⟩ : ∃ n : Int, u8 (kc id 4) = .int .u8 n := ⟨_, rfl⟩
  have HK : Hid (kv id = .agg #[.int .u8 n0, .int .u8 n1, .int .u8 n2, .int .u8 n3, .int .u8 n4]) := by show _ = _; rw [← e0, ← e1, ← e2, ← e3, ← e4]; rfl
  rw [e0, e1, e2, e3, e4] at hC
  clear e0 e1 e2 e3 e4
  have R2 : Rf (set5 W2 (w.heap.size + 1) (.int .u8 n0) (.int .u8 n1) (.int .u8 n2) (.int .u8 n3) (.int .u8 n4)) (w.heap.size + 1) [(.int .u8 n0), (.int .u8 n1), (.int .u8 n2), (.int .u8 n3), (.int .u8 n4)] := ((((r2.set (o := 0) (by simp) (.int .u8 n0)).set (o := 1) (by simp) (.int .u8 n1)).set (o := 2) (by simp) (.int .u8 n2)).set (o := 3) (by simp) (.int .u8 n3)).set (o := 4) (by simp) (.int .u8 n4)
  have R1 : Rf (set5 W2 (w.heap.size + 1) (.int .u8 n0) (.int .u8 n1) (.int .u8 n2) (.int .u8 n3) (.int .u8 n4)) w.heap.size [.int .u8 0, .int .u8 0, .int .u8 0, .int .u8 0, .int .u8 0] := ((((r1'.other (o := 0) (by omega) (.int .u8 n0)).other (o := 1) (by omega) (.int .u8 n1)).other (o := 2) (by omega) (.int .u8 n2)).other (o := 3) (by omega) (.int .u8 n3)).other (o := 4) (by omega) (.int .u8 n4)
  have B2 : Below w.heap.size w (set5 W2 (w.heap.size + 1) (.int .u8 n0) (.int .u8 n1) (.int .u8 n2) (.int .u8 n3) (.int .u8 n4)) := (((((b1.trans (b2.mono (by omega))).setCell (p := ⟨w.heap.size + 1, 0, none⟩) (Nat.le_succ _) (.int .u8 n0)).setCell (p := ⟨w.heap.size + 1, 1, none⟩) (Nat.le_succ _) (.int .u8 n1)).setCell (p := ⟨w.heap.size + 1, 2, none⟩) (Nat.le_succ _) (.int .u8 n2)).setCell (p := ⟨w.heap.size + 1, 3, none⟩) (Nat.le_succ _) (.int .u8 n3)).setCell (p := ⟨w.heap.size + 1, 4, none⟩) (Nat.le_succ _) (.int .u8 n4)
  obtain ⟨W3, hW3⟩ : ∃ W, set5 W2 (w.heap.size + 1) (.int .u8 n0) (.int .u8 n1) (.int .u8 n2) (.int .u8 n3) (.int .u8 n4) = W := ⟨_, rfl⟩
  rw [hW3] at hC R2 R1 B2
  have HB : Hid (Below w.heap.size w (set5 W3 w.heap.size (.int .u8 n0) (.int .u8 n1) (.int .u8 n2) (.int .u8 n3) (.int .u8 n4))) := ((((B2.setCell (p := ⟨w.heap.size, 0, none⟩) (Nat.le_refl _) (.int .u8 n0)).setCell (p := ⟨w.heap.size, 1, none⟩) (Nat.le_refl _) (.int .u8 n1)).setCell (p := ⟨w.heap.size, 2, none⟩) (Nat.le_refl _) (.int .u8 n2)).setCell (p := ⟨w.heap.size, 3, none⟩) (Nat.le_refl _) (.int .u8 n3)).setCell (p := ⟨w.heap.size, 4, none⟩) (Nat.le_refl _) (.int .u8 n4)
  have d0 := R1.at_ 0 _ rfl
  have d1 := R1.at_ 1 _ rfl
  have d2 := R1.at_ 2 _ rfl
  have d3 := R1.at_ 3 _ rfl
  have d4 := R1.at_ 4 _ rfl
  have f0 := R1.fz 0
  have f1 := R1.fz 1
  have f2 := R1.fz 2
  have f3 := R1.fz 3
  have f4 := R1.fz 4
  have k0 := R2.at_ 0 _ rfl
  have k1 := R2.at_ 1 _ rfl
  have k2 := R2.at_ 2 _ rfl
  have k3 := R2.at_ 3 _ rfl
  have k4 := R2.at_ 4 _ rfl
  clear R1 R2 r1 r2 r1' B2 b1 b2 hW3
  go_enter Try.func116, Try.ntmps116
  go_wp2
  refine bodyPost_ret (v := .agg #[.int .u8 n0, .int .u8 n1, .int .u8 n2, .int .u8 n3, .int .u8 n4]) (by simp [results, Try.results116, go_sem, d0, d1, d2, d3, d4]) rfl ?_
  exact ⟨by rw [HK.out], HB.out⟩
end Go.Proofs.Ytlgeoaepjghdhaa
