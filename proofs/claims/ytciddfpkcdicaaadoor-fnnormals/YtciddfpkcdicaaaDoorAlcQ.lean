/- A new table of the program's: all its cells are zero. No statement is proved here. -/
import Derived.Test.YtciddfpkcdicaaaDoorRows
import Derived.Test.YtciddfpkcdicaaaDoorDTabQ
import Derived.WalkKit
import Derived.ProofKit
import Derived.Below
import Derived.OwnWalk
namespace Go.Proofs.YtciddfpkcdicaaaDoor
open Go.ChangeShapes Go.WideShapes Go.ChangeAt Go.RowKit

def isZ : Value → Bool
  | .int .i64 n => n == 0
  | _ => false
def isF : Value → Bool
  | .bool b => !b
  | _ => false
theorem isZ_eq {v : Value} (h : isZ v = true) : v = .int .i64 0 := by
  unfold isZ at h
  split at h
  · rw [eq_of_beq h]
  · cases h
theorem isF_eq {v : Value} (h : isF v = true) : v = .bool false := by
  unfold isF at h
  split at h
  · simp at h; rw [h]
  · cases h
def tabCheck : Option Value → Bool
  | some (.agg Z) => (Z.size == 10202) && ((Z.toList.take 202).all isZ && (Z.toList.drop 202).all isF)
  | _ => false
theorem tableInfo : (Tryd.prog.info? 118).map (fun i => tabCheck i.zero) = some true := by kernel_rfl
theorem tableZero : ∃ (i : TypeInfo) (Z : Array Value), Tryd.prog.info? 118 = some i ∧ i.zero = some (.agg Z) ∧ (∀ k, k < 202 → Z[k]? = some (.int .i64 0)) ∧ (∀ k, 202 ≤ k → k < 10202 → Z[k]? = some (.bool false)) := by
  have h := tableInfo
  rcases e : Tryd.prog.info? 118 with _ | i
  · rw [e] at h; cases h
  · rw [e] at h
    simp only [Option.map_some, Option.some.injEq] at h
    unfold tabCheck at h
    split at h
    · rename_i Z hz
      simp only [Bool.and_eq_true] at h
      obtain ⟨h1, h2, h3⟩ := h
      have hs : Z.size = 10202 := eq_of_beq h1
      rw [List.all_eq_true] at h2 h3
      refine ⟨i, Z, rfl, hz, ?_, ?_⟩
      · intro k hk
        rw [Array.getElem?_eq_getElem (by omega)]
        refine congrArg some (isZ_eq ?_)
        apply h2
        rw [List.mem_take_iff_getElem]
        exact ⟨k, by simp; omega, by simp⟩
      · intro k hk hk2
        rw [Array.getElem?_eq_getElem (by omega)]
        refine congrArg some (isF_eq ?_)
        apply h3
        rw [List.mem_drop_iff_getElem]
        exact ⟨k - 202, by simp; omega, by simp [show 202 + (k - 202) = k by omega]⟩
    · cases h

/-- 'var table diffTable'. -/
theorem wpList_table {w : World} {ops : Array Oper} {rest : List Oper} {o : Oper} {a : Act} {Q : Exit → Act → World → Prop} (hgd : o.guard = none) (ho : o.op = .alloc 118)
    (h : ∀ w', DT w' w.heap.size (fun _ _ => 0) (fun _ _ => false) → Below w.heap.size w w' → Hid (w'.heap.size = w.heap.size + 1) → wpList Tryd.prog ops Q rest (a.put o.dst (.pointer (some ⟨w.heap.size, 0, none⟩))) w') :
    wpList Tryd.prog ops Q (o :: rest) a w := by
  obtain ⟨i, Z, hi, hz, h1, h2⟩ := tableZero
  refine wpList_plain hgd fun K hK => ?_
  have hrun : (Instr.alloc 118 true (.tuple #[])).run Tryd.prog w = .ok (.pointer (some ⟨w.heap.size, 0, none⟩)) (w.alloc (.cells Z 118)) := by
    have hv : (zeroValue 118).run Tryd.prog w = .ok (.agg Z) w := by
      simp [zeroValue, typeInfo, hi, hz]
    simp [Instr.alloc, hv, newVar, newRow, Value.cells]
  unfold Oper.wp
  simp [execOp, ho, hrun, Result.andThen]
  refine hK _ _ (h _ ?_ ((Below.refl _ _).alloc (Nat.le_refl _) _) (by show _ = _; simp))
  have hb := heap_alloc_new w (.cells Z 118)
  have hf : ∀ o, (w.alloc (.cells Z 118)).frozen? ⟨w.heap.size, o, none⟩ = false := fun o => by unfold World.frozen?; rw [hb]; simp
  refine ⟨fun r j hr hj => ⟨?_, hf _⟩, fun i j hi hj => ⟨?_, hf _⟩⟩
  · rw [cell_of_row _ _ _ _ _ _ hb]; exact h1 _ (by omega)
  · rw [cell_of_row _ _ _ _ _ _ hb]; exact h2 _ (by omega) (by omega)
end Go.Proofs.YtciddfpkcdicaaaDoor
