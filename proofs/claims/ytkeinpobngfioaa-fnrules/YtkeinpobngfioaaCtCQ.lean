/- The contracts of what ClashText calls. No statement is proved here. -/
import Derived.Test.YtkeinpobngfioaaRows
import Derived.Test.YtkeinpobngfioaaLemQ
import Derived.Test.YtkeinpobngfioaaLFLemQ
import Derived.Test.YtkeinpobngfioaaHkTQ
import Derived.Test.YtkeinpobngfioaaDTabQ
import Derived.Test.YtkeinpobngfioaaBldQ
import Derived.Test.YtkeinpobngfioaaCkLQ
import Derived.Test.YtkeinpobngfioaaCkCQ
import Derived.Test.YtkeinpobngfioaaCkBQ
import Derived.Test.YtkeinpobngfioaaRtMQ
import Derived.WalkKit
import Derived.ProofKit
import Derived.Below
import Derived.WalkSpells
import Derived.Laws.Concat
import Derived.Deep.QuietTactic
import Derived.BigQuiet
namespace Go.Proofs.Ytkeinpobngfioaa
open Go.ChangeShapes Go.WideShapes Go.ChangeAt Go.RowKit

theorem last_split {l : List UInt8} (h : l ≠ []) : ∃ t x, l = t ++ [x] := ⟨l.dropLast, l.getLast h, (List.dropLast_concat_getLast h).symm⟩
theorem dataPos {s : ByteArray} (hp : 0 < s.size) : s.data.toList ≠ [] := fun h => by
  have h1 : s.data.toList.length = 0 := by rw [h]; rfl
  have h2 : s.data.toList.length = s.size := by simp
  omega
theorem endsL_snoc (t : List UInt8) (x : UInt8) : endsL (t ++ [x]) = decide (x = 10) := by
  unfold endsL
  rw [List.getLast?_append]
  simp
theorem lastByte (s : ByteArray) (hp : 0 < s.size) : ((s.extract (s.size - 1) s.size).toList == [10]) = endsL s.data.toList := by
  have e : (s.extract (s.size - 1) s.size).toList = s.data.toList.drop (s.data.toList.length - 1) := by
    rw [ByteArray.toList_eq, ByteArray.data_extract, Array.toList_extract]
    simp only [List.extract]
    rw [List.take_of_length_le (by simp)]
    simp
  rw [e]
  obtain ⟨t, x, hx⟩ := last_split (dataPos hp)
  rw [hx, endsL_snoc, show (t ++ [x]).drop ((t ++ [x]).length - 1) = [x] by simp]
  by_cases h : x = 10
  · subst h; rfl
  · rw [decide_eq_false h]
    simp [h]

theorem bytesOf (l : List UInt8) (s : ByteArray) : (⟨l.toArray⟩ : ByteArray) ++ s = ⟨(l ++ s.data.toList).toArray⟩ := by
  apply WideShapes.bytes_inj
  rw [ByteArray.data_append, Array.toList_append]
theorem lastIdx (s : ByteArray) (hp : 0 < s.size) : (((s[s.size - 1]'(by omega)).toNat : Int) != 10) = !endsL s.data.toList := by
  obtain ⟨t, x, hx⟩ := last_split (dataPos hp)
  have h1 : s[s.size - 1]'(by omega) = x := by
    have h2 : s.data.toList.length = s.size := by simp
    have h3 : s.data.toList[s.size - 1]? = some x := by
      rw [← h2, hx]; simp
    have h4 : s.data.toList[s.size - 1]? = some (s[s.size - 1]'(by omega)) := by
      rw [List.getElem?_eq_getElem (by omega)]; rfl
    rw [h3] at h4
    exact (Option.some.inj h4).symm
  rw [h1, hx, endsL_snoc]
  by_cases h : x = 10
  · subst h; rfl
  · rw [decide_eq_false h]
    have : ¬ (x.toNat : Int) = 10 := fun e => h (by
      apply UInt8.toNat_inj.1
      have : x.toNat = 10 := by omega
      rw [this]; rfl)
    simp [this]

end Go.Proofs.Ytkeinpobngfioaa
/- The contract of impl.writeParts. No statement is proved here. -/
namespace Go.Proofs.Ytkeinpobngfioaa
open Go.ChangeShapes Go.WideShapes Go.ChangeAt Go.RowKit

theorem cellsApp (l : List UInt8) (s : ByteArray) : Lib.byteCells l ++ Lib.strCells s = Lib.byteCells (l ++ s.data.toList) := by
  unfold Lib.byteCells Lib.strCells
  rw [List.map_append]
theorem cellsLF (l : List UInt8) : Lib.byteCells l ++ [.int .u8 10] = Lib.byteCells (l ++ [10]) := by
  unfold Lib.byteCells
  rw [List.map_append]
  rfl
end Go.Proofs.Ytkeinpobngfioaa
