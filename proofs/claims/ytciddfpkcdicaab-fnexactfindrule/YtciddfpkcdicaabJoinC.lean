/- All strings behind one another; the contract of spec.l1Join. No statement is proved here. -/
import Derived.Test.YtciddfpkcdicaabRows
import Derived.Test.YtciddfpkcdicaabLem
import Derived.Test.YtciddfpkcdicaabStrs
import Derived.Test.YtciddfpkcdicaabLFLem
import Derived.Test.YtciddfpkcdicaabLF
import Derived.WalkKit
import Derived.ProofKit
import Derived.Below
import Derived.WalkSpells
import Derived.Laws.Concat
namespace Go.Proofs.Ytciddfpkcdicaab
open Go.ChangeShapes Go.WideShapes Go.ChangeAt Go.RowKit

/-- All strings behind one another. -/
def catL (ss : List ByteArray) : List UInt8 := ss.flatMap fun s => s.data.toList
def catB (ss : List ByteArray) : ByteArray := ⟨(catL ss).toArray⟩
theorem catL_take (ss : List ByteArray) (k : Nat) (h : k < ss.length) : catL (ss.take (k + 1)) = catL (ss.take k) ++ (ss.getD k ByteArray.empty).data.toList := by
  unfold catL
  rw [List.take_succ_eq_append_getElem h, List.flatMap_append, getD_at ss k h]
  simp
theorem catL_length (ss : List ByteArray) : ((catL ss).length : Int) = tot ss := by
  unfold catL tot
  induction ss with
  | nil => simp
  | cons s ss ih => simp only [List.flatMap_cons, List.length_append, List.map_cons, List.sum_cons, ← ih]; simp
theorem catB_size (ss : List ByteArray) : ((catB ss).size : Int) = tot ss := by
  rw [← catL_length]; rfl
theorem bytes_ext {a b : ByteArray} (h : a.data.toList = b.data.toList) : a = b := WideShapes.bytes_inj h
theorem catB_take (ss : List ByteArray) (k : Nat) (h : k < ss.length) : catB (ss.take (k + 1)) = catB (ss.take k) ++ ss.getD k ByteArray.empty := by
  apply bytes_ext
  rw [show (catB (ss.take (k + 1))).data.toList = catL (ss.take (k + 1)) from rfl, catL_take ss k h, ByteArray.data_append, Array.toList_append]
  rfl

end Go.Proofs.Ytciddfpkcdicaab
