/- Plain mathematics and small laws for this seat's proofs: lists of bytes, digests. No statement is proved here. -/
import Derived.WalkKit
import Derived.ProofKit
import Derived.Below
namespace Go.Proofs.Ythgoimdlhgdnoag
open Go.ChangeShapes Go.WideShapes Go.ChangeAt Go.RowKit

theorem ret_int {k : IntKind} {a b : Int} (h : a = b) : Ending.returned (.int k a) = .returned (.int k b) := by rw [h]
theorem ret_bool {a b : Bool} (h : a = b) : Ending.returned (.bool a) = .returned (.bool b) := by rw [h]
theorem take_snoc (s : ByteArray) (k : Nat) (h : k < s.size) : s.data.toList.take (k + 1) = s.data.toList.take k ++ [s[k]] := by
  rw [List.take_succ_eq_append_getElem (by simpa using h)]; rfl
theorem byte_bd (c : UInt8) : 0 ≤ (c.toNat : Int) ∧ (c.toNat : Int) ≤ 255 := by have := c.toNat_lt; omega

/-- The digest of a list of bytes, as the document tells it. -/
def dig (l : List UInt8) : Int := l.foldl (fun h c => (h * 131 + (c.toNat : Int)) % 65521) 7
theorem dig_bd_from (l : List UInt8) : ∀ h : Int, 0 ≤ h → h < 65521 → 0 ≤ l.foldl (fun h c => (h * 131 + (c.toNat : Int)) % 65521) h ∧ l.foldl (fun h c => (h * 131 + (c.toNat : Int)) % 65521) h < 65521 := by
  induction l with
  | nil => intro h a b; exact ⟨a, b⟩
  | cons c l ih => intro h a b; rw [List.foldl_cons]; exact ih _ (by omega) (by omega)
theorem dig_bd (l : List UInt8) : 0 ≤ dig l ∧ dig l < 65521 := dig_bd_from l 7 (by omega) (by omega)
theorem dig_snoc (l : List UInt8) (c : UInt8) : dig (l ++ [c]) = (dig l * 131 + (c.toNat : Int)) % 65521 := by
  unfold dig; rw [List.foldl_append]; rfl
end Go.Proofs.Ythgoimdlhgdnoag
