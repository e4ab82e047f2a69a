/- Plain mathematics and small laws for this seat's proofs: lists of bytes, digests. No statement is proved here. -/
import Derived.WalkKit
import Derived.ProofKit
import Derived.Below
import Derived.Lib.Bytealg
namespace Go.Proofs.Ytibdlfojoafloaa
open Go.ChangeShapes Go.WideShapes Go.ChangeAt Go.RowKit

theorem ret_int {k : IntKind} {a b : Int} (h : a = b) : Ending.returned (.int k a) = .returned (.int k b) := by rw [h]
theorem ret_bool {a b : Bool} (h : a = b) : Ending.returned (.bool a) = .returned (.bool b) := by rw [h]
theorem take_snoc (s : ByteArray) (k : Nat) (h : k < s.size) : s.data.toList.take (k + 1) = s.data.toList.take k ++ [s[k]] := by
  rw [List.take_succ_eq_append_getElem (by simpa using h)]; rfl
theorem byte_bd (c : UInt8) : 0 ≤ (c.toNat : Int) ∧ (c.toNat : Int) ≤ 255 := by have := c.toNat_lt; omega

theorem bytes_inj2 {a b : ByteArray} (h : a.toList = b.toList) : a = b := by
  rw [ByteArray.toList_eq, ByteArray.toList_eq] at h
  exact WideShapes.bytes_inj h
theorem beq_bytes_false {a b : ByteArray} (h : ¬ a = b) : (a.toList == b.toList) = false := by
  cases e : (a.toList == b.toList) with
  | false => rfl
  | true => exact absurd (bytes_inj2 (by simpa using e)) h
theorem beq_bytes_true {a b : ByteArray} (h : a = b) : (a.toList == b.toList) = true := by rw [h]; simp
/-- The digest of a list of bytes, as the document tells it. -/
def dig (l : List UInt8) : Int := l.foldl (fun h c => (h * 131 + (c.toNat : Int)) % 65521) 7
theorem dig_bd_from (l : List UInt8) : ∀ h : Int, 0 ≤ h → h < 65521 → 0 ≤ l.foldl (fun h c => (h * 131 + (c.toNat : Int)) % 65521) h ∧ l.foldl (fun h c => (h * 131 + (c.toNat : Int)) % 65521) h < 65521 := by
  induction l with
  | nil => intro h a b; exact ⟨a, b⟩
  | cons c l ih => intro h a b; rw [List.foldl_cons]; exact ih _ (by omega) (by omega)
theorem dig_bd (l : List UInt8) : 0 ≤ dig l ∧ dig l < 65521 := dig_bd_from l 7 (by omega) (by omega)
theorem dig_snoc (l : List UInt8) (c : UInt8) : dig (l ++ [c]) = (dig l * 131 + (c.toNat : Int)) % 65521 := by
  unfold dig; rw [List.foldl_append]; rfl
/-- Where a byte is first found: not below 0 just where the list has it. -/
theorem indexByte_mem (l : List UInt8) (c : UInt8) : 0 ≤ Lib.indexByte l c ↔ c ∈ l := by
  induction l with
  | nil => simp [Lib.indexByte]
  | cons b l ih =>
    have hg := Lib.indexByte_ge l c
    unfold Lib.indexByte
    by_cases hb : (b == c) = true
    · have : b = c := by simpa using hb
      simp [this]
    · have hne : ¬ c = b := by intro h; exact hb (by simp [h])
      have hb' : (b == c) = false := by simpa using hb
      simp only [hb', Bool.false_eq_true, if_false, List.mem_cons, hne, false_or, ← ih]
      by_cases h1 : (Lib.indexByte l c == -1) = true
      · have : Lib.indexByte l c = -1 := by simpa using h1
        simp [this]
      · have h2 : ¬ Lib.indexByte l c = -1 := by simpa using h1
        simp only [h1, if_false, Bool.false_eq_true]
        omega
end Go.Proofs.Ytibdlfojoafloaa
