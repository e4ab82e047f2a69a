/- Plain mathematics of ids. No statement is proved here. -/
import Derived.Test.YtibdlfojoafloaaLem
namespace Go.Proofs.Ytibdlfojoafloaa
open Go.RowKit

def isHex (c : UInt8) : Bool := decide (48 ≤ (c.toNat : Int) ∧ (c.toNat : Int) ≤ 57 ∨ 97 ≤ (c.toNat : Int) ∧ (c.toNat : Int) ≤ 102)
def isLet (c : UInt8) : Bool := decide ((c.toNat : Int) = 98 ∨ (c.toNat : Int) = 116 ∨ (c.toNat : Int) = 99)
/-- An id: a letter and four digits. -/
def idB (l : List UInt8) : Bool := match l with
  | [a, b, c, d, e] => isLet a && (isHex b && (isHex c && (isHex d && isHex e)))
  | _ => false
theorem idB_len {l : List UInt8} (h : ¬ l.length = 5) : idB l = false := by
  match l with
  | [] | [_] | [_, _] | [_, _, _] | [_, _, _, _] => rfl
  | [_, _, _, _, _] => exact absurd rfl h
  | _ :: _ :: _ :: _ :: _ :: _ :: _ => rfl
theorem five {l : List UInt8} (h : l.length = 5) : ∃ a b c d e, l = [a, b, c, d, e] := by
  match l with
  | [a, b, c, d, e] => exact ⟨a, b, c, d, e, rfl⟩
theorem idB_let {l : List UInt8} (h : l.length = 5) (hx : isLet (l[0]'(by omega)) = false) : idB l = false := by
  obtain ⟨a, b, c, d, e, rfl⟩ := five h
  have : isLet a = false := hx
  simp [idB, this]
theorem idB_hex {l : List UInt8} (h : l.length = 5) (k : Nat) (h1 : 1 ≤ k) (h5 : k < 5) (hx : isHex (l[k]'(by omega)) = false) : idB l = false := by
  obtain ⟨a, b, c, d, e, rfl⟩ := five h
  have hk : k = 1 ∨ k = 2 ∨ k = 3 ∨ k = 4 := by omega
  rcases hk with rfl | rfl | rfl | rfl
  · have : isHex b = false := hx
    simp [idB, this]
  · have : isHex c = false := hx
    simp [idB, this]
  · have : isHex d = false := hx
    simp [idB, this]
  · have : isHex e = false := hx
    simp [idB, this]
/-- The letter and the digits below a place are right. -/
def idUp (l : List UInt8) (k : Nat) : Prop := isLet (l.getD 0 0) = true ∧ ∀ j, 1 ≤ j → j < k → isHex (l.getD j 0) = true
theorem idUp_full {l : List UInt8} (h : l.length = 5) (hu : idUp l 5) : idB l = true := by
  obtain ⟨a, b, c, d, e, rfl⟩ := five h
  obtain ⟨h0, hj⟩ := hu
  have h0 : isLet a = true := h0
  have h1 : isHex b = true := hj 1 (by omega) (by omega)
  have h2 : isHex c = true := hj 2 (by omega) (by omega)
  have h3 : isHex d = true := hj 3 (by omega) (by omega)
  have h4 : isHex e = true := hj 4 (by omega) (by omega)
  simp [idB, h0, h1, h2, h3, h4]
theorem idUp_next {l : List UInt8} {k : Nat} (h : idUp l k) (hk : isHex (l.getD k 0) = true) : idUp l (k + 1) := ⟨h.1, fun j h1 h2 => by
  by_cases e : j = k
  · rw [e]; exact hk
  · exact h.2 j h1 (by omega)⟩
theorem all_bytes {P : UInt8 → Prop} (h : ∀ n : Fin 256, P (UInt8.ofNat n.val)) (c : UInt8) : P c := by
  have := h ⟨c.toNat, c.toNat_lt⟩
  simpa using this
theorem mem_let (c : UInt8) : (c ∈ ([98, 116, 99] : List UInt8)) ↔ isLet c = true :=
  all_bytes (P := fun c => (c ∈ ([98, 116, 99] : List UInt8)) ↔ isLet c = true) (by decide +kernel) c
theorem mem_hex (c : UInt8) : (c ∈ ([48, 49, 50, 51, 52, 53, 54, 55, 56, 57, 97, 98, 99, 100, 101, 102] : List UInt8)) ↔ isHex c = true :=
  all_bytes (P := fun c => (c ∈ ([48, 49, 50, 51, 52, 53, 54, 55, 56, 57, 97, 98, 99, 100, 101, 102] : List UInt8)) ↔ isHex c = true) (by decide +kernel) c
theorem toByte (c : UInt8) : ((c.toNat : Int).toNat.toUInt8) = c := by simp
end Go.Proofs.Ytibdlfojoafloaa
