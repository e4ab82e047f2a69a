/- The contracts of isNote and l6Note. No statement is proved here. -/
import Derived.Test.YtgidcncmicmggamGreatDoorRows
import Derived.Test.YtgidcncmicmggamGreatDoorLem
import Derived.Test.YtgidcncmicmggamGreatDoorDTab
import Derived.WalkKit
import Derived.ProofKit
import Derived.Below
import Derived.WalkSpells
import Derived.Deep.QuietTactic
import Derived.BigQuiet
namespace Go.Proofs.YtgidcncmicmggamGreatDoor
open Go.ChangeShapes Go.WideShapes Go.ChangeAt Go.RowKit

/-- A byte of a note; what a note is. -/
def ntB (c : UInt8) : Prop := 32 ≤ c.toNat ∧ c.toNat ≤ 126
def nt (s : ByteArray) : Bool := decide (s.size ≤ 60 ∧ ∀ k, (h : k < s.size) → 32 ≤ s[k].toNat ∧ s[k].toNat ≤ 126)
theorem nt_long {s : ByteArray} (h : 60 < s.size) : nt s = false := decide_eq_false (fun k => by have := k.1; omega)
theorem nt_byte {s : ByteArray} {k : Nat} (hk : k < s.size) (h : ¬ ntB s[k]) : nt s = false := decide_eq_false (fun q => h (q.2 k hk))
theorem nt_ok {s : ByteArray} (h1 : ¬ 60 < s.size) (h : ∀ k, (h : k < s.size) → ntB s[k]) : nt s = true := decide_eq_true ⟨by omega, h⟩
theorem nt_size {s : ByteArray} (h : nt s = true) : s.size ≤ 60 := (of_decide_eq_true h).1
theorem ret_bool' {b c : Bool} (h : b = c) : Ending.returned (.bool b) = .returned (.bool c) := by rw [h]
set_option maxHeartbeats 1000000 in
theorem l6Note (s : ByteArray) (w : World) :
    Calls Tryz.prog 97 #[.string s] w fun e w' => e = .returned (.bool (nt s)) ∧ w' = w := by
  by_cases h2 : 60 < s.size
  · have HR : Hid (nt s = false) := nt_long h2
    have q2 : (60 : Int) < (s.size : Int) := by omega
    clear h2
    go_enter Tryz.func97, Tryz.ntmps97
    go_wp2
    go_ret
    exact ⟨ret_bool' HR.out.symm, rfl⟩
  have q2 : ¬ (60 : Int) < (s.size : Int) := by omega
  have HB : ∀ k, (h : k < s.size) → ¬ ntB s[k] → Hid (nt s = false) := fun k hk h => nt_byte hk h
  have HG : (∀ k, (h : k < s.size) → ntB s[k]) → Hid (nt s = true) := fun h => nt_ok h2 h
  clear h2
  go_enter Tryz.func97, Tryz.ntmps97
  go_wp2
  go_loop [3] (fun i => ∃ k : Nat, k ≤ s.size ∧ i = .int .i64 k ∧ Hid (∀ j, (h : j < s.size) → j < k → ntB s[j])) (fun i => s.size - (intOf i).toNat)
  case atStart => exact ⟨0, by omega, rfl, fun j _ hj => by omega⟩
  case round =>
    obtain ⟨k, hk, rfl, hn⟩ := hrel
    by_cases hlt : k < s.size
    · have hkI : (k : Int) < (s.size : Int) := by omega
      have hb := HB k hlt
      have hgo : ntB s[k] → Hid (∀ j, (h : j < s.size) → j < k + 1 → ntB s[j]) := fun e j hj h1 => by
        by_cases ej : j = k
        · subst ej; exact e
        · exact hn.out j hj (by omega)
      clear HB HG hn
      by_cases e1 : (s[k].toNat : Int) < 32
      · have HR := hb (fun q => by have := q.1; omega)
        clear hb hgo
        go_wp2
        go_ret
        exact ⟨ret_bool' HR.out.symm, rfl⟩
      by_cases e2 : (126 : Int) < (s[k].toNat : Int)
      · have HR := hb (fun q => by have := q.2; omega)
        clear hb hgo
        go_wp2
        go_ret
        exact ⟨ret_bool' HR.out.symm, rfl⟩
      have HN := hgo ⟨by omega, by omega⟩
      clear hb hgo
      go_wp2
      go_round
      case rel => exact ⟨k + 1, by omega, by go_num, HN⟩
      case measure => simp [intOf]; omega
    · have hkI : ¬ (k : Int) < (s.size : Int) := by omega
      have HR := HG (fun j hj => hn.out j hj (by omega))
      clear HB HG hn
      go_wp2
      go_ret
      exact ⟨ret_bool' HR.out.symm, rfl⟩
set_option maxHeartbeats 1000000 in
theorem isNote (s : ByteArray) (w : World) :
    Calls Tryz.prog 192 #[.string s] w fun e w' => e = .returned (.bool (nt s)) ∧ w' = w := by
  by_cases h2 : 60 < s.size
  · have HR : Hid (nt s = false) := nt_long h2
    have q2 : (60 : Int) < (s.size : Int) := by omega
    clear h2
    go_enter Tryz.func192, Tryz.ntmps192
    go_wp2
    go_ret
    exact ⟨ret_bool' HR.out.symm, rfl⟩
  have q2 : ¬ (60 : Int) < (s.size : Int) := by omega
  have HB : ∀ k, (h : k < s.size) → ¬ ntB s[k] → Hid (nt s = false) := fun k hk h => nt_byte hk h
  have HG : (∀ k, (h : k < s.size) → ntB s[k]) → Hid (nt s = true) := fun h => nt_ok h2 h
  clear h2
  go_enter Tryz.func192, Tryz.ntmps192
  go_wp2
  go_loop [9] (fun i => ∃ k : Nat, k ≤ s.size ∧ i = .int .i64 k ∧ Hid (∀ j, (h : j < s.size) → j < k → ntB s[j])) (fun i => s.size - (intOf i).toNat)
  case atStart => exact ⟨0, by omega, rfl, fun j _ hj => by omega⟩
  case round =>
    obtain ⟨k, hk, rfl, hn⟩ := hrel
    by_cases hlt : k < s.size
    · have hkI : (k : Int) < (s.size : Int) := by omega
      have hb := HB k hlt
      have hgo : ntB s[k] → Hid (∀ j, (h : j < s.size) → j < k + 1 → ntB s[j]) := fun e j hj h1 => by
        by_cases ej : j = k
        · subst ej; exact e
        · exact hn.out j hj (by omega)
      clear HB HG hn
      by_cases e1 : (s[k].toNat : Int) < 32
      · have HR := hb (fun q => by have := q.1; omega)
        clear hb hgo
        go_wp2
        go_ret
        exact ⟨ret_bool' HR.out.symm, rfl⟩
      by_cases e2 : (126 : Int) < (s[k].toNat : Int)
      · have HR := hb (fun q => by have := q.2; omega)
        clear hb hgo
        go_wp2
        go_ret
        exact ⟨ret_bool' HR.out.symm, rfl⟩
      have HN := hgo ⟨by omega, by omega⟩
      clear hb hgo
      go_wp2
      go_round
      case rel => exact ⟨k + 1, by omega, by go_num, HN⟩
      case measure => simp [intOf]; omega
    · have hkI : ¬ (k : Int) < (s.size : Int) := by omega
      have HR := HG (fun j hj => hn.out j hj (by omega))
      clear HB HG hn
      go_wp2
      go_ret
      exact ⟨ret_bool' HR.out.symm, rfl⟩
end Go.Proofs.YtgidcncmicmggamGreatDoor
