/- The contract of spec.l6Time. No statement is proved here. -/
import Derived.Test.YtgidcncmicmggamGreatDoorRows
import Derived.Test.YtgidcncmicmggamGreatDoorLem
import Derived.Test.YtgidcncmicmggamGreatDoorLFLem
import Derived.Test.YtgidcncmicmggamGreatDoorSplLem
import Derived.Test.YtgidcncmicmggamGreatDoorFpS
import Derived.Test.YtgidcncmicmggamGreatDoorFiC
import Derived.Test.YtgidcncmicmggamGreatDoorDcT
import Derived.WalkKit
import Derived.ProofKit
import Derived.Below
import Derived.WalkSpells
namespace Go.Proofs.YtgidcncmicmggamGreatDoor.Dc
open Go.ChangeShapes Go.WideShapes Go.ChangeAt Go.RowKit

/-- How l6Time ends. -/
def TM (t : ByteArray) (e : Ending) : Prop := (∃ n : Int, tI t.data.toList = some n ∧ e = .returned (.tuple #[.int .i64 n, .bool true])) ∨ (tI t.data.toList = none ∧ ∃ n : Int, e = .returned (.tuple #[.int .i64 n, .bool false]))
theorem tI_len {v : List UInt8} (h : v.length < 1 ∨ 10 < v.length) : tI v = none := if_neg fun q => by omega
theorem tI_bad {v : List UInt8} {k : Nat} (hk : k < v.length) (h : ¬ Dg v[k]) : tI v = none := if_neg fun q => by
  have hq := List.all_eq_true.1 q.2.2.1 _ (List.getElem_mem hk)
  have hq' : 48 ≤ v[k].toNat ∧ v[k].toNat ≤ 57 := of_decide_eq_true hq
  exact h hq'
theorem tI_all {v : List UInt8} (h1 : 1 ≤ v.length) (h2 : v.length ≤ 10) (hd : ∀ c ∈ v, Dg c) : tI v = (if Lib.decDigits (valF 0 v) = v then some ((valF 0 v : Nat) : Int) else none : Option Int) := by
  unfold tI
  by_cases e : Lib.decDigits (valF 0 v) = v
  · rw [if_pos e, if_pos ⟨h1, h2, List.all_eq_true.2 fun c hc => decide_eq_true (hd c hc), e⟩]
  · rw [if_neg e, if_neg fun q => e q.2.2.2]
theorem val_take (v : List UInt8) (k : Nat) (hk : k < v.length) : valF 0 (v.take (k + 1)) = valF 0 (v.take k) * 10 + (v[k].toNat - 48) := by
  rw [List.take_succ_eq_append_getElem hk, valF_app]
theorem val_lt (v : List UInt8) : ∀ k, k ≤ v.length → (∀ j, (h : j < v.length) → j < k → Dg v[j]) → valF 0 (v.take k) < 10 ^ k
  | 0, _, _ => by rw [List.take_zero, valF_nil]; decide
  | k + 1, hk, hd => by
    have ih := val_lt v k (by omega) (fun j hj h => hd j hj (by omega))
    have d := (hd k (by omega) (by omega)).2
    rw [val_take v k (by omega), Nat.pow_succ]
    omega
theorem pow_le10 {k : Nat} (h : k ≤ 10) : 10 ^ k ≤ 10000000000 := by
  have := Nat.pow_le_pow_right (n := 10) (by decide) h
  exact this
theorem at_byte (t : ByteArray) (k : Nat) (h : k < t.size) : t.data.toList[k]'(by rw [size_eq]; exact h) = t[k] := by simp [ByteArray.getElem_eq_getElem_data]
set_option maxRecDepth 20000 in
set_option maxHeartbeats 2000000 in
theorem l6TimeC (t : ByteArray) (w : World) (ht : t.size ≤ 1048576) :
    Calls Tryz.prog 57 #[.string t] w fun e w' => Below w.heap.size w w' ∧ TM t e := by
  by_cases h1 : t.size < 1
  · have q1 : (t.size : Int) < 1 := by omega
    have HA : Hid (tI t.data.toList = none) := tI_len (.inl (by rw [size_eq]; exact h1))
    go_enter Tryz.func57, Tryz.ntmps57
    go_wp2
    go_ret2
    exact ⟨Below.refl _ _, .inr ⟨HA.out, _, rfl⟩⟩
  have q1 : ¬ (t.size : Int) < 1 := by omega
  by_cases h2 : 10 < t.size
  · have q2 : (10 : Int) < (t.size : Int) := by omega
    have HA : Hid (tI t.data.toList = none) := tI_len (.inr (by rw [size_eq]; exact h2))
    go_enter Tryz.func57, Tryz.ntmps57
    go_wp2
    go_ret2
    exact ⟨Below.refl _ _, .inr ⟨HA.out, _, rfl⟩⟩
  have q2 : ¬ (10 : Int) < (t.size : Int) := by omega
  have HB : ∀ k, (h : k < t.size) → ¬ Dg t[k] → Hid (tI t.data.toList = none) := fun k hk h => tI_bad (k := k) (by rw [size_eq]; exact hk) (by rw [at_byte t k hk]; exact h)
  have HV : ∀ k, (h : k < t.size) → valF 0 (t.data.toList.take (k + 1)) = valF 0 (t.data.toList.take k) * 10 + (t[k].toNat - 48) := fun k hk => by rw [val_take _ k (by rw [size_eq]; exact hk), at_byte t k hk]
  have HL : ∀ k, k ≤ t.size → (∀ j, (h : j < t.size) → j < k → Dg t[j]) → valF 0 (t.data.toList.take k) < 10000000000 := fun k hk hd => Nat.lt_of_lt_of_le (val_lt _ k (by rw [size_eq]; exact hk) (fun j hj h => by
    have hj' : j < t.size := by rw [size_eq] at hj; exact hj
    rw [at_byte t j hj']; exact hd j hj' h)) (pow_le10 (by omega))
  have HE : (∀ j, (h : j < t.size) → Dg t[j]) → tI t.data.toList = (if Lib.decDigits (valF 0 t.data.toList) = t.data.toList then some ((valF 0 t.data.toList : Nat) : Int) else none : Option Int) := fun hd => tI_all (by rw [size_eq]; omega) (by rw [size_eq]; omega) (fun c hc => by
    obtain ⟨j, hj, e⟩ := List.mem_iff_getElem.1 hc
    have hj' : j < t.size := by rw [size_eq] at hj; exact hj
    rw [← e, at_byte t j hj']; exact hd j hj')
  have HF : t.data.toList.take t.size = t.data.toList := List.take_of_length_le (by rw [size_eq]; exact Nat.le_refl _)
  obtain ⟨V, hV⟩ : ∃ V : Nat → Nat, (fun k => valF 0 (t.data.toList.take k)) = V := ⟨_, rfl⟩
  have hVk : ∀ k, valF 0 (t.data.toList.take k) = V k := fun k => by rw [← hV]
  have hV0 : V 0 = 0 := by rw [← hVk, List.take_zero, valF_nil]
  simp only [hVk] at HV HL
  have HVT : valF 0 t.data.toList = V t.size := by rw [← hVk, HF]
  rw [HVT] at HE
  clear hV hVk HF HVT h1 h2
  go_enter Tryz.func57, Tryz.ntmps57
  go_wp2
  go_loopw [4, 5] (fun a i wr => ∃ k : Nat, k ≤ t.size ∧ i = .int .i64 k ∧ a = .int .i64 (V k : Nat) ∧ Hid (∀ j, (h : j < t.size) → j < k → Dg t[j]) ∧ Below w.heap.size w wr) (fun _ i _ => t.size - (intOf i).toNat)
  case atStart => exact ⟨0, by omega, rfl, by rw [hV0]; rfl, fun j _ hj => by omega, Below.refl _ _⟩
  case round =>
    obtain ⟨k, hk, rfl, rfl, hn, hbel⟩ := hrel
    have hVb := HL k hk hn.out
    by_cases hlt : k < t.size
    · have hkI : (k : Int) < (t.size : Int) := by omega
      have hb := HB k hlt
      have hv := HV k hlt
      have hgo : Dg t[k] → Hid (∀ j, (h : j < t.size) → j < k + 1 → Dg t[j]) := fun e j hj h1 => by
        by_cases ej : j = k
        · subst ej; exact e
        · exact hn.out j hj (by omega)
      clear HB HV HL HE hn
      by_cases e1 : (t[k].toNat : Int) < 48
      · have HR := hb (fun q => by have := q.1; omega)
        clear hb hgo
        go_wp2
        go_ret2
        exact ⟨hbel, .inr ⟨HR.out, _, rfl⟩⟩
      by_cases e2 : (57 : Int) < (t[k].toNat : Int)
      · have HR := hb (fun q => by have := q.2; omega)
        clear hb hgo
        go_wp2
        go_ret2
        exact ⟨hbel, .inr ⟨HR.out, _, rfl⟩⟩
      have HN := hgo ⟨by omega, by omega⟩
      have HV1 : Hid (((V (k + 1) : Nat) : Int) = (V k : Nat) * 10 + ((t[k].toNat : Int) - 48)) := by show _ = _; rw [hv]; omega
      have w1 : IntKind.i64.wrap ((V k : Nat) * 10 : Int) = (V k : Nat) * 10 := by rw [IntKind.wrap_i64]; omega
      have w2 : IntKind.u8.wrap ((t[k].toNat : Int) - 48) = (t[k].toNat : Int) - 48 := by rw [IntKind.wrap_u8]; omega
      have w3 : IntKind.i64.wrap ((t[k].toNat : Int) - 48) = (t[k].toNat : Int) - 48 := by rw [IntKind.wrap_i64]; omega
      have w4 : IntKind.i64.wrap ((V k : Nat) * 10 + ((t[k].toNat : Int) - 48)) = (V k : Nat) * 10 + ((t[k].toNat : Int) - 48) := by rw [IntKind.wrap_i64]; omega
      clear hb hgo hv
      go_wp2
      go_roundw
      case rel => exact ⟨k + 1, by omega, by go_num, by rw [HV1.out], HN, hbel⟩
      case measure => simp [intOf]; omega
    · have hkI : ¬ (k : Int) < (t.size : Int) := by omega
      obtain rfl : k = t.size := by omega
      have hE := HE (fun j hj => hn.out j hj hj)
      have hD := fun w => l3DigitsL (V t.size) (V t.size) (Nat.le_refl _) (by omega) w
      have hS : Hid ((Lib.decDigits (V t.size) = t.data.toList) ↔ ((decB (V t.size)).toList == t.toList) = true) := by
        show _ ↔ _
        rw [beq_iff_eq, ByteArray.toList_eq, ByteArray.toList_eq]
        exact Iff.rfl
      obtain ⟨n, hVn⟩ : ∃ n, V t.size = n := ⟨_, rfl⟩
      rw [hVn] at hE hD hS hVb ⊢
      obtain ⟨D, hDD⟩ : ∃ D, decB n = D := ⟨_, rfl⟩
      rw [hDD] at hS
      simp only [hDD] at hD
      have HE' : Hid (tI t.data.toList = (if Lib.decDigits n = t.data.toList then some ((n : Nat) : Int) else none : Option Int)) := hE
      clear HB HV HL HE hn hE hDD hVn hV0
      go_wp2_with fail
      refine (hD _).mono ?_; rintro e w1 ⟨rfl, b1⟩
      have HB1 : Hid (Below w.heap.size w w1) := hbel.trans (b1.mono hbel.size)
      clear hD b1 hbel
      cases eq : (D.toList == t.toList) with
      | true =>
        have HT : Hid (tI t.data.toList = some (n : Int)) := by show _ = _; rw [HE'.out, if_pos (hS.out.2 eq)]
        go_wp2
        go_ret2
        exact ⟨HB1.out, .inl ⟨_, HT.out, rfl⟩⟩
      | false =>
        have HT : Hid (tI t.data.toList = none) := by show _ = _; rw [HE'.out, if_neg (fun q => by rw [hS.out.1 q] at eq; cases eq)]
        go_wp2
        go_ret2
        exact ⟨HB1.out, .inr ⟨HT.out, _, rfl⟩⟩
end Go.Proofs.YtgidcncmicmggamGreatDoor.Dc
