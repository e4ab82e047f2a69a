/- The program's sorted list of texts: the library's binary search. No statement is proved here. -/
import Derived.Test.YtnififnogdekiabDoorRows
import Derived.Test.YtnififnogdekiabDoorLemQ
import Derived.Test.YtnififnogdekiabDoorDTabQ
import Derived.Test.YtnififnogdekiabDoorInQ
import Derived.Test.YtnififnogdekiabDoorHkTQ
import Derived.Test.YtnififnogdekiabDoorWvCQ
import Derived.Test.YtnififnogdekiabDoorEnLQ
import Derived.Test.YtnififnogdekiabDoorIxMQ
import Derived.Test.YtnififnogdekiabDoorIxNQ
import Derived.Test.YtnififnogdekiabDoorIxOQ
import Derived.Test.YtnififnogdekiabDoorSgCQ
import Derived.Test.YtnififnogdekiabDoorSgDQ
import Derived.Test.YtnififnogdekiabDoorShelfCQ
import Derived.WalkKit
import Derived.ProofKit
import Derived.Below
import Derived.WalkSpells
import Derived.Deep.QuietTactic
import Derived.BigQuiet
import Derived.Deep.RegionWith
import Derived.Deep.RegionHeld
import Derived.Deep.CutRange
import Derived.Maps.AppendAt
import Derived.Laws.Cover1
namespace Go.Proofs.YtnififnogdekiabDoor.En
open Go.ChangeShapes Go.WideShapes Go.ChangeAt Go.RowKit

def CutsS (l : List ByteArray) (T : ByteArray) (p : Nat) : Prop := p ≤ l.length ∧ (∀ k, k < p → cmB (l.getD k ByteArray.empty) T < 0) ∧ (∀ k, p ≤ k → k < l.length → 0 ≤ cmB (l.getD k ByteArray.empty) T)
def hitS (l : List ByteArray) (T : ByteArray) (p : Nat) : Bool := decide (p < l.length) && (cmB (l.getD p ByteArray.empty) T == 0)
/-- A row of texts that is owned can be read. -/
theorem rowS {w : World} {base : Nat} {a : Option Addr} {c : Nat} {l : List ByteArray} (h : w.ownsRow base 9 1 (.slice a l.length c) l.length (l.map Value.string)) (k : Nat) (hk : k < l.length) : ∃ g, a = some ⟨g, 0, none⟩ ∧ w.cell? ⟨g, k, none⟩ = some (.string (l.getD k ByteArray.empty)) ∧ w.frozen? ⟨g, k, none⟩ = false := by
  rcases h.2 with ⟨h', h0⟩ | ⟨g, cap, cur, h', _⟩
  · omega
  · simp only [Value.slice.injEq] at h'
    obtain ⟨rfl, _, rfl⟩ := h'
    refine ⟨g, rfl, ?_, h.frozenAt k⟩
    rw [h.cellAt k (by omega)]
    simp [List.getD, hk]
set_option maxRecDepth 20000 in
set_option maxHeartbeats 4000000 in
theorem searchS (base : Nat) (a : Option Addr) (c : Nat) (l : List ByteArray) (T : ByteArray) (p : Nat) (w : World) (h : w.ownsRow base 9 1 (.slice a l.length c) l.length (l.map Value.string)) (hn : l.length ≤ 1048576) (hp : CutsS l T p) :
    Calls Tryd.prog 94 #[.slice a l.length c, .string T, .func (.func 81) #[] #[]] w fun e w' => e = .returned (.tuple #[.int .i64 p, .bool (hitS l T p)]) ∧ w' = w := by
  obtain ⟨hpn, hlo, hhi⟩ := hp
  have hL : Hid (∀ k, k < p → cmB (l.getD k ByteArray.empty) T < 0) := hlo
  have hH : Hid (∀ k, p ≤ k → k < l.length → 0 ≤ cmB (l.getD k ByteArray.empty) T) := hhi
  clear hlo hhi
  go_enter Tryd.func94, Tryd.ntmps94
  go_wp2
  go_loopw [9, 10, 11] (fun vi vj _h wr => ∃ i j : Nat, i ≤ p ∧ p ≤ j ∧ j ≤ l.length ∧ vi = .int .i64 i ∧ vj = .int .i64 j ∧ wr = w) (fun vi vj _ _ => (intOf vj).toNat - (intOf vi).toNat)
  case atStart => exact ⟨0, l.length, Nat.zero_le _, hpn, Nat.le_refl _, rfl, rfl, rfl⟩
  case round =>
    obtain ⟨i, j, hi, hj, hjl, rfl, rfl, rfl⟩ := hrel
    have h3 := h
    by_cases hlt : i < j
    · have q : (i : Int) < (j : Int) := by omega
      obtain ⟨m, hm⟩ : ∃ m, (i + j) / 2 = m := ⟨_, rfl⟩
      have hmj : m < j := by omega
      have him : i ≤ m := by omega
      obtain ⟨g, e, d0, _⟩ := rowS h3 m (by omega)
      subst e
      have hc1 : m < p → cmB (l.getD m ByteArray.empty) T < 0 := fun q => hL.out m q
      have hc2 : p ≤ m → 0 ≤ cmB (l.getD m ByteArray.empty) T := fun q => hH.out m q (by omega)
      obtain ⟨X, hXe⟩ : ∃ X, l.getD m ByteArray.empty = X := ⟨_, rfl⟩
      rw [hXe] at d0 hc1 hc2
      have hB := fun W => Tryd.strings_Compare X T W
      have hcb : cmB X T = Lib.compareBytes X.data.toList T.data.toList := rfl
      rw [← hcb] at hB
      clear hcb
      obtain ⟨K, hK⟩ : ∃ K, cmB X T = K := ⟨_, rfl⟩
      rw [hK] at hc1 hc2 hB
      have hmI : (m : Int) < (l.length : Int) := by omega
      have hme : ((i : Int) + (j : Int)) / 2 = (m : Int) := by omega
      have HM : Hid (i ≤ m ∧ m < j) := ⟨him, hmj⟩
      clear hXe hK hm him hmj h3
      by_cases hK0 : K < 0
      · have hmp : m < p := by
          rcases Nat.lt_or_ge m p with q | q
          · exact q
          · exact absurd hK0 (by have := hc2 q; omega)
        clear hc1 hc2 hL hH
        go_wp2_with fail
        refine (hB _).mono ?_; rintro e w9 ⟨rfl, rfl⟩
        go_wp2
        obtain ⟨him, hmj⟩ := HM.out
        go_roundw
        case rel => exact ⟨m + 1, j, by omega, hj, hjl, by go_num, by first | rfl | trivial, by first | rfl | trivial⟩
        case measure => simp [intOf]; omega
      · have hmp : p ≤ m := by
          rcases Nat.lt_or_ge m p with q | q
          · exact absurd (hc1 q) hK0
          · exact q
        clear hc1 hc2 hL hH
        go_wp2_with fail
        refine (hB _).mono ?_; rintro e w9 ⟨rfl, rfl⟩
        go_wp2
        obtain ⟨him, hmj⟩ := HM.out
        go_roundw
        case rel => exact ⟨i, m, hi, hmp, by omega, by first | rfl | trivial, by first | rfl | trivial, by first | rfl | trivial⟩
        case measure => simp [intOf]; omega
    · have q : ¬ (i : Int) < (j : Int) := by omega
      have ei : i = p := by omega
      subst ei
      by_cases hin : i < l.length
      · have qn : (i : Int) < (l.length : Int) := by omega
        obtain ⟨g, e, d0, _⟩ := rowS h3 i hin
        subst e
        have hR : hitS l T i = (cmB (l.getD i ByteArray.empty) T == 0) := by unfold hitS; simp [hin]
        obtain ⟨X, hXe⟩ : ∃ X, l.getD i ByteArray.empty = X := ⟨_, rfl⟩
        rw [hXe] at d0 hR
        have hB := fun W => Tryd.strings_Compare X T W
        have hcb : cmB X T = Lib.compareBytes X.data.toList T.data.toList := rfl
        rw [← hcb] at hB
        clear hcb
        obtain ⟨K, hK⟩ : ∃ K, cmB X T = K := ⟨_, rfl⟩
        rw [hK] at hR hB
        have HR : Hid (hitS l T i = (K == 0)) := hR
        clear hXe hK hR hL hH h3
        go_wp2_with fail
        refine (hB _).mono ?_; rintro e w9 ⟨rfl, rfl⟩
        go_wp2
        refine bodyPost_ret (v := .tuple #[.int .i64 i, .bool (K == 0)]) (by simp [results, Tryd.results94, go_sem]) rfl ?_
        exact ⟨by rw [HR.out], rfl⟩
      · have qn : ¬ (i : Int) < (l.length : Int) := by omega
        have HR : Hid (hitS l T i = false) := by show _ = _; unfold hitS; simp [hin]
        clear hL hH h3
        go_wp2
        refine bodyPost_ret (v := .tuple #[.int .i64 i, .bool false]) (by simp [results, Tryd.results94, go_sem]) rfl ?_
        exact ⟨by rw [HR.out], rfl⟩
end Go.Proofs.YtnififnogdekiabDoor.En
