/- Plain mathematics of ids. No statement is proved here. -/
import Derived.Test.YtkgcpndnlefkoaaGreatDoorLemQ
import Derived.Test.YtkgcpndnlefkoaaGreatDoorRows
import Derived.Test.YtkgcpndnlefkoaaGreatDoorLFLemQ
import Derived.WalkKit
import Derived.ProofKit
import Derived.Below
import Derived.Test.YtkgcpndnlefkoaaGreatDoorInQ
import Derived.Test.YtkgcpndnlefkoaaGreatDoorDTabQ
import Derived.WalkSpells
import Derived.Deep.QuietTactic
import Derived.BigQuiet
namespace Go.Proofs.YtkgcpndnlefkoaaGreatDoor
open Go.RowKit

def isHex (c : UInt8) : Bool := decide (48 ≤ (c.toNat : Int) ∧ (c.toNat : Int) ≤ 57 ∨ 97 ≤ (c.toNat : Int) ∧ (c.toNat : Int) ≤ 102)
def isLet (c : UInt8) : Bool := decide ((c.toNat : Int) = 98 ∨ (c.toNat : Int) = 116 ∨ (c.toNat : Int) = 99)
/-- An id: a letter and four digits. -/
def idB (l : List UInt8) : Bool := match l with
  | [a, b, c, d, e] => isLet a && (isHex b && (isHex c && (isHex d && isHex e)))
  | _ => false
theorem idB_len {l : List UInt8} (h : ¬ l.length = 5) : idB l = false := by
  match l with
  | [] | [_] | [_, _] | [_, _, _] | [_, _, _, _] => rfl
  | [_, _, _, _, _] => exact absurd rfl h
  | _ :: _ :: _ :: _ :: _ :: _ :: _ => rfl
theorem five {l : List UInt8} (h : l.length = 5) : ∃ a b c d e, l = [a, b, c, d, e] := by
  match l with
  | [a, b, c, d, e] => exact ⟨a, b, c, d, e, rfl⟩
theorem idB_let {l : List UInt8} (h : l.length = 5) (hx : isLet (l[0]'(by omega)) = false) : idB l = false := by
  obtain ⟨a, b, c, d, e, rfl⟩ := five h
  have : isLet a = false := hx
  simp [idB, this]
theorem idB_hex {l : List UInt8} (h : l.length = 5) (k : Nat) (h1 : 1 ≤ k) (h5 : k < 5) (hx : isHex (l[k]'(by omega)) = false) : idB l = false := by
  obtain ⟨a, b, c, d, e, rfl⟩ := five h
  have hk : k = 1 ∨ k = 2 ∨ k = 3 ∨ k = 4 := by omega
  rcases hk with rfl | rfl | rfl | rfl
  · have : isHex b = false := hx
    simp [idB, this]
  · have : isHex c = false := hx
    simp [idB, this]
  · have : isHex d = false := hx
    simp [idB, this]
  · have : isHex e = false := hx
    simp [idB, this]
/-- The letter and the digits below a place are right. -/
def idUp (l : List UInt8) (k : Nat) : Prop := isLet (l.getD 0 0) = true ∧ ∀ j, 1 ≤ j → j < k → isHex (l.getD j 0) = true
theorem idUp_full {l : List UInt8} (h : l.length = 5) (hu : idUp l 5) : idB l = true := by
  obtain ⟨a, b, c, d, e, rfl⟩ := five h
  obtain ⟨h0, hj⟩ := hu
  have h0 : isLet a = true := h0
  have h1 : isHex b = true := hj 1 (by omega) (by omega)
  have h2 : isHex c = true := hj 2 (by omega) (by omega)
  have h3 : isHex d = true := hj 3 (by omega) (by omega)
  have h4 : isHex e = true := hj 4 (by omega) (by omega)
  simp [idB, h0, h1, h2, h3, h4]
theorem idUp_next {l : List UInt8} {k : Nat} (h : idUp l k) (hk : isHex (l.getD k 0) = true) : idUp l (k + 1) := ⟨h.1, fun j h1 h2 => by
  by_cases e : j = k
  · rw [e]; exact hk
  · exact h.2 j h1 (by omega)⟩
theorem all_bytes {P : UInt8 → Prop} (h : ∀ n : Fin 256, P (UInt8.ofNat n.val)) (c : UInt8) : P c := by
  have := h ⟨c.toNat, c.toNat_lt⟩
  simpa using this
theorem mem_let (c : UInt8) : (c ∈ ([98, 116, 99] : List UInt8)) ↔ isLet c = true :=
  all_bytes (P := fun c => (c ∈ ([98, 116, 99] : List UInt8)) ↔ isLet c = true) (by decide +kernel) c
theorem mem_hex (c : UInt8) : (c ∈ ([48, 49, 50, 51, 52, 53, 54, 55, 56, 57, 97, 98, 99, 100, 101, 102] : List UInt8)) ↔ isHex c = true :=
  all_bytes (P := fun c => (c ∈ ([48, 49, 50, 51, 52, 53, 54, 55, 56, 57, 97, 98, 99, 100, 101, 102] : List UInt8)) ↔ isHex c = true) (by decide +kernel) c
theorem toByte (c : UInt8) : ((c.toNat : Int).toNat.toUInt8) = c := by simp
end Go.Proofs.YtkgcpndnlefkoaaGreatDoor
/- The contracts of IsId (the program's and the specification's). No statement is proved here. -/
namespace Go.Proofs.YtkgcpndnlefkoaaGreatDoor
open Go.ChangeShapes Go.WideShapes Go.ChangeAt Go.RowKit

theorem getD_byte (s : ByteArray) (k : Nat) (h : k < s.size) : s.data.toList.getD k 0 = s[k] := by
  have h2 : s.data.toList.length = s.size := by simp
  rw [List.getD_eq_getElem?_getD, List.getElem?_eq_getElem (by omega)]; rfl
theorem bneF {x n : Int} (h : x = n) : (x != n) = false := by simp [h]
theorem bneT {x n : Int} (h : ¬ x = n) : (x != n) = true := by simp [h]
set_option maxHeartbeats 400000 in
theorem specIsId (s : ByteArray) (w : World) :
    Calls Tryz.prog 84 #[.string s] w fun e w' => e = .returned (.bool (idB s.data.toList)) ∧ w' = w := by
  have hl : s.data.toList.length = s.size := by simp
  by_cases h5 : s.size = 5
  · have H5 : Hid (s.data.toList.length = 5) := by show _ = _; rw [hl, h5]
    have q5 : ((s.size : Int) != 5) = false := by simp [h5]
    have p0 : 0 < s.size := by omega
    have q0 : (0 : Int) < (s.size : Int) := by omega
    have qs : (5 : Int) ≤ (s.size : Int) := by omega
    have HF : Hid (∀ k, (hk : k < 5) → k < s.size) := fun k hk => by omega
    have g0 := getD_byte s 0 p0
    have L0 := fun h => idB_let H5.out (l := s.data.toList) h
    clear hl h5
    have hD : Hid ((s[0]'p0).toNat = 98 ∨ (s[0]'p0).toNat = 116 ∨ (s[0]'p0).toNat = 99 ∨ isLet (s[0]'p0) = false) := by
      show _ ∨ _
      by_cases e : isLet (s[0]'p0) = true
      · have := of_decide_eq_true e
        omega
      · simp at e
        exact .inr (.inr (.inr e))
    have LP : isLet (s[0]'p0) = true → Hid (idUp s.data.toList 1) := fun h => ⟨by rw [g0]; exact h, fun j h1 h2 => by omega⟩
    have PR : Hid (∀ k, (h1 : 1 ≤ k) → (hk : k < 5) → isHex (s[k]'(HF.out k hk)) = false → idB s.data.toList = false) := fun k h1 hk hx => idB_hex H5.out k h1 hk hx
    have PF : Hid (idUp s.data.toList 5 → idB s.data.toList = true) := fun h => idUp_full H5.out h
    rcases hD.out with e | e | e | e
    rotate_left 3
    · have HR : Hid (idB s.data.toList = false) := L0 e
      have e1 : isLet (s[0]'p0) = false := e
      unfold isLet at e1
      have e2 := of_decide_eq_false e1
      have z1 : (((s[0]'p0).toNat : Int) != 98) = true := by simp; omega
      have z2 : (((s[0]'p0).toNat : Int) != 116) = true := by simp; omega
      have z3 : (((s[0]'p0).toNat : Int) != 99) = true := by simp; omega
      clear e e1 e2 hD L0 LP g0
      go_enter Tryz.func84, Tryz.ntmps84
      go_wp2
      go_ret
      exact ⟨ret_bool HR.out.symm, rfl⟩
    · have U := LP (by unfold isLet; simp [e])
      have z1 : (((s[0]'p0).toNat : Int) != 98) = false := bneF (by rw [e]; decide)
      clear e hD L0 LP g0
      go_enter Tryz.func84, Tryz.ntmps84
      go_wp2
      go_loop [3] (fun i => ∃ k : Nat, 1 ≤ k ∧ k ≤ 5 ∧ i = .int .i64 k ∧ Hid (idUp s.data.toList k)) (fun i => 5 - (intOf i).toNat)
      case atStart => exact ⟨1, by omega, by omega, rfl, U⟩
      case round =>
        obtain ⟨k, hk1, hk, rfl, hn⟩ := hrel
        by_cases hlt : k < 5
        · have hks : k < s.size := HF.out k hlt
          have hkI : (k : Int) < 5 := by omega
          have hb := PR.out k hk1 hlt
          have hgo : isHex s[k] = true → Hid (idUp s.data.toList (k + 1)) := fun h => idUp_next hn.out (by rw [getD_byte s k hks]; exact h)
          have h5 : (s[k].toNat : Int) < 48 ∨ (48 ≤ (s[k].toNat : Int) ∧ (s[k].toNat : Int) ≤ 57) ∨ (57 < (s[k].toNat : Int) ∧ (s[k].toNat : Int) < 97) ∨ (97 ≤ (s[k].toNat : Int) ∧ (s[k].toNat : Int) ≤ 102) ∨ 102 < (s[k].toNat : Int) := by omega
          clear hn z1
          rcases h5 with h | ⟨h, h'⟩ | ⟨h, h'⟩ | ⟨h, h'⟩ | h
          · have HR : Hid (idB s.data.toList = false) := hb (by unfold isHex; apply decide_eq_false; omega)
            have y1 : (s[k].toNat : Int) < 97 := by omega
            clear hgo hb
            go_wp2
            go_ret
            exact ⟨ret_bool HR.out.symm, rfl⟩
          · have HG := hgo (by unfold isHex; apply decide_eq_true; omega)
            have y1 : ¬ (s[k].toNat : Int) < 48 := by omega
            have y2 : ¬ 57 < (s[k].toNat : Int) := by omega
            clear hgo hb
            go_wp2
            go_round
            case rel => exact ⟨k + 1, by omega, by omega, by go_num, HG⟩
            case measure => simp [intOf]; omega
          · have HR : Hid (idB s.data.toList = false) := hb (by unfold isHex; apply decide_eq_false; omega)
            have y1 : ¬ (s[k].toNat : Int) < 48 := by omega
            clear hgo hb
            go_wp2
            go_ret
            exact ⟨ret_bool HR.out.symm, rfl⟩
          · have HG := hgo (by unfold isHex; apply decide_eq_true; omega)
            have y1 : ¬ (s[k].toNat : Int) < 48 := by omega
            have y2 : 57 < (s[k].toNat : Int) := by omega
            have y3 : ¬ (s[k].toNat : Int) < 97 := by omega
            have y4 : ¬ 102 < (s[k].toNat : Int) := by omega
            clear hgo hb
            go_wp2
            go_round
            case rel => exact ⟨k + 1, by omega, by omega, by go_num, HG⟩
            case measure => simp [intOf]; omega
          · have HR : Hid (idB s.data.toList = false) := hb (by unfold isHex; apply decide_eq_false; omega)
            have y1 : ¬ (s[k].toNat : Int) < 48 := by omega
            have y2 : 57 < (s[k].toNat : Int) := by omega
            have y3 : ¬ (s[k].toNat : Int) < 97 := by omega
            clear hgo hb
            go_wp2
            go_ret
            exact ⟨ret_bool HR.out.symm, rfl⟩
        · have hkI : ¬ (k : Int) < 5 := by omega
          have ek : k = 5 := by omega
          have HR : Hid (idB s.data.toList = true) := PF.out (by rw [← ek]; exact hn.out)
          clear ek hn
          go_wp2
          go_ret
          exact ⟨ret_bool HR.out.symm, rfl⟩
    · have U := LP (by unfold isLet; simp [e])
      have z1 : (((s[0]'p0).toNat : Int) != 98) = true := bneT (by rw [e]; decide)
      have z2 : (((s[0]'p0).toNat : Int) != 116) = false := bneF (by rw [e]; decide)
      clear e hD L0 LP g0
      go_enter Tryz.func84, Tryz.ntmps84
      go_wp2
      go_loop [3] (fun i => ∃ k : Nat, 1 ≤ k ∧ k ≤ 5 ∧ i = .int .i64 k ∧ Hid (idUp s.data.toList k)) (fun i => 5 - (intOf i).toNat)
      case atStart => exact ⟨1, by omega, by omega, rfl, U⟩
      case round =>
        obtain ⟨k, hk1, hk, rfl, hn⟩ := hrel
        by_cases hlt : k < 5
        · have hks : k < s.size := HF.out k hlt
          have hkI : (k : Int) < 5 := by omega
          have hb := PR.out k hk1 hlt
          have hgo : isHex s[k] = true → Hid (idUp s.data.toList (k + 1)) := fun h => idUp_next hn.out (by rw [getD_byte s k hks]; exact h)
          have h5 : (s[k].toNat : Int) < 48 ∨ (48 ≤ (s[k].toNat : Int) ∧ (s[k].toNat : Int) ≤ 57) ∨ (57 < (s[k].toNat : Int) ∧ (s[k].toNat : Int) < 97) ∨ (97 ≤ (s[k].toNat : Int) ∧ (s[k].toNat : Int) ≤ 102) ∨ 102 < (s[k].toNat : Int) := by omega
          clear hn z1 z2
          rcases h5 with h | ⟨h, h'⟩ | ⟨h, h'⟩ | ⟨h, h'⟩ | h
          · have HR : Hid (idB s.data.toList = false) := hb (by unfold isHex; apply decide_eq_false; omega)
            have y1 : (s[k].toNat : Int) < 97 := by omega
            clear hgo hb
            go_wp2
            go_ret
            exact ⟨ret_bool HR.out.symm, rfl⟩
          · have HG := hgo (by unfold isHex; apply decide_eq_true; omega)
            have y1 : ¬ (s[k].toNat : Int) < 48 := by omega
            have y2 : ¬ 57 < (s[k].toNat : Int) := by omega
            clear hgo hb
            go_wp2
            go_round
            case rel => exact ⟨k + 1, by omega, by omega, by go_num, HG⟩
            case measure => simp [intOf]; omega
          · have HR : Hid (idB s.data.toList = false) := hb (by unfold isHex; apply decide_eq_false; omega)
            have y1 : ¬ (s[k].toNat : Int) < 48 := by omega
            clear hgo hb
            go_wp2
            go_ret
            exact ⟨ret_bool HR.out.symm, rfl⟩
          · have HG := hgo (by unfold isHex; apply decide_eq_true; omega)
            have y1 : ¬ (s[k].toNat : Int) < 48 := by omega
            have y2 : 57 < (s[k].toNat : Int) := by omega
            have y3 : ¬ (s[k].toNat : Int) < 97 := by omega
            have y4 : ¬ 102 < (s[k].toNat : Int) := by omega
            clear hgo hb
            go_wp2
            go_round
            case rel => exact ⟨k + 1, by omega, by omega, by go_num, HG⟩
            case measure => simp [intOf]; omega
          · have HR : Hid (idB s.data.toList = false) := hb (by unfold isHex; apply decide_eq_false; omega)
            have y1 : ¬ (s[k].toNat : Int) < 48 := by omega
            have y2 : 57 < (s[k].toNat : Int) := by omega
            have y3 : ¬ (s[k].toNat : Int) < 97 := by omega
            clear hgo hb
            go_wp2
            go_ret
            exact ⟨ret_bool HR.out.symm, rfl⟩
        · have hkI : ¬ (k : Int) < 5 := by omega
          have ek : k = 5 := by omega
          have HR : Hid (idB s.data.toList = true) := PF.out (by rw [← ek]; exact hn.out)
          clear ek hn
          go_wp2
          go_ret
          exact ⟨ret_bool HR.out.symm, rfl⟩
    · have U := LP (by unfold isLet; simp [e])
      have z1 : (((s[0]'p0).toNat : Int) != 98) = true := bneT (by rw [e]; decide)
      have z2 : (((s[0]'p0).toNat : Int) != 116) = true := bneT (by rw [e]; decide)
      have z3 : (((s[0]'p0).toNat : Int) != 99) = false := bneF (by rw [e]; decide)
      clear e hD L0 LP g0
      go_enter Tryz.func84, Tryz.ntmps84
      go_wp2
      go_loop [3] (fun i => ∃ k : Nat, 1 ≤ k ∧ k ≤ 5 ∧ i = .int .i64 k ∧ Hid (idUp s.data.toList k)) (fun i => 5 - (intOf i).toNat)
      case atStart => exact ⟨1, by omega, by omega, rfl, U⟩
      case round =>
        obtain ⟨k, hk1, hk, rfl, hn⟩ := hrel
        by_cases hlt : k < 5
        · have hks : k < s.size := HF.out k hlt
          have hkI : (k : Int) < 5 := by omega
          have hb := PR.out k hk1 hlt
          have hgo : isHex s[k] = true → Hid (idUp s.data.toList (k + 1)) := fun h => idUp_next hn.out (by rw [getD_byte s k hks]; exact h)
          have h5 : (s[k].toNat : Int) < 48 ∨ (48 ≤ (s[k].toNat : Int) ∧ (s[k].toNat : Int) ≤ 57) ∨ (57 < (s[k].toNat : Int) ∧ (s[k].toNat : Int) < 97) ∨ (97 ≤ (s[k].toNat : Int) ∧ (s[k].toNat : Int) ≤ 102) ∨ 102 < (s[k].toNat : Int) := by omega
          clear hn z1 z2 z3
          rcases h5 with h | ⟨h, h'⟩ | ⟨h, h'⟩ | ⟨h, h'⟩ | h
          · have HR : Hid (idB s.data.toList = false) := hb (by unfold isHex; apply decide_eq_false; omega)
            have y1 : (s[k].toNat : Int) < 97 := by omega
            clear hgo hb
            go_wp2
            go_ret
            exact ⟨ret_bool HR.out.symm, rfl⟩
          · have HG := hgo (by unfold isHex; apply decide_eq_true; omega)
            have y1 : ¬ (s[k].toNat : Int) < 48 := by omega
            have y2 : ¬ 57 < (s[k].toNat : Int) := by omega
            clear hgo hb
            go_wp2
            go_round
            case rel => exact ⟨k + 1, by omega, by omega, by go_num, HG⟩
            case measure => simp [intOf]; omega
          · have HR : Hid (idB s.data.toList = false) := hb (by unfold isHex; apply decide_eq_false; omega)
            have y1 : ¬ (s[k].toNat : Int) < 48 := by omega
            clear hgo hb
            go_wp2
            go_ret
            exact ⟨ret_bool HR.out.symm, rfl⟩
          · have HG := hgo (by unfold isHex; apply decide_eq_true; omega)
            have y1 : ¬ (s[k].toNat : Int) < 48 := by omega
            have y2 : 57 < (s[k].toNat : Int) := by omega
            have y3 : ¬ (s[k].toNat : Int) < 97 := by omega
            have y4 : ¬ 102 < (s[k].toNat : Int) := by omega
            clear hgo hb
            go_wp2
            go_round
            case rel => exact ⟨k + 1, by omega, by omega, by go_num, HG⟩
            case measure => simp [intOf]; omega
          · have HR : Hid (idB s.data.toList = false) := hb (by unfold isHex; apply decide_eq_false; omega)
            have y1 : ¬ (s[k].toNat : Int) < 48 := by omega
            have y2 : 57 < (s[k].toNat : Int) := by omega
            have y3 : ¬ (s[k].toNat : Int) < 97 := by omega
            clear hgo hb
            go_wp2
            go_ret
            exact ⟨ret_bool HR.out.symm, rfl⟩
        · have hkI : ¬ (k : Int) < 5 := by omega
          have ek : k = 5 := by omega
          have HR : Hid (idB s.data.toList = true) := PF.out (by rw [← ek]; exact hn.out)
          clear ek hn
          go_wp2
          go_ret
          exact ⟨ret_bool HR.out.symm, rfl⟩
  · have HR : Hid (idB s.data.toList = false) := idB_len (by rw [hl]; exact h5)
    have q5 : ((s.size : Int) != 5) = true := by simp; omega
    clear hl h5
    go_enter Tryz.func84, Tryz.ntmps84
    go_wp2
    go_ret
    exact ⟨ret_bool HR.out.symm, rfl⟩

theorem idx_let (c : UInt8) : decide (Lib.indexByte [98, 116, 99] ((c.toNat : Int).toNat.toUInt8) < 0) = !isLet c := by
  rw [toByte]
  have h := indexByte_mem [98, 116, 99] c
  have h2 := mem_let c
  cases e : isLet c with
  | true => rw [e] at h2; have := h.2 (h2.2 rfl); simp; omega
  | false =>
    have : ¬ 0 ≤ Lib.indexByte [98, 116, 99] c := fun hh => by have := h2.1 (h.1 hh); rw [e] at this; cases this
    simp; omega
theorem idx_hex (c : UInt8) : decide (Lib.indexByte [48, 49, 50, 51, 52, 53, 54, 55, 56, 57, 97, 98, 99, 100, 101, 102] ((c.toNat : Int).toNat.toUInt8) < 0) = !isHex c := by
  rw [toByte]
  have h := indexByte_mem [48, 49, 50, 51, 52, 53, 54, 55, 56, 57, 97, 98, 99, 100, 101, 102] c
  have h2 := mem_hex c
  cases e : isHex c with
  | true => rw [e] at h2; have := h.2 (h2.2 rfl); simp; omega
  | false =>
    have : ¬ 0 ≤ Lib.indexByte [48, 49, 50, 51, 52, 53, 54, 55, 56, 57, 97, 98, 99, 100, 101, 102] c := fun hh => by have := h2.1 (h.1 hh); rw [e] at this; cases this
    simp; omega
theorem idxLet (c : UInt8) (w : World) : Calls Tryz.prog 87 #[.string ⟨#[98, 116, 99]⟩, .int .u8 (c.toNat : Int)] w fun e w' => (∃ r : Int, e = .returned (.int .i64 r) ∧ decide (r < 0) = !isLet c) ∧ w' = w := by
  refine (indexByte _ _ _).mono ?_; rintro e w ⟨rfl, rfl⟩
  exact ⟨⟨_, rfl, idx_let c⟩, rfl⟩
theorem idxHex (c : UInt8) (w : World) : Calls Tryz.prog 87 #[.string ⟨#[48, 49, 50, 51, 52, 53, 54, 55, 56, 57, 97, 98, 99, 100, 101, 102]⟩, .int .u8 (c.toNat : Int)] w fun e w' => (∃ r : Int, e = .returned (.int .i64 r) ∧ decide (r < 0) = !isHex c) ∧ w' = w := by
  refine (indexByte _ _ _).mono ?_; rintro e w ⟨rfl, rfl⟩
  exact ⟨⟨_, rfl, idx_hex c⟩, rfl⟩
set_option maxHeartbeats 400000 in
theorem implIsId (s : ByteArray) (w : World) :
    Calls Tryz.prog 66 #[.string s] w fun e w' => e = .returned (.bool (idB s.data.toList)) ∧ w' = w := by
  have hl : s.data.toList.length = s.size := by simp
  by_cases h5 : s.size = 5
  · have H5 : Hid (s.data.toList.length = 5) := by show _ = _; rw [hl, h5]
    have q5 : ((s.size : Int) != 5) = false := by simp [h5]
    have p0 : 0 < s.size := by omega
    have q0 : (0 : Int) < (s.size : Int) := by omega
    have qs : (5 : Int) ≤ (s.size : Int) := by omega
    have HF : Hid (∀ k, (hk : k < 5) → k < s.size) := fun k hk => by omega
    have g0 := getD_byte s 0 p0
    have L0 : isLet (s[0]'p0) = false → Hid (idB s.data.toList = false) := fun h => idB_let H5.out (l := s.data.toList) h
    have LP : isLet (s[0]'p0) = true → Hid (idUp s.data.toList 1) := fun h => ⟨by rw [g0]; exact h, fun j h1 h2 => by omega⟩
    have PR : Hid (∀ k, (h1 : 1 ≤ k) → (hk : k < 5) → isHex (s[k]'(HF.out k hk)) = false → idB s.data.toList = false) := fun k h1 hk hx => idB_hex H5.out k h1 hk hx
    have PF : Hid (idUp s.data.toList 5 → idB s.data.toList = true) := fun h => idUp_full H5.out h
    clear hl h5 g0
    go_enter Tryz.func66, Tryz.ntmps66
    cases e : isLet (s[0]'p0) with
    | false =>
      have HR := L0 e
      have hI := idxLet (s[0]'p0)
      rw [e] at hI
      clear e L0 LP
      go_wp2_with (go_at_call 87; refine (hI _).mono ?_; rintro e w' ⟨⟨r, rfl, hr⟩, rfl⟩; replace hr : r < 0 := of_decide_eq_true hr)
      go_ret
      exact ⟨ret_bool HR.out.symm, rfl⟩
    | true =>
      have U := LP e
      have hI := idxLet (s[0]'p0)
      rw [e] at hI
      clear e L0 LP
      go_wp2_with (go_at_call 87; refine (hI _).mono ?_; rintro e w' ⟨⟨r, rfl, hr⟩, rfl⟩; replace hr : ¬ r < 0 := of_decide_eq_false hr)
      go_loop [3] (fun i => ∃ k : Nat, 1 ≤ k ∧ k ≤ 5 ∧ i = .int .i64 k ∧ Hid (idUp s.data.toList k)) (fun i => 5 - (intOf i).toNat)
      case atStart => exact ⟨1, by omega, by omega, rfl, U⟩
      case round =>
        obtain ⟨k, hk1, hk, rfl, hn⟩ := hrel
        by_cases hlt : k < 5
        · have hks : k < s.size := HF.out k hlt
          have hkI : (k : Int) < 5 := by omega
          have hb := PR.out k hk1 hlt
          have hgo : isHex s[k] = true → Hid (idUp s.data.toList (k + 1)) := fun h => idUp_next hn.out (by rw [getD_byte s k hks]; exact h)
          have hX := idxHex s[k]
          clear hn hI
          cases e : isHex s[k] with
          | false =>
            have HR : Hid (idB s.data.toList = false) := hb e
            rw [e] at hX
            clear e hb hgo
            go_wp2_with (go_at_call 87; refine (hX _).mono ?_; rintro e w' ⟨⟨r, rfl, hr⟩, rfl⟩; replace hr : r < 0 := of_decide_eq_true hr)
            go_ret
            exact ⟨ret_bool HR.out.symm, rfl⟩
          | true =>
            have HG := hgo e
            rw [e] at hX
            clear e hb hgo
            go_wp2_with (go_at_call 87; refine (hX _).mono ?_; rintro e w' ⟨⟨r, rfl, hr⟩, rfl⟩; replace hr : ¬ r < 0 := of_decide_eq_false hr)
            go_round
            case rel => exact ⟨k + 1, by omega, by omega, by go_num, HG⟩
            case measure => simp [intOf]; omega
        · have hkI : ¬ (k : Int) < 5 := by omega
          have ek : k = 5 := by omega
          have HR : Hid (idB s.data.toList = true) := PF.out (by rw [← ek]; exact hn.out)
          clear ek hn
          go_wp2
          go_ret
          exact ⟨ret_bool HR.out.symm, rfl⟩
  · have HR : Hid (idB s.data.toList = false) := idB_len (by rw [hl]; exact h5)
    have q5 : ((s.size : Int) != 5) = true := by simp; omega
    clear hl h5
    go_enter Tryz.func66, Tryz.ntmps66
    go_wp2
    go_ret
    exact ⟨ret_bool HR.out.symm, rfl⟩
end Go.Proofs.YtkgcpndnlefkoaaGreatDoor
/- The contracts of NameFault (the program's and the specification's). No statement is proved here. -/
namespace Go.Proofs.YtkgcpndnlefkoaaGreatDoor
open Go.ChangeShapes Go.WideShapes Go.ChangeAt Go.RowKit

/-- A byte that a name may have. -/
def nmI (n : Int) : Bool := decide (97 ≤ n ∧ n ≤ 122 ∨ 48 ≤ n ∧ n ≤ 57 ∨ n = 46 ∨ n = 95 ∨ n = 45)
def nmB (c : UInt8) : Bool := nmI (c.toNat : Int)
theorem nm_beqT {a b : Int} (h : a = b) : (a == b) = true := by simp [h]
theorem nm_beqF {a b : Int} (h : ¬ a = b) : (a == b) = false := by simp [h]
set_option maxHeartbeats 1000000 in
theorem l6NameByte (n : Int) (w : World) :
    Calls Tryz.prog 96 #[.int .u8 n] w fun e w' => e = .returned (.bool (nmI n)) ∧ w' = w := by
  have hD : n ≤ 44 ∨ n = 45 ∨ n = 46 ∨ n = 47 ∨ (48 ≤ n ∧ n ≤ 57) ∨ (58 ≤ n ∧ n ≤ 94) ∨ n = 95 ∨ n = 96 ∨ (97 ≤ n ∧ n ≤ 122) ∨ 123 ≤ n := by omega
  obtain ⟨R, hR⟩ : ∃ R, nmI n = R := ⟨_, rfl⟩
  rcases hD with h | h | h | h | h | h | h | h | h | h
  · have HR : Hid (false = nmI n) := by
      show _ = _; symm; unfold nmI; apply decide_eq_false; omega
    have a1 : n < 97 := by omega
    have a3 : ¬ 97 ≤ n := by omega
    have b1 : n < 48 := by omega
    have b3 : ¬ 48 ≤ n := by omega
    have c1 : ¬ 122 < n := by omega
    have c3 : n ≤ 122 := by omega
    have d1 : ¬ 57 < n := by omega
    have d3 : n ≤ 57 := by omega
    have e1 : (n == 46) = false := nm_beqF (by omega)
    have f1 : (n == 95) = false := nm_beqF (by omega)
    have g1 : (n == 45) = false := nm_beqF (by omega)
    clear h hR
    go_enter Tryz.func96, Tryz.ntmps96
    go_wp2
    go_ret
    exact ⟨ret_bool HR.out, rfl⟩
  · have HR : Hid (true = nmI n) := by
      show _ = _; symm; unfold nmI; apply decide_eq_true; omega
    have a1 : n < 97 := by omega
    have a3 : ¬ 97 ≤ n := by omega
    have b1 : n < 48 := by omega
    have b3 : ¬ 48 ≤ n := by omega
    have c1 : ¬ 122 < n := by omega
    have c3 : n ≤ 122 := by omega
    have d1 : ¬ 57 < n := by omega
    have d3 : n ≤ 57 := by omega
    have e1 : (n == 46) = false := nm_beqF (by omega)
    have f1 : (n == 95) = false := nm_beqF (by omega)
    have g1 : (n == 45) = true := nm_beqT (by omega)
    clear h hR
    go_enter Tryz.func96, Tryz.ntmps96
    go_wp2
    go_ret
    exact ⟨ret_bool HR.out, rfl⟩
  · have HR : Hid (true = nmI n) := by
      show _ = _; symm; unfold nmI; apply decide_eq_true; omega
    have a1 : n < 97 := by omega
    have a3 : ¬ 97 ≤ n := by omega
    have b1 : n < 48 := by omega
    have b3 : ¬ 48 ≤ n := by omega
    have c1 : ¬ 122 < n := by omega
    have c3 : n ≤ 122 := by omega
    have d1 : ¬ 57 < n := by omega
    have d3 : n ≤ 57 := by omega
    have e1 : (n == 46) = true := nm_beqT (by omega)
    have f1 : (n == 95) = false := nm_beqF (by omega)
    have g1 : (n == 45) = false := nm_beqF (by omega)
    clear h hR
    go_enter Tryz.func96, Tryz.ntmps96
    go_wp2
    go_ret
    exact ⟨ret_bool HR.out, rfl⟩
  · have HR : Hid (false = nmI n) := by
      show _ = _; symm; unfold nmI; apply decide_eq_false; omega
    have a1 : n < 97 := by omega
    have a3 : ¬ 97 ≤ n := by omega
    have b1 : n < 48 := by omega
    have b3 : ¬ 48 ≤ n := by omega
    have c1 : ¬ 122 < n := by omega
    have c3 : n ≤ 122 := by omega
    have d1 : ¬ 57 < n := by omega
    have d3 : n ≤ 57 := by omega
    have e1 : (n == 46) = false := nm_beqF (by omega)
    have f1 : (n == 95) = false := nm_beqF (by omega)
    have g1 : (n == 45) = false := nm_beqF (by omega)
    clear h hR
    go_enter Tryz.func96, Tryz.ntmps96
    go_wp2
    go_ret
    exact ⟨ret_bool HR.out, rfl⟩
  · have HR : Hid (true = nmI n) := by
      show _ = _; symm; unfold nmI; apply decide_eq_true; omega
    have a1 : n < 97 := by omega
    have a3 : ¬ 97 ≤ n := by omega
    have b1 : ¬ n < 48 := by omega
    have b3 : 48 ≤ n := by omega
    have c1 : ¬ 122 < n := by omega
    have c3 : n ≤ 122 := by omega
    have d1 : ¬ 57 < n := by omega
    have d3 : n ≤ 57 := by omega
    have e1 : (n == 46) = false := nm_beqF (by omega)
    have f1 : (n == 95) = false := nm_beqF (by omega)
    have g1 : (n == 45) = false := nm_beqF (by omega)
    clear h hR
    go_enter Tryz.func96, Tryz.ntmps96
    go_wp2
    go_ret
    exact ⟨ret_bool HR.out, rfl⟩
  · have HR : Hid (false = nmI n) := by
      show _ = _; symm; unfold nmI; apply decide_eq_false; omega
    have a1 : n < 97 := by omega
    have a3 : ¬ 97 ≤ n := by omega
    have b1 : ¬ n < 48 := by omega
    have b3 : 48 ≤ n := by omega
    have c1 : ¬ 122 < n := by omega
    have c3 : n ≤ 122 := by omega
    have d1 : 57 < n := by omega
    have d3 : ¬ n ≤ 57 := by omega
    have e1 : (n == 46) = false := nm_beqF (by omega)
    have f1 : (n == 95) = false := nm_beqF (by omega)
    have g1 : (n == 45) = false := nm_beqF (by omega)
    clear h hR
    go_enter Tryz.func96, Tryz.ntmps96
    go_wp2
    go_ret
    exact ⟨ret_bool HR.out, rfl⟩
  · have HR : Hid (true = nmI n) := by
      show _ = _; symm; unfold nmI; apply decide_eq_true; omega
    have a1 : n < 97 := by omega
    have a3 : ¬ 97 ≤ n := by omega
    have b1 : ¬ n < 48 := by omega
    have b3 : 48 ≤ n := by omega
    have c1 : ¬ 122 < n := by omega
    have c3 : n ≤ 122 := by omega
    have d1 : 57 < n := by omega
    have d3 : ¬ n ≤ 57 := by omega
    have e1 : (n == 46) = false := nm_beqF (by omega)
    have f1 : (n == 95) = true := nm_beqT (by omega)
    have g1 : (n == 45) = false := nm_beqF (by omega)
    clear h hR
    go_enter Tryz.func96, Tryz.ntmps96
    go_wp2
    go_ret
    exact ⟨ret_bool HR.out, rfl⟩
  · have HR : Hid (false = nmI n) := by
      show _ = _; symm; unfold nmI; apply decide_eq_false; omega
    have a1 : n < 97 := by omega
    have a3 : ¬ 97 ≤ n := by omega
    have b1 : ¬ n < 48 := by omega
    have b3 : 48 ≤ n := by omega
    have c1 : ¬ 122 < n := by omega
    have c3 : n ≤ 122 := by omega
    have d1 : 57 < n := by omega
    have d3 : ¬ n ≤ 57 := by omega
    have e1 : (n == 46) = false := nm_beqF (by omega)
    have f1 : (n == 95) = false := nm_beqF (by omega)
    have g1 : (n == 45) = false := nm_beqF (by omega)
    clear h hR
    go_enter Tryz.func96, Tryz.ntmps96
    go_wp2
    go_ret
    exact ⟨ret_bool HR.out, rfl⟩
  · have HR : Hid (true = nmI n) := by
      show _ = _; symm; unfold nmI; apply decide_eq_true; omega
    have a1 : ¬ n < 97 := by omega
    have a3 : 97 ≤ n := by omega
    have b1 : ¬ n < 48 := by omega
    have b3 : 48 ≤ n := by omega
    have c1 : ¬ 122 < n := by omega
    have c3 : n ≤ 122 := by omega
    have d1 : 57 < n := by omega
    have d3 : ¬ n ≤ 57 := by omega
    have e1 : (n == 46) = false := nm_beqF (by omega)
    have f1 : (n == 95) = false := nm_beqF (by omega)
    have g1 : (n == 45) = false := nm_beqF (by omega)
    clear h hR
    go_enter Tryz.func96, Tryz.ntmps96
    go_wp2
    go_ret
    exact ⟨ret_bool HR.out, rfl⟩
  · have HR : Hid (false = nmI n) := by
      show _ = _; symm; unfold nmI; apply decide_eq_false; omega
    have a1 : ¬ n < 97 := by omega
    have a3 : 97 ≤ n := by omega
    have b1 : ¬ n < 48 := by omega
    have b3 : 48 ≤ n := by omega
    have c1 : 122 < n := by omega
    have c3 : ¬ n ≤ 122 := by omega
    have d1 : 57 < n := by omega
    have d3 : ¬ n ≤ 57 := by omega
    have e1 : (n == 46) = false := nm_beqF (by omega)
    have f1 : (n == 95) = false := nm_beqF (by omega)
    have g1 : (n == 45) = false := nm_beqF (by omega)
    clear h hR
    go_enter Tryz.func96, Tryz.ntmps96
    go_wp2
    go_ret
    exact ⟨ret_bool HR.out, rfl⟩
set_option maxHeartbeats 1000000 in
theorem isNameByte (n : Int) (w : World) :
    Calls Tryz.prog 86 #[.int .u8 n] w fun e w' => e = .returned (.bool (nmI n)) ∧ w' = w := by
  have hD : n ≤ 44 ∨ n = 45 ∨ n = 46 ∨ n = 47 ∨ (48 ≤ n ∧ n ≤ 57) ∨ (58 ≤ n ∧ n ≤ 94) ∨ n = 95 ∨ n = 96 ∨ (97 ≤ n ∧ n ≤ 122) ∨ 123 ≤ n := by omega
  obtain ⟨R, hR⟩ : ∃ R, nmI n = R := ⟨_, rfl⟩
  rcases hD with h | h | h | h | h | h | h | h | h | h
  · have HR : Hid (false = nmI n) := by
      show _ = _; symm; unfold nmI; apply decide_eq_false; omega
    have a1 : n < 97 := by omega
    have a3 : ¬ 97 ≤ n := by omega
    have b1 : n < 48 := by omega
    have b3 : ¬ 48 ≤ n := by omega
    have c1 : ¬ 122 < n := by omega
    have c3 : n ≤ 122 := by omega
    have d1 : ¬ 57 < n := by omega
    have d3 : n ≤ 57 := by omega
    have e1 : (n == 46) = false := nm_beqF (by omega)
    have f1 : (n == 95) = false := nm_beqF (by omega)
    have g1 : (n == 45) = false := nm_beqF (by omega)
    clear h hR
    go_enter Tryz.func86, Tryz.ntmps86
    go_wp2
    go_ret
    exact ⟨ret_bool HR.out, rfl⟩
  · have HR : Hid (true = nmI n) := by
      show _ = _; symm; unfold nmI; apply decide_eq_true; omega
    have a1 : n < 97 := by omega
    have a3 : ¬ 97 ≤ n := by omega
    have b1 : n < 48 := by omega
    have b3 : ¬ 48 ≤ n := by omega
    have c1 : ¬ 122 < n := by omega
    have c3 : n ≤ 122 := by omega
    have d1 : ¬ 57 < n := by omega
    have d3 : n ≤ 57 := by omega
    have e1 : (n == 46) = false := nm_beqF (by omega)
    have f1 : (n == 95) = false := nm_beqF (by omega)
    have g1 : (n == 45) = true := nm_beqT (by omega)
    clear h hR
    go_enter Tryz.func86, Tryz.ntmps86
    go_wp2
    go_ret
    exact ⟨ret_bool HR.out, rfl⟩
  · have HR : Hid (true = nmI n) := by
      show _ = _; symm; unfold nmI; apply decide_eq_true; omega
    have a1 : n < 97 := by omega
    have a3 : ¬ 97 ≤ n := by omega
    have b1 : n < 48 := by omega
    have b3 : ¬ 48 ≤ n := by omega
    have c1 : ¬ 122 < n := by omega
    have c3 : n ≤ 122 := by omega
    have d1 : ¬ 57 < n := by omega
    have d3 : n ≤ 57 := by omega
    have e1 : (n == 46) = true := nm_beqT (by omega)
    have f1 : (n == 95) = false := nm_beqF (by omega)
    have g1 : (n == 45) = false := nm_beqF (by omega)
    clear h hR
    go_enter Tryz.func86, Tryz.ntmps86
    go_wp2
    go_ret
    exact ⟨ret_bool HR.out, rfl⟩
  · have HR : Hid (false = nmI n) := by
      show _ = _; symm; unfold nmI; apply decide_eq_false; omega
    have a1 : n < 97 := by omega
    have a3 : ¬ 97 ≤ n := by omega
    have b1 : n < 48 := by omega
    have b3 : ¬ 48 ≤ n := by omega
    have c1 : ¬ 122 < n := by omega
    have c3 : n ≤ 122 := by omega
    have d1 : ¬ 57 < n := by omega
    have d3 : n ≤ 57 := by omega
    have e1 : (n == 46) = false := nm_beqF (by omega)
    have f1 : (n == 95) = false := nm_beqF (by omega)
    have g1 : (n == 45) = false := nm_beqF (by omega)
    clear h hR
    go_enter Tryz.func86, Tryz.ntmps86
    go_wp2
    go_ret
    exact ⟨ret_bool HR.out, rfl⟩
  · have HR : Hid (true = nmI n) := by
      show _ = _; symm; unfold nmI; apply decide_eq_true; omega
    have a1 : n < 97 := by omega
    have a3 : ¬ 97 ≤ n := by omega
    have b1 : ¬ n < 48 := by omega
    have b3 : 48 ≤ n := by omega
    have c1 : ¬ 122 < n := by omega
    have c3 : n ≤ 122 := by omega
    have d1 : ¬ 57 < n := by omega
    have d3 : n ≤ 57 := by omega
    have e1 : (n == 46) = false := nm_beqF (by omega)
    have f1 : (n == 95) = false := nm_beqF (by omega)
    have g1 : (n == 45) = false := nm_beqF (by omega)
    clear h hR
    go_enter Tryz.func86, Tryz.ntmps86
    go_wp2
    go_ret
    exact ⟨ret_bool HR.out, rfl⟩
  · have HR : Hid (false = nmI n) := by
      show _ = _; symm; unfold nmI; apply decide_eq_false; omega
    have a1 : n < 97 := by omega
    have a3 : ¬ 97 ≤ n := by omega
    have b1 : ¬ n < 48 := by omega
    have b3 : 48 ≤ n := by omega
    have c1 : ¬ 122 < n := by omega
    have c3 : n ≤ 122 := by omega
    have d1 : 57 < n := by omega
    have d3 : ¬ n ≤ 57 := by omega
    have e1 : (n == 46) = false := nm_beqF (by omega)
    have f1 : (n == 95) = false := nm_beqF (by omega)
    have g1 : (n == 45) = false := nm_beqF (by omega)
    clear h hR
    go_enter Tryz.func86, Tryz.ntmps86
    go_wp2
    go_ret
    exact ⟨ret_bool HR.out, rfl⟩
  · have HR : Hid (true = nmI n) := by
      show _ = _; symm; unfold nmI; apply decide_eq_true; omega
    have a1 : n < 97 := by omega
    have a3 : ¬ 97 ≤ n := by omega
    have b1 : ¬ n < 48 := by omega
    have b3 : 48 ≤ n := by omega
    have c1 : ¬ 122 < n := by omega
    have c3 : n ≤ 122 := by omega
    have d1 : 57 < n := by omega
    have d3 : ¬ n ≤ 57 := by omega
    have e1 : (n == 46) = false := nm_beqF (by omega)
    have f1 : (n == 95) = true := nm_beqT (by omega)
    have g1 : (n == 45) = false := nm_beqF (by omega)
    clear h hR
    go_enter Tryz.func86, Tryz.ntmps86
    go_wp2
    go_ret
    exact ⟨ret_bool HR.out, rfl⟩
  · have HR : Hid (false = nmI n) := by
      show _ = _; symm; unfold nmI; apply decide_eq_false; omega
    have a1 : n < 97 := by omega
    have a3 : ¬ 97 ≤ n := by omega
    have b1 : ¬ n < 48 := by omega
    have b3 : 48 ≤ n := by omega
    have c1 : ¬ 122 < n := by omega
    have c3 : n ≤ 122 := by omega
    have d1 : 57 < n := by omega
    have d3 : ¬ n ≤ 57 := by omega
    have e1 : (n == 46) = false := nm_beqF (by omega)
    have f1 : (n == 95) = false := nm_beqF (by omega)
    have g1 : (n == 45) = false := nm_beqF (by omega)
    clear h hR
    go_enter Tryz.func86, Tryz.ntmps86
    go_wp2
    go_ret
    exact ⟨ret_bool HR.out, rfl⟩
  · have HR : Hid (true = nmI n) := by
      show _ = _; symm; unfold nmI; apply decide_eq_true; omega
    have a1 : ¬ n < 97 := by omega
    have a3 : 97 ≤ n := by omega
    have b1 : ¬ n < 48 := by omega
    have b3 : 48 ≤ n := by omega
    have c1 : ¬ 122 < n := by omega
    have c3 : n ≤ 122 := by omega
    have d1 : 57 < n := by omega
    have d3 : ¬ n ≤ 57 := by omega
    have e1 : (n == 46) = false := nm_beqF (by omega)
    have f1 : (n == 95) = false := nm_beqF (by omega)
    have g1 : (n == 45) = false := nm_beqF (by omega)
    clear h hR
    go_enter Tryz.func86, Tryz.ntmps86
    go_wp2
    go_ret
    exact ⟨ret_bool HR.out, rfl⟩
  · have HR : Hid (false = nmI n) := by
      show _ = _; symm; unfold nmI; apply decide_eq_false; omega
    have a1 : ¬ n < 97 := by omega
    have a3 : 97 ≤ n := by omega
    have b1 : ¬ n < 48 := by omega
    have b3 : 48 ≤ n := by omega
    have c1 : 122 < n := by omega
    have c3 : ¬ n ≤ 122 := by omega
    have d1 : 57 < n := by omega
    have d3 : ¬ n ≤ 57 := by omega
    have e1 : (n == 46) = false := nm_beqF (by omega)
    have f1 : (n == 95) = false := nm_beqF (by omega)
    have g1 : (n == 45) = false := nm_beqF (by omega)
    clear h hR
    go_enter Tryz.func86, Tryz.ntmps86
    go_wp2
    go_ret
    exact ⟨ret_bool HR.out, rfl⟩

/-- The fault of a name. -/
def nf (s : ByteArray) : Int := if 1 ≤ s.size ∧ s.size ≤ 12 ∧ s ≠ ⟨#[46]⟩ ∧ s ≠ ⟨#[46, 46]⟩ ∧ (∀ k, (h : k < s.size) → nmB s[k] = true) then 0 else 1
theorem nf_short {s : ByteArray} (h : s.size < 1) : nf s = 1 := if_neg (by omega)
theorem nf_long {s : ByteArray} (h : 12 < s.size) : nf s = 1 := if_neg (by omega)
theorem nf_dot {s : ByteArray} (h : s = ⟨#[46]⟩) : nf s = 1 := if_neg (fun k => k.2.2.1 h)
theorem nf_dots {s : ByteArray} (h : s = ⟨#[46, 46]⟩) : nf s = 1 := if_neg (fun k => k.2.2.2.1 h)
theorem nf_byte {s : ByteArray} {k : Nat} (hk : k < s.size) (h : nmB s[k] = false) : nf s = 1 := if_neg (fun q => by rw [q.2.2.2.2 k hk] at h; cases h)
theorem nf_ok {s : ByteArray} (h1 : ¬ s.size < 1) (h2 : ¬ 12 < s.size) (h3 : ¬ s = ⟨#[46]⟩) (h4 : ¬ s = ⟨#[46, 46]⟩) (h5 : ∀ k, (h : k < s.size) → nmB s[k] = true) : nf s = 0 := if_pos ⟨by omega, by omega, h3, h4, h5⟩
theorem nf_or (s : ByteArray) : nf s = 0 ∨ nf s = 1 := by
  unfold nf
  split
  · exact .inl rfl
  · exact .inr rfl

theorem nm_eqF {s : ByteArray} {l : List UInt8} (h : ¬ s = ⟨l.toArray⟩) : (s.toList == l) = false := by
  cases e : (s.toList == l) with
  | false => rfl
  | true =>
    have e2 : s.toList = l := by simpa using e
    refine absurd ?_ h
    rw [ByteArray.toList_eq] at e2
    obtain ⟨⟨x⟩⟩ := s
    have e3 : x = l := e2
    rw [e3]
theorem nm_eqT {s : ByteArray} {l : List UInt8} (h : s = ⟨l.toArray⟩) : (s.toList == l) = true := by
  have e : s.toList = l := by rw [h, ByteArray.toList_eq]
  rw [e]; simp
set_option maxHeartbeats 1000000 in
theorem specNameFault (s : ByteArray) (w : World) :
    Calls Tryz.prog 83 #[.string s] w fun e w' => e = .returned (.int .i64 (nf s)) ∧ w' = w := by
  by_cases h1 : s.size < 1
  · have HR : Hid (nf s = 1) := nf_short h1
    have q1 : (s.size : Int) < 1 := by omega
    clear h1
    go_enter Tryz.func83, Tryz.ntmps83
    go_wp2
    go_ret
    exact ⟨ret_int HR.out.symm, rfl⟩
  have q1 : ¬ (s.size : Int) < 1 := by omega
  by_cases h2 : 12 < s.size
  · have HR : Hid (nf s = 1) := nf_long h2
    have q2 : (12 : Int) < (s.size : Int) := by omega
    clear h1 h2
    go_enter Tryz.func83, Tryz.ntmps83
    go_wp2
    go_ret
    exact ⟨ret_int HR.out.symm, rfl⟩
  have q2 : ¬ (12 : Int) < (s.size : Int) := by omega
  by_cases h3 : s = ⟨#[46]⟩
  · have HR : Hid (nf s = 1) := nf_dot h3
    have q3 : (s.toList == [46]) = true := nm_eqT h3
    clear h1 h2 h3
    go_enter Tryz.func83, Tryz.ntmps83
    go_wp2
    go_ret
    exact ⟨ret_int HR.out.symm, rfl⟩
  have q3 : (s.toList == [46]) = false := nm_eqF h3
  by_cases h4 : s = ⟨#[46, 46]⟩
  · have HR : Hid (nf s = 1) := nf_dots h4
    have q4 : (s.toList == [46, 46]) = true := nm_eqT h4
    clear h1 h2 h3 h4
    go_enter Tryz.func83, Tryz.ntmps83
    go_wp2
    go_ret
    exact ⟨ret_int HR.out.symm, rfl⟩
  have q4 : (s.toList == [46, 46]) = false := nm_eqF h4
  have HB : ∀ k, (h : k < s.size) → nmB s[k] = false → Hid (nf s = 1) := fun k hk h => nf_byte hk h
  have HG : (∀ k, (h : k < s.size) → nmB s[k] = true) → Hid (nf s = 0) := fun h => nf_ok h1 h2 h3 h4 h
  clear h1 h2 h3 h4
  go_enter Tryz.func83, Tryz.ntmps83
  go_wp2
  go_loop [3] (fun i => ∃ k : Nat, k ≤ s.size ∧ i = .int .i64 k ∧ Hid (∀ j, (h : j < s.size) → j < k → nmB s[j] = true)) (fun i => s.size - (intOf i).toNat)
  case atStart => exact ⟨0, by omega, rfl, fun j _ hj => by omega⟩
  case round =>
    obtain ⟨k, hk, rfl, hn⟩ := hrel
    by_cases hlt : k < s.size
    · have hkI : (k : Int) < (s.size : Int) := by omega
      have hC := fun w => l6NameByte (s[k].toNat : Int) w
      have hb := HB k hlt
      have hgo : nmB s[k] = true → Hid (∀ j, (h : j < s.size) → j < k + 1 → nmB s[j] = true) := fun e j hj h1 => by
        by_cases ej : j = k
        · subst ej; exact e
        · exact hn.out j hj (by omega)
      clear HB HG hn
      unfold nmB at hb hgo
      cases e : nmI (s[k].toNat : Int) with
      | false =>
        have HR := hb e
        rw [e] at hC
        clear e hb hgo
        go_wp2_with (go_at_call 96; refine (hC _).mono ?_; rintro e w' ⟨rfl, rfl⟩)
        go_ret
        exact ⟨ret_int HR.out.symm, rfl⟩
      | true =>
        have HN := hgo e
        rw [e] at hC
        clear e hb hgo
        go_wp2_with (go_at_call 96; refine (hC _).mono ?_; rintro e w' ⟨rfl, rfl⟩)
        go_round
        case rel => exact ⟨k + 1, by omega, by go_num, HN⟩
        case measure => simp [intOf]; omega
    · have hkI : ¬ (k : Int) < (s.size : Int) := by omega
      have HR := HG (fun j hj => hn.out j hj (by omega))
      clear HB HG hn
      go_wp2
      go_ret
      exact ⟨ret_int HR.out.symm, rfl⟩

set_option maxHeartbeats 1000000 in
theorem implNameFault (s : ByteArray) (w : World) :
    Calls Tryz.prog 65 #[.string s] w fun e w' => e = .returned (.int .i64 (nf s)) ∧ w' = w := by
  by_cases h1 : s.size < 1
  · have HR : Hid (nf s = 1) := nf_short h1
    have q1 : (s.size : Int) < 1 := by omega
    clear h1
    go_enter Tryz.func65, Tryz.ntmps65
    go_wp2
    go_ret
    exact ⟨ret_int HR.out.symm, rfl⟩
  have q1 : ¬ (s.size : Int) < 1 := by omega
  by_cases h2 : 12 < s.size
  · have HR : Hid (nf s = 1) := nf_long h2
    have q2 : (12 : Int) < (s.size : Int) := by omega
    clear h1 h2
    go_enter Tryz.func65, Tryz.ntmps65
    go_wp2
    go_ret
    exact ⟨ret_int HR.out.symm, rfl⟩
  have q2 : ¬ (12 : Int) < (s.size : Int) := by omega
  have HB : ∀ k, (h : k < s.size) → nmB s[k] = false → Hid (nf s = 1) := fun k hk h => nf_byte hk h
  have H3 : s = ⟨#[46]⟩ → Hid (nf s = 1) := fun h => nf_dot h
  have H4 : s = ⟨#[46, 46]⟩ → Hid (nf s = 1) := fun h => nf_dots h
  have HG : ¬ s = ⟨#[46]⟩ → ¬ s = ⟨#[46, 46]⟩ → (∀ k, (h : k < s.size) → nmB s[k] = true) → Hid (nf s = 0) := fun h3 h4 h => nf_ok h1 h2 h3 h4 h
  clear h1 h2
  go_enter Tryz.func65, Tryz.ntmps65
  go_wp2
  go_loop [14] (fun i => ∃ k : Nat, k ≤ s.size ∧ i = .int .i64 k ∧ Hid (∀ j, (h : j < s.size) → j < k → nmB s[j] = true)) (fun i => s.size - (intOf i).toNat)
  case atStart => exact ⟨0, by omega, rfl, fun j _ hj => by omega⟩
  case round =>
    obtain ⟨k, hk, rfl, hn⟩ := hrel
    by_cases hlt : k < s.size
    · have hkI : (k : Int) < (s.size : Int) := by omega
      have hC := fun w => isNameByte (s[k].toNat : Int) w
      have hb := HB k hlt
      have hgo : nmB s[k] = true → Hid (∀ j, (h : j < s.size) → j < k + 1 → nmB s[j] = true) := fun e j hj h1 => by
        by_cases ej : j = k
        · subst ej; exact e
        · exact hn.out j hj (by omega)
      clear HB HG hn H3 H4
      unfold nmB at hb hgo
      cases e : nmI (s[k].toNat : Int) with
      | false =>
        have HR := hb e
        rw [e] at hC
        clear e hb hgo
        go_wp2_with (go_at_call 86; refine (hC _).mono ?_; rintro e w' ⟨rfl, rfl⟩)
        go_ret
        exact ⟨ret_int HR.out.symm, rfl⟩
      | true =>
        have HN := hgo e
        rw [e] at hC
        clear e hb hgo
        go_wp2_with (go_at_call 86; refine (hC _).mono ?_; rintro e w' ⟨rfl, rfl⟩)
        go_round
        case rel => exact ⟨k + 1, by omega, by go_num, HN⟩
        case measure => simp [intOf]; omega
    · have hkI : ¬ (k : Int) < (s.size : Int) := by omega
      have HA : Hid (∀ j, (h : j < s.size) → nmB s[j] = true) := fun j hj => hn.out j hj (by omega)
      clear HB hn
      by_cases h3 : s = ⟨#[46]⟩
      · have HR := H3 h3
        have q3 : (s.toList == [46]) = true := nm_eqT h3
        clear H3 H4 HG HA h3
        go_wp2
        go_ret
        exact ⟨ret_int HR.out.symm, rfl⟩
      · have q3 : (s.toList == [46]) = false := nm_eqF h3
        by_cases h4 : s = ⟨#[46, 46]⟩
        · have HR := H4 h4
          have q4 : (s.toList == [46, 46]) = true := nm_eqT h4
          clear H3 H4 HG HA h3 h4
          go_wp2
          go_ret
          exact ⟨ret_int HR.out.symm, rfl⟩
        · have q4 : (s.toList == [46, 46]) = false := nm_eqF h4
          have HR := HG h3 h4 HA.out
          clear H3 H4 HG HA h3 h4
          go_wp2
          go_ret
          exact ⟨ret_int HR.out.symm, rfl⟩
end Go.Proofs.YtkgcpndnlefkoaaGreatDoor
/- The contracts of isIdOf, entryFault and l6Is. No statement is proved here. -/
namespace Go.Proofs.YtkgcpndnlefkoaaGreatDoor
open Go.ChangeShapes Go.WideShapes Go.ChangeAt Go.RowKit

/-- Is a text an id of a kind? -/
def ltr (k : Int) : UInt8 := if k = 1 then 98 else if k = 2 then 116 else 99
def isOf (k : Int) (id : ByteArray) : Bool := idB id.data.toList && decide (id.data.toList.getD 0 0 = ltr k)
theorem isOf_no {k : Int} {id : ByteArray} (h : idB id.data.toList = false) : isOf k id = false := by unfold isOf; rw [h]; rfl
theorem isOf_yes {k : Int} {a b c d e : UInt8} (h : idB [a, b, c, d, e] = true) : isOf k ⟨#[a, b, c, d, e]⟩ = decide (a = ltr k) := by
  unfold isOf
  show (idB [a, b, c, d, e] && _) = _
  rw [h]; rfl
theorem id5 {id : ByteArray} (h : idB id.data.toList = true) : ∃ a b c d e, id = ⟨#[a, b, c, d, e]⟩ := by
  have hl : id.data.toList.length = 5 := by
    by_cases h5 : id.data.toList.length = 5
    · exact h5
    · rw [idB_len h5] at h; cases h
  obtain ⟨a, b, c, d, e, he⟩ := five hl
  refine ⟨a, b, c, d, e, ?_⟩
  obtain ⟨⟨x⟩⟩ := id
  have : x = [a, b, c, d, e] := he
  rw [this]
theorem byteT {a : UInt8} {n : Nat} (hn : n < 256) (h : a = UInt8.ofNat n) : ((a.toNat : Int) == (n : Int)) = true := by
  rw [h]; simp [Nat.mod_eq_of_lt hn]
theorem byteF {a : UInt8} {n : Nat} (hn : n < 256) (h : ¬ a = UInt8.ofNat n) : ((a.toNat : Int) == (n : Int)) = false := by
  apply beq_eq_false_iff_ne.2
  intro e
  apply h
  apply UInt8.toNat_inj.1
  simp [Nat.mod_eq_of_lt hn]
  omega
set_option maxRecDepth 20000 in
set_option maxHeartbeats 1000000 in
theorem isIdOf (k : Int) (hk : k = 1 ∨ k = 2 ∨ k = 3) (id : ByteArray) (w : World) :
    Calls Tryz.prog 49 #[.int .i64 k, .string id] w fun e w' => e = .returned (.bool (isOf k id)) ∧ ∃ n, w' = w.drewN n := by
  have hI := fun w => implIsId id w
  cases hid : idB id.data.toList with
  | false =>
    rw [isOf_no hid]
    rw [hid] at hI
    clear hid
    go_enter Tryz.func49, Tryz.ntmps49
    go_wp2
    go_quiet ((go_at_call 66; exact Calls.quiet_of_same (hI _)))
    go_wp2
    go_ret
    exact ⟨rfl, _, rfl⟩
  | true =>
    obtain ⟨a, b, c, d, e, he⟩ := id5 hid
    subst he
    have hE := fun k => isOf_yes (k := k) (show idB [a, b, c, d, e] = true from hid)
    rw [hid] at hI
    clear hid
    rw [hE k]
    rcases hk with rfl | rfl | rfl
    · by_cases ea : a = 98
      · have HR : Hid (decide (a = ltr 1) = true) := by show _ = _; rw [ea]; rfl
        have q : ((a.toNat : Int) == 98) = true := byteT (n := 98) (by omega) ea
        clear ea hE
        go_enter Tryz.func49, Tryz.ntmps49
        go_wp2
        go_quiet ((go_at_call 66; exact Calls.quiet_of_same (hI _)))
        go_wp2
        go_ret
        exact ⟨ret_bool (by rw [HR.out]; exact q), _, rfl⟩
      · have HR : Hid (decide (a = ltr 1) = false) := by show _ = _; exact decide_eq_false ea
        have q : ((a.toNat : Int) == 98) = false := byteF (n := 98) (by omega) ea
        clear ea hE
        go_enter Tryz.func49, Tryz.ntmps49
        go_wp2
        go_quiet ((go_at_call 66; exact Calls.quiet_of_same (hI _)))
        go_wp2
        go_ret
        exact ⟨ret_bool (by rw [HR.out]; exact q), _, rfl⟩
    · by_cases ea : a = 116
      · have HR : Hid (decide (a = ltr 2) = true) := by show _ = _; rw [ea]; rfl
        have q : ((a.toNat : Int) == 116) = true := byteT (n := 116) (by omega) ea
        clear ea hE
        go_enter Tryz.func49, Tryz.ntmps49
        go_wp2
        go_quiet ((go_at_call 66; exact Calls.quiet_of_same (hI _)))
        go_wp2
        go_ret
        exact ⟨ret_bool (by rw [HR.out]; exact q), _, rfl⟩
      · have HR : Hid (decide (a = ltr 2) = false) := by show _ = _; exact decide_eq_false ea
        have q : ((a.toNat : Int) == 116) = false := byteF (n := 116) (by omega) ea
        clear ea hE
        go_enter Tryz.func49, Tryz.ntmps49
        go_wp2
        go_quiet ((go_at_call 66; exact Calls.quiet_of_same (hI _)))
        go_wp2
        go_ret
        exact ⟨ret_bool (by rw [HR.out]; exact q), _, rfl⟩
    · by_cases ea : a = 99
      · have HR : Hid (decide (a = ltr 3) = true) := by show _ = _; rw [ea]; rfl
        have q : ((a.toNat : Int) == 99) = true := byteT (n := 99) (by omega) ea
        clear ea hE
        go_enter Tryz.func49, Tryz.ntmps49
        go_wp2
        go_quiet ((go_at_call 66; exact Calls.quiet_of_same (hI _)))
        go_wp2
        go_ret
        exact ⟨ret_bool (by rw [HR.out]; exact q), _, rfl⟩
      · have HR : Hid (decide (a = ltr 3) = false) := by show _ = _; exact decide_eq_false ea
        have q : ((a.toNat : Int) == 99) = false := byteF (n := 99) (by omega) ea
        clear ea hE
        go_enter Tryz.func49, Tryz.ntmps49
        go_wp2
        go_quiet ((go_at_call 66; exact Calls.quiet_of_same (hI _)))
        go_wp2
        go_ret
        exact ⟨ret_bool (by rw [HR.out]; exact q), _, rfl⟩
set_option maxRecDepth 20000 in
set_option maxHeartbeats 1000000 in
theorem l5L (k : Int) (hk : k = 1 ∨ k = 2 ∨ k = 3) (w : World) : Calls Tryz.prog 63 #[.int .i64 k] w fun e w' => e = .returned (.string ⟨#[ltr k]⟩) ∧ w' = w := by
  rcases hk with rfl | rfl | rfl
  all_goals
    go_enter Tryz.func63, Tryz.ntmps63
    go_wp2
    go_ret
    exact ⟨rfl, rfl⟩
set_option maxRecDepth 20000 in
set_option maxHeartbeats 1000000 in
theorem l6Is (k : Int) (hk : k = 1 ∨ k = 2 ∨ k = 3) (id : ByteArray) (w : World) :
    Calls Tryz.prog 58 #[.string id, .int .i64 k] w fun e w' => e = .returned (.bool (isOf k id)) ∧ ∃ n, w' = w.drewN n := by
  have hI := fun w => specIsId id w
  have hL := fun w => l5L k hk w
  cases hid : idB id.data.toList with
  | false =>
    rw [isOf_no hid]
    rw [hid] at hI
    clear hid
    go_enter Tryz.func58, Tryz.ntmps58
    go_wp2
    go_quiet (first | (go_at_call 84; exact Calls.quiet_of_same (hI _)) | (go_at_call 63; exact Calls.quiet_of_same (hL _)))
    go_wp2
    go_ret
    exact ⟨rfl, _, rfl⟩
  | true =>
    obtain ⟨a, b, c, d, e, he⟩ := id5 hid
    subst he
    have hE := fun k => isOf_yes (k := k) (show idB [a, b, c, d, e] = true from hid)
    have hX : (⟨#[a, b, c, d, e]⟩ : ByteArray).extract 0 1 = ⟨#[a]⟩ := rfl
    rw [hid] at hI
    clear hid
    rw [hE k]
    rcases hk with rfl | rfl | rfl
    · by_cases ea : a = 98
      · have HR : Hid (decide (a = ltr 1) = true) := by show _ = _; rw [ea]; rfl
        clear ea hE
        go_enter Tryz.func58, Tryz.ntmps58
        go_wp2
        go_quiet (first | (go_at_call 84; exact Calls.quiet_of_same (hI _)) | (go_at_call 63; exact Calls.quiet_of_same (hL _)))
        go_wp2
        go_ret
        exact ⟨ret_bool (by rw [HR.out]; exact HR.out), _, rfl⟩
      · have HR : Hid (decide (a = ltr 1) = false) := by show _ = _; exact decide_eq_false ea
        clear ea hE
        go_enter Tryz.func58, Tryz.ntmps58
        go_wp2
        go_quiet (first | (go_at_call 84; exact Calls.quiet_of_same (hI _)) | (go_at_call 63; exact Calls.quiet_of_same (hL _)))
        go_wp2
        go_ret
        exact ⟨ret_bool (by rw [HR.out]; exact HR.out), _, rfl⟩
    · by_cases ea : a = 116
      · have HR : Hid (decide (a = ltr 2) = true) := by show _ = _; rw [ea]; rfl
        clear ea hE
        go_enter Tryz.func58, Tryz.ntmps58
        go_wp2
        go_quiet (first | (go_at_call 84; exact Calls.quiet_of_same (hI _)) | (go_at_call 63; exact Calls.quiet_of_same (hL _)))
        go_wp2
        go_ret
        exact ⟨ret_bool (by rw [HR.out]; exact HR.out), _, rfl⟩
      · have HR : Hid (decide (a = ltr 2) = false) := by show _ = _; exact decide_eq_false ea
        clear ea hE
        go_enter Tryz.func58, Tryz.ntmps58
        go_wp2
        go_quiet (first | (go_at_call 84; exact Calls.quiet_of_same (hI _)) | (go_at_call 63; exact Calls.quiet_of_same (hL _)))
        go_wp2
        go_ret
        exact ⟨ret_bool (by rw [HR.out]; exact HR.out), _, rfl⟩
    · by_cases ea : a = 99
      · have HR : Hid (decide (a = ltr 3) = true) := by show _ = _; rw [ea]; rfl
        clear ea hE
        go_enter Tryz.func58, Tryz.ntmps58
        go_wp2
        go_quiet (first | (go_at_call 84; exact Calls.quiet_of_same (hI _)) | (go_at_call 63; exact Calls.quiet_of_same (hL _)))
        go_wp2
        go_ret
        exact ⟨ret_bool (by rw [HR.out]; exact HR.out), _, rfl⟩
      · have HR : Hid (decide (a = ltr 3) = false) := by show _ = _; exact decide_eq_false ea
        clear ea hE
        go_enter Tryz.func58, Tryz.ntmps58
        go_wp2
        go_quiet (first | (go_at_call 84; exact Calls.quiet_of_same (hI _)) | (go_at_call 63; exact Calls.quiet_of_same (hL _)))
        go_wp2
        go_ret
        exact ⟨ret_bool (by rw [HR.out]; exact HR.out), _, rfl⟩
/-- The fault of an entry. -/
def ek (x1 : Int) : Int := if x1 = 3 then 2 else 1
def ef (x0 : ByteArray) (x1 : Int) (x2 : ByteArray) : Int := if nf x0 = 0 then (if inB x1 1 3 = true then (if isOf (ek x1) x2 = true then 0 else 1) else 3) else nf x0
end Go.Proofs.YtkgcpndnlefkoaaGreatDoor
