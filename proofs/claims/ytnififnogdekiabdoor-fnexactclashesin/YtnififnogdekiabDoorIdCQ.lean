/- The contracts of IsId (the program's and the specification's). No statement is proved here. -/
import Derived.Test.YtnififnogdekiabDoorRows
import Derived.Test.YtnififnogdekiabDoorLemQ
import Derived.Test.YtnififnogdekiabDoorIdxBQ
import Derived.Test.YtnififnogdekiabDoorIdLQ
import Derived.WalkKit
import Derived.ProofKit
import Derived.Below
namespace Go.Proofs.YtnififnogdekiabDoor
open Go.ChangeShapes Go.WideShapes Go.ChangeAt Go.RowKit

theorem getD_byte (s : ByteArray) (k : Nat) (h : k < s.size) : s.data.toList.getD k 0 = s[k] := by
  have h2 : s.data.toList.length = s.size := by simp
  rw [List.getD_eq_getElem?_getD, List.getElem?_eq_getElem (by omega)]; rfl
theorem bneF {x n : Int} (h : x = n) : (x != n) = false := by simp [h]
theorem bneT {x n : Int} (h : ¬ x = n) : (x != n) = true := by simp [h]
set_option maxHeartbeats 400000 in
theorem specIsId (s : ByteArray) (w : World) :
    Calls Tryd.prog 91 #[.string s] w fun e w' => e = .returned (.bool (idB s.data.toList)) ∧ w' = w := by
  have hl : s.data.toList.length = s.size := by simp
  by_cases h5 : s.size = 5
  · have H5 : Hid (s.data.toList.length = 5) := by show _ = _; rw [hl, h5]
    have q5 : ((s.size : Int) != 5) = false := by simp [h5]
    have p0 : 0 < s.size := by omega
    have q0 : (0 : Int) < (s.size : Int) := by omega
    have qs : (5 : Int) ≤ (s.size : Int) := by omega
    have HF : Hid (∀ k, (hk : k < 5) → k < s.size) := fun k hk => by omega
    have g0 := getD_byte s 0 p0
    have L0 := fun h => idB_let H5.out (l := s.data.toList) h
    clear hl h5
    have hD : Hid ((s[0]'p0).toNat = 98 ∨ (s[0]'p0).toNat = 116 ∨ (s[0]'p0).toNat = 99 ∨ isLet (s[0]'p0) = false) := by
      show _ ∨ _
      by_cases e : isLet (s[0]'p0) = true
      · have := of_decide_eq_true e
        omega
      · simp at e
        exact .inr (.inr (.inr e))
    have LP : isLet (s[0]'p0) = true → Hid (idUp s.data.toList 1) := fun h => ⟨by rw [g0]; exact h, fun j h1 h2 => by omega⟩
    have PR : Hid (∀ k, (h1 : 1 ≤ k) → (hk : k < 5) → isHex (s[k]'(HF.out k hk)) = false → idB s.data.toList = false) := fun k h1 hk hx => idB_hex H5.out k h1 hk hx
    have PF : Hid (idUp s.data.toList 5 → idB s.data.toList = true) := fun h => idUp_full H5.out h
    rcases hD.out with e | e | e | e
    rotate_left 3
    · have HR : Hid (idB s.data.toList = false) := L0 e
      have e1 : isLet (s[0]'p0) = false := e
      unfold isLet at e1
      have e2 := of_decide_eq_false e1
      have z1 : (((s[0]'p0).toNat : Int) != 98) = true := by simp; omega
      have z2 : (((s[0]'p0).toNat : Int) != 116) = true := by simp; omega
      have z3 : (((s[0]'p0).toNat : Int) != 99) = true := by simp; omega
      clear e e1 e2 hD L0 LP g0
      go_enter Tryd.func91, Tryd.ntmps91
      go_wp2
      go_ret
      exact ⟨ret_bool HR.out.symm, rfl⟩
    · have U := LP (by unfold isLet; simp [e])
      have z1 : (((s[0]'p0).toNat : Int) != 98) = false := bneF (by rw [e]; decide)
      clear e hD L0 LP g0
      go_enter Tryd.func91, Tryd.ntmps91
      go_wp2
      go_loop [3] (fun i => ∃ k : Nat, 1 ≤ k ∧ k ≤ 5 ∧ i = .int .i64 k ∧ Hid (idUp s.data.toList k)) (fun i => 5 - (intOf i).toNat)
      case atStart => exact ⟨1, by omega, by omega, rfl, U⟩
      case round =>
        obtain ⟨k, hk1, hk, rfl, hn⟩ := hrel
        by_cases hlt : k < 5
        · have hks : k < s.size := HF.out k hlt
          have hkI : (k : Int) < 5 := by omega
          have hb := PR.out k hk1 hlt
          have hgo : isHex s[k] = true → Hid (idUp s.data.toList (k + 1)) := fun h => idUp_next hn.out (by rw [getD_byte s k hks]; exact h)
          have h5 : (s[k].toNat : Int) < 48 ∨ (48 ≤ (s[k].toNat : Int) ∧ (s[k].toNat : Int) ≤ 57) ∨ (57 < (s[k].toNat : Int) ∧ (s[k].toNat : Int) < 97) ∨ (97 ≤ (s[k].toNat : Int) ∧ (s[k].toNat : Int) ≤ 102) ∨ 102 < (s[k].toNat : Int) := by omega
          clear hn z1
          rcases h5 with h | ⟨h, h'⟩ | ⟨h, h'⟩ | ⟨h, h'⟩ | h
          · have HR : Hid (idB s.data.toList = false) := hb (by unfold isHex; apply decide_eq_false; omega)
            have y1 : (s[k].toNat : Int) < 97 := by omega
            clear hgo hb
            go_wp2
            go_ret
            exact ⟨ret_bool HR.out.symm, rfl⟩
          · have HG := hgo (by unfold isHex; apply decide_eq_true; omega)
            have y1 : ¬ (s[k].toNat : Int) < 48 := by omega
            have y2 : ¬ 57 < (s[k].toNat : Int) := by omega
            clear hgo hb
            go_wp2
            go_round
            case rel => exact ⟨k + 1, by omega, by omega, by go_num, HG⟩
            case measure => simp [intOf]; omega
          · have HR : Hid (idB s.data.toList = false) := hb (by unfold isHex; apply decide_eq_false; omega)
            have y1 : ¬ (s[k].toNat : Int) < 48 := by omega
            clear hgo hb
            go_wp2
            go_ret
            exact ⟨ret_bool HR.out.symm, rfl⟩
          · have HG := hgo (by unfold isHex; apply decide_eq_true; omega)
            have y1 : ¬ (s[k].toNat : Int) < 48 := by omega
            have y2 : 57 < (s[k].toNat : Int) := by omega
            have y3 : ¬ (s[k].toNat : Int) < 97 := by omega
            have y4 : ¬ 102 < (s[k].toNat : Int) := by omega
            clear hgo hb
            go_wp2
            go_round
            case rel => exact ⟨k + 1, by omega, by omega, by go_num, HG⟩
            case measure => simp [intOf]; omega
          · have HR : Hid (idB s.data.toList = false) := hb (by unfold isHex; apply decide_eq_false; omega)
            have y1 : ¬ (s[k].toNat : Int) < 48 := by omega
            have y2 : 57 < (s[k].toNat : Int) := by omega
            have y3 : ¬ (s[k].toNat : Int) < 97 := by omega
            clear hgo hb
            go_wp2
            go_ret
            exact ⟨ret_bool HR.out.symm, rfl⟩
        · have hkI : ¬ (k : Int) < 5 := by omega
          have ek : k = 5 := by omega
          have HR : Hid (idB s.data.toList = true) := PF.out (by rw [← ek]; exact hn.out)
          clear ek hn
          go_wp2
          go_ret
          exact ⟨ret_bool HR.out.symm, rfl⟩
    · have U := LP (by unfold isLet; simp [e])
      have z1 : (((s[0]'p0).toNat : Int) != 98) = true := bneT (by rw [e]; decide)
      have z2 : (((s[0]'p0).toNat : Int) != 116) = false := bneF (by rw [e]; decide)
      clear e hD L0 LP g0
      go_enter Tryd.func91, Tryd.ntmps91
      go_wp2
      go_loop [3] (fun i => ∃ k : Nat, 1 ≤ k ∧ k ≤ 5 ∧ i = .int .i64 k ∧ Hid (idUp s.data.toList k)) (fun i => 5 - (intOf i).toNat)
      case atStart => exact ⟨1, by omega, by omega, rfl, U⟩
      case round =>
        obtain ⟨k, hk1, hk, rfl, hn⟩ := hrel
        by_cases hlt : k < 5
        · have hks : k < s.size := HF.out k hlt
          have hkI : (k : Int) < 5 := by omega
          have hb := PR.out k hk1 hlt
          have hgo : isHex s[k] = true → Hid (idUp s.data.toList (k + 1)) := fun h => idUp_next hn.out (by rw [getD_byte s k hks]; exact h)
          have h5 : (s[k].toNat : Int) < 48 ∨ (48 ≤ (s[k].toNat : Int) ∧ (s[k].toNat : Int) ≤ 57) ∨ (57 < (s[k].toNat : Int) ∧ (s[k].toNat : Int) < 97) ∨ (97 ≤ (s[k].toNat : Int) ∧ (s[k].toNat : Int) ≤ 102) ∨ 102 < (s[k].toNat : Int) := by omega
          clear hn z1 z2
          rcases h5 with h | ⟨h, h'⟩ | ⟨h, h'⟩ | ⟨h, h'⟩ | h
          · have HR : Hid (idB s.data.toList = false) := hb (by unfold isHex; apply decide_eq_false; omega)
            have y1 : (s[k].toNat : Int) < 97 := by omega
            clear hgo hb
            go_wp2
            go_ret
            exact ⟨ret_bool HR.out.symm, rfl⟩
          · have HG := hgo (by unfold isHex; apply decide_eq_true; omega)
            have y1 : ¬ (s[k].toNat : Int) < 48 := by omega
            have y2 : ¬ 57 < (s[k].toNat : Int) := by omega
            clear hgo hb
            go_wp2
            go_round
            case rel => exact ⟨k + 1, by omega, by omega, by go_num, HG⟩
            case measure => simp [intOf]; omega
          · have HR : Hid (idB s.data.toList = false) := hb (by unfold isHex; apply decide_eq_false; omega)
            have y1 : ¬ (s[k].toNat : Int) < 48 := by omega
            clear hgo hb
            go_wp2
            go_ret
            exact ⟨ret_bool HR.out.symm, rfl⟩
          · have HG := hgo (by unfold isHex; apply decide_eq_true; omega)
            have y1 : ¬ (s[k].toNat : Int) < 48 := by omega
            have y2 : 57 < (s[k].toNat : Int) := by omega
            have y3 : ¬ (s[k].toNat : Int) < 97 := by omega
            have y4 : ¬ 102 < (s[k].toNat : Int) := by omega
            clear hgo hb
            go_wp2
            go_round
            case rel => exact ⟨k + 1, by omega, by omega, by go_num, HG⟩
            case measure => simp [intOf]; omega
          · have HR : Hid (idB s.data.toList = false) := hb (by unfold isHex; apply decide_eq_false; omega)
            have y1 : ¬ (s[k].toNat : Int) < 48 := by omega
            have y2 : 57 < (s[k].toNat : Int) := by omega
            have y3 : ¬ (s[k].toNat : Int) < 97 := by omega
            clear hgo hb
            go_wp2
            go_ret
            exact ⟨ret_bool HR.out.symm, rfl⟩
        · have hkI : ¬ (k : Int) < 5 := by omega
          have ek : k = 5 := by omega
          have HR : Hid (idB s.data.toList = true) := PF.out (by rw [← ek]; exact hn.out)
          clear ek hn
          go_wp2
          go_ret
          exact ⟨ret_bool HR.out.symm, rfl⟩
    · have U := LP (by unfold isLet; simp [e])
      have z1 : (((s[0]'p0).toNat : Int) != 98) = true := bneT (by rw [e]; decide)
      have z2 : (((s[0]'p0).toNat : Int) != 116) = true := bneT (by rw [e]; decide)
      have z3 : (((s[0]'p0).toNat : Int) != 99) = false := bneF (by rw [e]; decide)
      clear e hD L0 LP g0
      go_enter Tryd.func91, Tryd.ntmps91
      go_wp2
      go_loop [3] (fun i => ∃ k : Nat, 1 ≤ k ∧ k ≤ 5 ∧ i = .int .i64 k ∧ Hid (idUp s.data.toList k)) (fun i => 5 - (intOf i).toNat)
      case atStart => exact ⟨1, by omega, by omega, rfl, U⟩
      case round =>
        obtain ⟨k, hk1, hk, rfl, hn⟩ := hrel
        by_cases hlt : k < 5
        · have hks : k < s.size := HF.out k hlt
          have hkI : (k : Int) < 5 := by omega
          have hb := PR.out k hk1 hlt
          have hgo : isHex s[k] = true → Hid (idUp s.data.toList (k + 1)) := fun h => idUp_next hn.out (by rw [getD_byte s k hks]; exact h)
          have h5 : (s[k].toNat : Int) < 48 ∨ (48 ≤ (s[k].toNat : Int) ∧ (s[k].toNat : Int) ≤ 57) ∨ (57 < (s[k].toNat : Int) ∧ (s[k].toNat : Int) < 97) ∨ (97 ≤ (s[k].toNat : Int) ∧ (s[k].toNat : Int) ≤ 102) ∨ 102 < (s[k].toNat : Int) := by omega
          clear hn z1 z2 z3
          rcases h5 with h | ⟨h, h'⟩ | ⟨h, h'⟩ | ⟨h, h'⟩ | h
          · have HR : Hid (idB s.data.toList = false) := hb (by unfold isHex; apply decide_eq_false; omega)
            have y1 : (s[k].toNat : Int) < 97 := by omega
            clear hgo hb
            go_wp2
            go_ret
            exact ⟨ret_bool HR.out.symm, rfl⟩
          · have HG := hgo (by unfold isHex; apply decide_eq_true; omega)
            have y1 : ¬ (s[k].toNat : Int) < 48 := by omega
            have y2 : ¬ 57 < (s[k].toNat : Int) := by omega
            clear hgo hb
            go_wp2
            go_round
            case rel => exact ⟨k + 1, by omega, by omega, by go_num, HG⟩
            case measure => simp [intOf]; omega
          · have HR : Hid (idB s.data.toList = false) := hb (by unfold isHex; apply decide_eq_false; omega)
            have y1 : ¬ (s[k].toNat : Int) < 48 := by omega
            clear hgo hb
            go_wp2
            go_ret
            exact ⟨ret_bool HR.out.symm, rfl⟩
          · have HG := hgo (by unfold isHex; apply decide_eq_true; omega)
            have y1 : ¬ (s[k].toNat : Int) < 48 := by omega
            have y2 : 57 < (s[k].toNat : Int) := by omega
            have y3 : ¬ (s[k].toNat : Int) < 97 := by omega
            have y4 : ¬ 102 < (s[k].toNat : Int) := by omega
            clear hgo hb
            go_wp2
            go_round
            case rel => exact ⟨k + 1, by omega, by omega, by go_num, HG⟩
            case measure => simp [intOf]; omega
          · have HR : Hid (idB s.data.toList = false) := hb (by unfold isHex; apply decide_eq_false; omega)
            have y1 : ¬ (s[k].toNat : Int) < 48 := by omega
            have y2 : 57 < (s[k].toNat : Int) := by omega
            have y3 : ¬ (s[k].toNat : Int) < 97 := by omega
            clear hgo hb
            go_wp2
            go_ret
            exact ⟨ret_bool HR.out.symm, rfl⟩
        · have hkI : ¬ (k : Int) < 5 := by omega
          have ek : k = 5 := by omega
          have HR : Hid (idB s.data.toList = true) := PF.out (by rw [← ek]; exact hn.out)
          clear ek hn
          go_wp2
          go_ret
          exact ⟨ret_bool HR.out.symm, rfl⟩
  · have HR : Hid (idB s.data.toList = false) := idB_len (by rw [hl]; exact h5)
    have q5 : ((s.size : Int) != 5) = true := by simp; omega
    clear hl h5
    go_enter Tryd.func91, Tryd.ntmps91
    go_wp2
    go_ret
    exact ⟨ret_bool HR.out.symm, rfl⟩

theorem idx_let (c : UInt8) : decide (Lib.indexByte [98, 116, 99] ((c.toNat : Int).toNat.toUInt8) < 0) = !isLet c := by
  rw [toByte]
  have h := indexByte_mem [98, 116, 99] c
  have h2 := mem_let c
  cases e : isLet c with
  | true => rw [e] at h2; have := h.2 (h2.2 rfl); simp; omega
  | false =>
    have : ¬ 0 ≤ Lib.indexByte [98, 116, 99] c := fun hh => by have := h2.1 (h.1 hh); rw [e] at this; cases this
    simp; omega
theorem idx_hex (c : UInt8) : decide (Lib.indexByte [48, 49, 50, 51, 52, 53, 54, 55, 56, 57, 97, 98, 99, 100, 101, 102] ((c.toNat : Int).toNat.toUInt8) < 0) = !isHex c := by
  rw [toByte]
  have h := indexByte_mem [48, 49, 50, 51, 52, 53, 54, 55, 56, 57, 97, 98, 99, 100, 101, 102] c
  have h2 := mem_hex c
  cases e : isHex c with
  | true => rw [e] at h2; have := h.2 (h2.2 rfl); simp; omega
  | false =>
    have : ¬ 0 ≤ Lib.indexByte [48, 49, 50, 51, 52, 53, 54, 55, 56, 57, 97, 98, 99, 100, 101, 102] c := fun hh => by have := h2.1 (h.1 hh); rw [e] at this; cases this
    simp; omega
theorem idxLet (c : UInt8) (w : World) : Calls Tryd.prog 111 #[.string ⟨#[98, 116, 99]⟩, .int .u8 (c.toNat : Int)] w fun e w' => (∃ r : Int, e = .returned (.int .i64 r) ∧ decide (r < 0) = !isLet c) ∧ w' = w := by
  refine (indexByte _ _ _).mono ?_; rintro e w ⟨rfl, rfl⟩
  exact ⟨⟨_, rfl, idx_let c⟩, rfl⟩
theorem idxHex (c : UInt8) (w : World) : Calls Tryd.prog 111 #[.string ⟨#[48, 49, 50, 51, 52, 53, 54, 55, 56, 57, 97, 98, 99, 100, 101, 102]⟩, .int .u8 (c.toNat : Int)] w fun e w' => (∃ r : Int, e = .returned (.int .i64 r) ∧ decide (r < 0) = !isHex c) ∧ w' = w := by
  refine (indexByte _ _ _).mono ?_; rintro e w ⟨rfl, rfl⟩
  exact ⟨⟨_, rfl, idx_hex c⟩, rfl⟩
set_option maxHeartbeats 400000 in
theorem implIsId (s : ByteArray) (w : World) :
    Calls Tryd.prog 95 #[.string s] w fun e w' => e = .returned (.bool (idB s.data.toList)) ∧ w' = w := by
  have hl : s.data.toList.length = s.size := by simp
  by_cases h5 : s.size = 5
  · have H5 : Hid (s.data.toList.length = 5) := by show _ = _; rw [hl, h5]
    have q5 : ((s.size : Int) != 5) = false := by simp [h5]
    have p0 : 0 < s.size := by omega
    have q0 : (0 : Int) < (s.size : Int) := by omega
    have qs : (5 : Int) ≤ (s.size : Int) := by omega
    have HF : Hid (∀ k, (hk : k < 5) → k < s.size) := fun k hk => by omega
    have g0 := getD_byte s 0 p0
    have L0 : isLet (s[0]'p0) = false → Hid (idB s.data.toList = false) := fun h => idB_let H5.out (l := s.data.toList) h
    have LP : isLet (s[0]'p0) = true → Hid (idUp s.data.toList 1) := fun h => ⟨by rw [g0]; exact h, fun j h1 h2 => by omega⟩
    have PR : Hid (∀ k, (h1 : 1 ≤ k) → (hk : k < 5) → isHex (s[k]'(HF.out k hk)) = false → idB s.data.toList = false) := fun k h1 hk hx => idB_hex H5.out k h1 hk hx
    have PF : Hid (idUp s.data.toList 5 → idB s.data.toList = true) := fun h => idUp_full H5.out h
    clear hl h5 g0
    go_enter Tryd.func95, Tryd.ntmps95
    cases e : isLet (s[0]'p0) with
    | false =>
      have HR := L0 e
      have hI := idxLet (s[0]'p0)
      rw [e] at hI
      clear e L0 LP
      go_wp2_with (go_at_call 111; refine (hI _).mono ?_; rintro e w' ⟨⟨r, rfl, hr⟩, rfl⟩; replace hr : r < 0 := of_decide_eq_true hr)
      go_ret
      exact ⟨ret_bool HR.out.symm, rfl⟩
    | true =>
      have U := LP e
      have hI := idxLet (s[0]'p0)
      rw [e] at hI
      clear e L0 LP
      go_wp2_with (go_at_call 111; refine (hI _).mono ?_; rintro e w' ⟨⟨r, rfl, hr⟩, rfl⟩; replace hr : ¬ r < 0 := of_decide_eq_false hr)
      go_loop [3] (fun i => ∃ k : Nat, 1 ≤ k ∧ k ≤ 5 ∧ i = .int .i64 k ∧ Hid (idUp s.data.toList k)) (fun i => 5 - (intOf i).toNat)
      case atStart => exact ⟨1, by omega, by omega, rfl, U⟩
      case round =>
        obtain ⟨k, hk1, hk, rfl, hn⟩ := hrel
        by_cases hlt : k < 5
        · have hks : k < s.size := HF.out k hlt
          have hkI : (k : Int) < 5 := by omega
          have hb := PR.out k hk1 hlt
          have hgo : isHex s[k] = true → Hid (idUp s.data.toList (k + 1)) := fun h => idUp_next hn.out (by rw [getD_byte s k hks]; exact h)
          have hX := idxHex s[k]
          clear hn hI
          cases e : isHex s[k] with
          | false =>
            have HR : Hid (idB s.data.toList = false) := hb e
            rw [e] at hX
            clear e hb hgo
            go_wp2_with (go_at_call 111; refine (hX _).mono ?_; rintro e w' ⟨⟨r, rfl, hr⟩, rfl⟩; replace hr : r < 0 := of_decide_eq_true hr)
            go_ret
            exact ⟨ret_bool HR.out.symm, rfl⟩
          | true =>
            have HG := hgo e
            rw [e] at hX
            clear e hb hgo
            go_wp2_with (go_at_call 111; refine (hX _).mono ?_; rintro e w' ⟨⟨r, rfl, hr⟩, rfl⟩; replace hr : ¬ r < 0 := of_decide_eq_false hr)
            go_round
            case rel => exact ⟨k + 1, by omega, by omega, by go_num, HG⟩
            case measure => simp [intOf]; omega
        · have hkI : ¬ (k : Int) < 5 := by omega
          have ek : k = 5 := by omega
          have HR : Hid (idB s.data.toList = true) := PF.out (by rw [← ek]; exact hn.out)
          clear ek hn
          go_wp2
          go_ret
          exact ⟨ret_bool HR.out.symm, rfl⟩
  · have HR : Hid (idB s.data.toList = false) := idB_len (by rw [hl]; exact h5)
    have q5 : ((s.size : Int) != 5) = true := by simp; omega
    clear hl h5
    go_enter Tryd.func95, Tryd.ntmps95
    go_wp2
    go_ret
    exact ⟨ret_bool HR.out.symm, rfl⟩
end Go.Proofs.YtnififnogdekiabDoor
