/- The contracts of IsId (the program's and the specification's). No statement is proved here. -/
import Derived.Test.YtlgeoaepjghdhaaRows
import Derived.Test.YtlgeoaepjghdhaaLem
import Derived.Test.YtlgeoaepjghdhaaIdxB
import Derived.Test.YtlgeoaepjghdhaaIdL
import Derived.WalkKit
import Derived.ProofKit
import Derived.Below
namespace Go.Proofs.Ytlgeoaepjghdhaa
open Go.ChangeShapes Go.WideShapes Go.ChangeAt Go.RowKit

theorem getD_byte (s : ByteArray) (k : Nat) (h : k < s.size) : s.data.toList.getD k 0 = s[k] := by
  have h2 : s.data.toList.length = s.size := by simp
  rw [List.getD_eq_getElem?_getD, List.getElem?_eq_getElem (by omega)]; rfl
theorem bneF {x n : Int} (h : x = n) : (x != n) = false := by simp [h]
theorem bneT {x n : Int} (h : ¬ x = n) : (x != n) = true := by simp [h]
theorem idx_let (c : UInt8) : decide (Lib.indexByte [98, 116, 99] ((c.toNat : Int).toNat.toUInt8) < 0) = !isLet c := by
  rw [toByte]
  have h := indexByte_mem [98, 116, 99] c
  have h2 := mem_let c
  cases e : isLet c with
  | true => rw [e] at h2; have := h.2 (h2.2 rfl); simp; omega
  | false =>
    have : ¬ 0 ≤ Lib.indexByte [98, 116, 99] c := fun hh => by have := h2.1 (h.1 hh); rw [e] at this; cases this
    simp; omega
theorem idx_hex (c : UInt8) : decide (Lib.indexByte [48, 49, 50, 51, 52, 53, 54, 55, 56, 57, 97, 98, 99, 100, 101, 102] ((c.toNat : Int).toNat.toUInt8) < 0) = !isHex c := by
  rw [toByte]
  have h := indexByte_mem [48, 49, 50, 51, 52, 53, 54, 55, 56, 57, 97, 98, 99, 100, 101, 102] c
  have h2 := mem_hex c
  cases e : isHex c with
  | true => rw [e] at h2; have := h.2 (h2.2 rfl); simp; omega
  | false =>
    have : ¬ 0 ≤ Lib.indexByte [48, 49, 50, 51, 52, 53, 54, 55, 56, 57, 97, 98, 99, 100, 101, 102] c := fun hh => by have := h2.1 (h.1 hh); rw [e] at this; cases this
    simp; omega
theorem idxLet (c : UInt8) (w : World) : Calls Try.prog 97 #[.string ⟨#[98, 116, 99]⟩, .int .u8 (c.toNat : Int)] w fun e w' => (∃ r : Int, e = .returned (.int .i64 r) ∧ decide (r < 0) = !isLet c) ∧ w' = w := by
  refine (indexByte _ _ _).mono ?_; rintro e w ⟨rfl, rfl⟩
  exact ⟨⟨_, rfl, idx_let c⟩, rfl⟩
theorem idxHex (c : UInt8) (w : World) : Calls Try.prog 97 #[.string ⟨#[48, 49, 50, 51, 52, 53, 54, 55, 56, 57, 97, 98, 99, 100, 101, 102]⟩, .int .u8 (c.toNat : Int)] w fun e w' => (∃ r : Int, e = .returned (.int .i64 r) ∧ decide (r < 0) = !isHex c) ∧ w' = w := by
  refine (indexByte _ _ _).mono ?_; rintro e w ⟨rfl, rfl⟩
  exact ⟨⟨_, rfl, idx_hex c⟩, rfl⟩
set_option maxHeartbeats 400000 in
theorem implIsId (s : ByteArray) (w : World) :
    Calls Try.prog 117 #[.string s] w fun e w' => e = .returned (.bool (idB s.data.toList)) ∧ w' = w := by
  have hl : s.data.toList.length = s.size := by simp
  by_cases h5 : s.size = 5
  · have H5 : Hid (s.data.toList.length = 5) := by show _ = _; rw [hl, h5]
    have q5 : ((s.size : Int) != 5) = false := by simp [h5]
    have p0 : 0 < s.size := by omega
    have q0 : (0 : Int) < (s.size : Int) := by omega
    have qs : (5 : Int) ≤ (s.size : Int) := by omega
    have HF : Hid (∀ k, (hk : k < 5) → k < s.size) := fun k hk => by omega
    have g0 := getD_byte s 0 p0
    have L0 : isLet (s[0]'p0) = false → Hid (idB s.data.toList = false) := fun h => idB_let H5.out (l := s.data.toList) h
    have LP : isLet (s[0]'p0) = true → Hid (idUp s.data.toList 1) := fun h => ⟨by rw [g0]; exact h, fun j h1 h2 => by omega⟩
    have PR : Hid (∀ k, (h1 : 1 ≤ k) → (hk : k < 5) → isHex (s[k]'(HF.out k hk)) = false → idB s.data.toList = false) := fun k h1 hk hx => idB_hex H5.out k h1 hk hx
    have PF : Hid (idUp s.data.toList 5 → idB s.data.toList = true) := fun h => idUp_full H5.out h
    clear hl h5 g0
    go_enter Try.func117, Try.ntmps117
    cases e : isLet (s[0]'p0) with
    | false =>
      have HR := L0 e
      have hI := idxLet (s[0]'p0)
      rw [e] at hI
      clear e L0 LP
      go_wp2_with (go_at_call 97; refine (hI _).mono ?_; rintro e w' ⟨⟨r, rfl, hr⟩, rfl⟩; replace hr : r < 0 := of_decide_eq_true hr)
      go_ret
      exact ⟨ret_bool HR.out.symm, rfl⟩
    | true =>
      have U := LP e
      have hI := idxLet (s[0]'p0)
      rw [e] at hI
      clear e L0 LP
      go_wp2_with (go_at_call 97; refine (hI _).mono ?_; rintro e w' ⟨⟨r, rfl, hr⟩, rfl⟩; replace hr : ¬ r < 0 := of_decide_eq_false hr)
      go_loop [3] (fun i => ∃ k : Nat, 1 ≤ k ∧ k ≤ 5 ∧ i = .int .i64 k ∧ Hid (idUp s.data.toList k)) (fun i => 5 - (intOf i).toNat)
      case atStart => exact ⟨1, by omega, by omega, rfl, U⟩
      case round =>
        obtain ⟨k, hk1, hk, rfl, hn⟩ := hrel
        by_cases hlt : k < 5
        · have hks : k < s.size := HF.out k hlt
          have hkI : (k : Int) < 5 := by omega
          have hb := PR.out k hk1 hlt
          have hgo : isHex s[k] = true → Hid (idUp s.data.toList (k + 1)) := fun h => idUp_next hn.out (by rw [getD_byte s k hks]; exact h)
          have hX := idxHex s[k]
          clear hn hI
          cases e : isHex s[k] with
          | false =>
            have HR : Hid (idB s.data.toList = false) := hb e
            rw [e] at hX
            clear e hb hgo
            go_wp2_with (go_at_call 97; refine (hX _).mono ?_; rintro e w' ⟨⟨r, rfl, hr⟩, rfl⟩; replace hr : r < 0 := of_decide_eq_true hr)
            go_ret
            exact ⟨ret_bool HR.out.symm, rfl⟩
          | true =>
            have HG := hgo e
            rw [e] at hX
            clear e hb hgo
            go_wp2_with (go_at_call 97; refine (hX _).mono ?_; rintro e w' ⟨⟨r, rfl, hr⟩, rfl⟩; replace hr : ¬ r < 0 := of_decide_eq_false hr)
            go_round
            case rel => exact ⟨k + 1, by omega, by omega, by go_num, HG⟩
            case measure => simp [intOf]; omega
        · have hkI : ¬ (k : Int) < 5 := by omega
          have ek : k = 5 := by omega
          have HR : Hid (idB s.data.toList = true) := PF.out (by rw [← ek]; exact hn.out)
          clear ek hn
          go_wp2
          go_ret
          exact ⟨ret_bool HR.out.symm, rfl⟩
  · have HR : Hid (idB s.data.toList = false) := idB_len (by rw [hl]; exact h5)
    have q5 : ((s.size : Int) != 5) = true := by simp; omega
    clear hl h5
    go_enter Try.func117, Try.ntmps117
    go_wp2
    go_ret
    exact ⟨ret_bool HR.out.symm, rfl⟩
end Go.Proofs.Ytlgeoaepjghdhaa
