/- Texts of this claim, laid together: IdC, TgC, TeL, Spl, Bld, ShelfB, JnC, BldF, WwC, TrC, TrW, TrG. -/
import Derived.Test.YtgidcncmicmggamGreatDoorRows
import Derived.Test.YtgidcncmicmggamGreatDoorM1
import Derived.Test.YtgidcncmicmggamGreatDoorM2
import Derived.WalkKit
import Derived.ProofKit
import Derived.Below
import Derived.WalkSpells
import Derived.Deep.QuietTactic
import Derived.BigQuiet
import Derived.Maps.AppendAt
import Derived.Lib.Strings
import Derived.Lib.Slices
import Derived.Lib.Walk
import Derived.Lib.Builder
import Derived.Lib.AppendStr
import Derived.Lib.UnsafeStr
import Derived.Laws.Externs
import Derived.Shelf.Strings.Builder1
import Derived.Shelf.Strings.Builder2
import Derived.Shelf.Strings.OnBuilder
import Derived.Shelf.Small.Bits
import Derived.Shelf.Small.Strs
import Derived.Shelf.Strings.BuilderF
import Derived.Shelf.Strconv.Itoa0
import Derived.Shelf.Strconv.Itoa1
import Derived.Shelf.LaysM
import Derived.Shelf.Strconv.Itoa2
import Derived.Shelf.Strconv.Itoa3
import Derived.Shelf.Strconv.Itoa4
import Derived.Shelf.Strconv.ParseIntEmpty
import Derived.Shelf.Strconv.Clone
import Derived.Shelf.Strconv.SyntaxError
import Derived.Shelf.LaysC
import Derived.Shelf.Strconv.ToError
import Derived.Shelf.Strconv.Lower
import Derived.Shelf.Strconv.ParseUint10
import Derived.Shelf.Strconv.ParseUint10Empty
import Derived.Shelf.Strconv.ParseUint10Any
import Derived.Shelf.Strconv.ParseInt10
import Derived.Shelf.Strconv.RangeError
import Derived.Shelf.Strconv.ToErrorRange
import Derived.Shelf.Strconv.ParseUintEmpty
import Derived.Shelf.Strconv.ParseUint10b64
import Derived.Shelf.Strconv.ParseUint10b32
import Derived.Shelf.Strconv.ParseUint10b16
import Derived.Shelf.Strconv.ParseUint10b8
import Derived.Shelf.Strconv.ParseUint10At
import Derived.Shelf.Strconv.ParseInt10At64
import Derived.Shelf.Strconv.ParseInt10At32
import Derived.Shelf.Strconv.ParseInt10At16
import Derived.Shelf.Strconv.ParseInt10At8
import Derived.Shelf.Strconv.ParseInt10All
import Derived.Shelf.Strconv.ParseIntPublic10
import Derived.Shelf.Strings.Search1
import Derived.Shelf.Strings.Search2
import Derived.Shelf.Strings.Search3
import Derived.Shelf.Strings.Cut
import Derived.Shelf.Strings.Shaped
import Derived.Shelf.Unicode.Decode
import Derived.Shelf.Unicode.DecodeSlow
import Derived.Shelf.Unicode.DecodeAny
import Derived.Shelf.Slices.Turned
import Derived.Test.YtgidcncmicmggamGreatDoorProg
import Derived.Laws.Concat
import Derived.Deep.RegionWith
import Derived.Deep.RegionHeld
import Derived.ChangeSame
import Derived.ChangeVars
import Derived.JoinedOf
import Derived.RowKit
import Derived.RowKitTokens
import Derived.LaidLaws
import Derived.LaidHandle
import Derived.LaidMore
import Derived.OpenShut
import Derived.OpenVars
import Derived.Stop.Joined
/- The contracts of IsId (the program's and the specification's). No statement is proved here. -/
namespace Go.Proofs.YtgidcncmicmggamGreatDoor
open Go.ChangeShapes Go.WideShapes Go.ChangeAt Go.RowKit

theorem getD_byte (s : ByteArray) (k : Nat) (h : k < s.size) : s.data.toList.getD k 0 = s[k] := by
  have h2 : s.data.toList.length = s.size := by simp
  rw [List.getD_eq_getElem?_getD, List.getElem?_eq_getElem (by omega)]; rfl
theorem bneF {x n : Int} (h : x = n) : (x != n) = false := by simp [h]
theorem bneT {x n : Int} (h : ¬ x = n) : (x != n) = true := by simp [h]
set_option maxHeartbeats 400000 in
theorem specIsId (s : ByteArray) (w : World) :
    Calls Tryz.prog 115 #[.string s] w fun e w' => e = .returned (.bool (idB s.data.toList)) ∧ w' = w := by
  have hl : s.data.toList.length = s.size := by simp
  by_cases h5 : s.size = 5
  · have H5 : Hid (s.data.toList.length = 5) := by show _ = _; rw [hl, h5]
    have q5 : ((s.size : Int) != 5) = false := by simp [h5]
    have p0 : 0 < s.size := by omega
    have q0 : (0 : Int) < (s.size : Int) := by omega
    have qs : (5 : Int) ≤ (s.size : Int) := by omega
    have HF : Hid (∀ k, (hk : k < 5) → k < s.size) := fun k hk => by omega
    have g0 := getD_byte s 0 p0
    have L0 := fun h => idB_let H5.out (l := s.data.toList) h
    clear hl h5
    have hD : Hid ((s[0]'p0).toNat = 98 ∨ (s[0]'p0).toNat = 116 ∨ (s[0]'p0).toNat = 99 ∨ isLet (s[0]'p0) = false) := by
      show _ ∨ _
      by_cases e : isLet (s[0]'p0) = true
      · have := of_decide_eq_true e
        omega
      · simp at e
        exact .inr (.inr (.inr e))
    have LP : isLet (s[0]'p0) = true → Hid (idUp s.data.toList 1) := fun h => ⟨by rw [g0]; exact h, fun j h1 h2 => by omega⟩
    have PR : Hid (∀ k, (h1 : 1 ≤ k) → (hk : k < 5) → isHex (s[k]'(HF.out k hk)) = false → idB s.data.toList = false) := fun k h1 hk hx => idB_hex H5.out k h1 hk hx
    have PF : Hid (idUp s.data.toList 5 → idB s.data.toList = true) := fun h => idUp_full H5.out h
    rcases hD.out with e | e | e | e
    rotate_left 3
    · have HR : Hid (idB s.data.toList = false) := L0 e
      have e1 : isLet (s[0]'p0) = false := e
      unfold isLet at e1
      have e2 := of_decide_eq_false e1
      have z1 : (((s[0]'p0).toNat : Int) != 98) = true := by simp; omega
      have z2 : (((s[0]'p0).toNat : Int) != 116) = true := by simp; omega
      have z3 : (((s[0]'p0).toNat : Int) != 99) = true := by simp; omega
      clear e e1 e2 hD L0 LP g0
      go_enter Tryz.func115, Tryz.ntmps115
      go_wp2
      go_ret
      exact ⟨ret_bool HR.out.symm, rfl⟩
    · have U := LP (by unfold isLet; simp [e])
      have z1 : (((s[0]'p0).toNat : Int) != 98) = false := bneF (by rw [e]; decide)
      clear e hD L0 LP g0
      go_enter Tryz.func115, Tryz.ntmps115
      go_wp2
      go_loop [3] (fun i => ∃ k : Nat, 1 ≤ k ∧ k ≤ 5 ∧ i = .int .i64 k ∧ Hid (idUp s.data.toList k)) (fun i => 5 - (intOf i).toNat)
      case atStart => exact ⟨1, by omega, by omega, rfl, U⟩
      case round =>
        obtain ⟨k, hk1, hk, rfl, hn⟩ := hrel
        by_cases hlt : k < 5
        · have hks : k < s.size := HF.out k hlt
          have hkI : (k : Int) < 5 := by omega
          have hb := PR.out k hk1 hlt
          have hgo : isHex s[k] = true → Hid (idUp s.data.toList (k + 1)) := fun h => idUp_next hn.out (by rw [getD_byte s k hks]; exact h)
          have h5 : (s[k].toNat : Int) < 48 ∨ (48 ≤ (s[k].toNat : Int) ∧ (s[k].toNat : Int) ≤ 57) ∨ (57 < (s[k].toNat : Int) ∧ (s[k].toNat : Int) < 97) ∨ (97 ≤ (s[k].toNat : Int) ∧ (s[k].toNat : Int) ≤ 102) ∨ 102 < (s[k].toNat : Int) := by omega
          clear hn z1
          rcases h5 with h | ⟨h, h'⟩ | ⟨h, h'⟩ | ⟨h, h'⟩ | h
          · have HR : Hid (idB s.data.toList = false) := hb (by unfold isHex; apply decide_eq_false; omega)
            have y1 : (s[k].toNat : Int) < 97 := by omega
            clear hgo hb
            go_wp2
            go_ret
            exact ⟨ret_bool HR.out.symm, rfl⟩
          · have HG := hgo (by unfold isHex; apply decide_eq_true; omega)
            have y1 : ¬ (s[k].toNat : Int) < 48 := by omega
            have y2 : ¬ 57 < (s[k].toNat : Int) := by omega
            clear hgo hb
            go_wp2
            go_round
            case rel => exact ⟨k + 1, by omega, by omega, by go_num, HG⟩
            case measure => simp [intOf]; omega
          · have HR : Hid (idB s.data.toList = false) := hb (by unfold isHex; apply decide_eq_false; omega)
            have y1 : ¬ (s[k].toNat : Int) < 48 := by omega
            clear hgo hb
            go_wp2
            go_ret
            exact ⟨ret_bool HR.out.symm, rfl⟩
          · have HG := hgo (by unfold isHex; apply decide_eq_true; omega)
            have y1 : ¬ (s[k].toNat : Int) < 48 := by omega
            have y2 : 57 < (s[k].toNat : Int) := by omega
            have y3 : ¬ (s[k].toNat : Int) < 97 := by omega
            have y4 : ¬ 102 < (s[k].toNat : Int) := by omega
            clear hgo hb
            go_wp2
            go_round
            case rel => exact ⟨k + 1, by omega, by omega, by go_num, HG⟩
            case measure => simp [intOf]; omega
          · have HR : Hid (idB s.data.toList = false) := hb (by unfold isHex; apply decide_eq_false; omega)
            have y1 : ¬ (s[k].toNat : Int) < 48 := by omega
            have y2 : 57 < (s[k].toNat : Int) := by omega
            have y3 : ¬ (s[k].toNat : Int) < 97 := by omega
            clear hgo hb
            go_wp2
            go_ret
            exact ⟨ret_bool HR.out.symm, rfl⟩
        · have hkI : ¬ (k : Int) < 5 := by omega
          have ek : k = 5 := by omega
          have HR : Hid (idB s.data.toList = true) := PF.out (by rw [← ek]; exact hn.out)
          clear ek hn
          go_wp2
          go_ret
          exact ⟨ret_bool HR.out.symm, rfl⟩
    · have U := LP (by unfold isLet; simp [e])
      have z1 : (((s[0]'p0).toNat : Int) != 98) = true := bneT (by rw [e]; decide)
      have z2 : (((s[0]'p0).toNat : Int) != 116) = false := bneF (by rw [e]; decide)
      clear e hD L0 LP g0
      go_enter Tryz.func115, Tryz.ntmps115
      go_wp2
      go_loop [3] (fun i => ∃ k : Nat, 1 ≤ k ∧ k ≤ 5 ∧ i = .int .i64 k ∧ Hid (idUp s.data.toList k)) (fun i => 5 - (intOf i).toNat)
      case atStart => exact ⟨1, by omega, by omega, rfl, U⟩
      case round =>
        obtain ⟨k, hk1, hk, rfl, hn⟩ := hrel
        by_cases hlt : k < 5
        · have hks : k < s.size := HF.out k hlt
          have hkI : (k : Int) < 5 := by omega
          have hb := PR.out k hk1 hlt
          have hgo : isHex s[k] = true → Hid (idUp s.data.toList (k + 1)) := fun h => idUp_next hn.out (by rw [getD_byte s k hks]; exact h)
          have h5 : (s[k].toNat : Int) < 48 ∨ (48 ≤ (s[k].toNat : Int) ∧ (s[k].toNat : Int) ≤ 57) ∨ (57 < (s[k].toNat : Int) ∧ (s[k].toNat : Int) < 97) ∨ (97 ≤ (s[k].toNat : Int) ∧ (s[k].toNat : Int) ≤ 102) ∨ 102 < (s[k].toNat : Int) := by omega
          clear hn z1 z2
          rcases h5 with h | ⟨h, h'⟩ | ⟨h, h'⟩ | ⟨h, h'⟩ | h
          · have HR : Hid (idB s.data.toList = false) := hb (by unfold isHex; apply decide_eq_false; omega)
            have y1 : (s[k].toNat : Int) < 97 := by omega
            clear hgo hb
            go_wp2
            go_ret
            exact ⟨ret_bool HR.out.symm, rfl⟩
          · have HG := hgo (by unfold isHex; apply decide_eq_true; omega)
            have y1 : ¬ (s[k].toNat : Int) < 48 := by omega
            have y2 : ¬ 57 < (s[k].toNat : Int) := by omega
            clear hgo hb
            go_wp2
            go_round
            case rel => exact ⟨k + 1, by omega, by omega, by go_num, HG⟩
            case measure => simp [intOf]; omega
          · have HR : Hid (idB s.data.toList = false) := hb (by unfold isHex; apply decide_eq_false; omega)
            have y1 : ¬ (s[k].toNat : Int) < 48 := by omega
            clear hgo hb
            go_wp2
            go_ret
            exact ⟨ret_bool HR.out.symm, rfl⟩
          · have HG := hgo (by unfold isHex; apply decide_eq_true; omega)
            have y1 : ¬ (s[k].toNat : Int) < 48 := by omega
            have y2 : 57 < (s[k].toNat : Int) := by omega
            have y3 : ¬ (s[k].toNat : Int) < 97 := by omega
            have y4 : ¬ 102 < (s[k].toNat : Int) := by omega
            clear hgo hb
            go_wp2
            go_round
            case rel => exact ⟨k + 1, by omega, by omega, by go_num, HG⟩
            case measure => simp [intOf]; omega
          · have HR : Hid (idB s.data.toList = false) := hb (by unfold isHex; apply decide_eq_false; omega)
            have y1 : ¬ (s[k].toNat : Int) < 48 := by omega
            have y2 : 57 < (s[k].toNat : Int) := by omega
            have y3 : ¬ (s[k].toNat : Int) < 97 := by omega
            clear hgo hb
            go_wp2
            go_ret
            exact ⟨ret_bool HR.out.symm, rfl⟩
        · have hkI : ¬ (k : Int) < 5 := by omega
          have ek : k = 5 := by omega
          have HR : Hid (idB s.data.toList = true) := PF.out (by rw [← ek]; exact hn.out)
          clear ek hn
          go_wp2
          go_ret
          exact ⟨ret_bool HR.out.symm, rfl⟩
    · have U := LP (by unfold isLet; simp [e])
      have z1 : (((s[0]'p0).toNat : Int) != 98) = true := bneT (by rw [e]; decide)
      have z2 : (((s[0]'p0).toNat : Int) != 116) = true := bneT (by rw [e]; decide)
      have z3 : (((s[0]'p0).toNat : Int) != 99) = false := bneF (by rw [e]; decide)
      clear e hD L0 LP g0
      go_enter Tryz.func115, Tryz.ntmps115
      go_wp2
      go_loop [3] (fun i => ∃ k : Nat, 1 ≤ k ∧ k ≤ 5 ∧ i = .int .i64 k ∧ Hid (idUp s.data.toList k)) (fun i => 5 - (intOf i).toNat)
      case atStart => exact ⟨1, by omega, by omega, rfl, U⟩
      case round =>
        obtain ⟨k, hk1, hk, rfl, hn⟩ := hrel
        by_cases hlt : k < 5
        · have hks : k < s.size := HF.out k hlt
          have hkI : (k : Int) < 5 := by omega
          have hb := PR.out k hk1 hlt
          have hgo : isHex s[k] = true → Hid (idUp s.data.toList (k + 1)) := fun h => idUp_next hn.out (by rw [getD_byte s k hks]; exact h)
          have h5 : (s[k].toNat : Int) < 48 ∨ (48 ≤ (s[k].toNat : Int) ∧ (s[k].toNat : Int) ≤ 57) ∨ (57 < (s[k].toNat : Int) ∧ (s[k].toNat : Int) < 97) ∨ (97 ≤ (s[k].toNat : Int) ∧ (s[k].toNat : Int) ≤ 102) ∨ 102 < (s[k].toNat : Int) := by omega
          clear hn z1 z2 z3
          rcases h5 with h | ⟨h, h'⟩ | ⟨h, h'⟩ | ⟨h, h'⟩ | h
          · have HR : Hid (idB s.data.toList = false) := hb (by unfold isHex; apply decide_eq_false; omega)
            have y1 : (s[k].toNat : Int) < 97 := by omega
            clear hgo hb
            go_wp2
            go_ret
            exact ⟨ret_bool HR.out.symm, rfl⟩
          · have HG := hgo (by unfold isHex; apply decide_eq_true; omega)
            have y1 : ¬ (s[k].toNat : Int) < 48 := by omega
            have y2 : ¬ 57 < (s[k].toNat : Int) := by omega
            clear hgo hb
            go_wp2
            go_round
            case rel => exact ⟨k + 1, by omega, by omega, by go_num, HG⟩
            case measure => simp [intOf]; omega
          · have HR : Hid (idB s.data.toList = false) := hb (by unfold isHex; apply decide_eq_false; omega)
            have y1 : ¬ (s[k].toNat : Int) < 48 := by omega
            clear hgo hb
            go_wp2
            go_ret
            exact ⟨ret_bool HR.out.symm, rfl⟩
          · have HG := hgo (by unfold isHex; apply decide_eq_true; omega)
            have y1 : ¬ (s[k].toNat : Int) < 48 := by omega
            have y2 : 57 < (s[k].toNat : Int) := by omega
            have y3 : ¬ (s[k].toNat : Int) < 97 := by omega
            have y4 : ¬ 102 < (s[k].toNat : Int) := by omega
            clear hgo hb
            go_wp2
            go_round
            case rel => exact ⟨k + 1, by omega, by omega, by go_num, HG⟩
            case measure => simp [intOf]; omega
          · have HR : Hid (idB s.data.toList = false) := hb (by unfold isHex; apply decide_eq_false; omega)
            have y1 : ¬ (s[k].toNat : Int) < 48 := by omega
            have y2 : 57 < (s[k].toNat : Int) := by omega
            have y3 : ¬ (s[k].toNat : Int) < 97 := by omega
            clear hgo hb
            go_wp2
            go_ret
            exact ⟨ret_bool HR.out.symm, rfl⟩
        · have hkI : ¬ (k : Int) < 5 := by omega
          have ek : k = 5 := by omega
          have HR : Hid (idB s.data.toList = true) := PF.out (by rw [← ek]; exact hn.out)
          clear ek hn
          go_wp2
          go_ret
          exact ⟨ret_bool HR.out.symm, rfl⟩
  · have HR : Hid (idB s.data.toList = false) := idB_len (by rw [hl]; exact h5)
    have q5 : ((s.size : Int) != 5) = true := by simp; omega
    clear hl h5
    go_enter Tryz.func115, Tryz.ntmps115
    go_wp2
    go_ret
    exact ⟨ret_bool HR.out.symm, rfl⟩

theorem idx_let (c : UInt8) : decide (Lib.indexByte [98, 116, 99] ((c.toNat : Int).toNat.toUInt8) < 0) = !isLet c := by
  rw [toByte]
  have h := indexByte_mem [98, 116, 99] c
  have h2 := mem_let c
  cases e : isLet c with
  | true => rw [e] at h2; have := h.2 (h2.2 rfl); simp; omega
  | false =>
    have : ¬ 0 ≤ Lib.indexByte [98, 116, 99] c := fun hh => by have := h2.1 (h.1 hh); rw [e] at this; cases this
    simp; omega
theorem idx_hex (c : UInt8) : decide (Lib.indexByte [48, 49, 50, 51, 52, 53, 54, 55, 56, 57, 97, 98, 99, 100, 101, 102] ((c.toNat : Int).toNat.toUInt8) < 0) = !isHex c := by
  rw [toByte]
  have h := indexByte_mem [48, 49, 50, 51, 52, 53, 54, 55, 56, 57, 97, 98, 99, 100, 101, 102] c
  have h2 := mem_hex c
  cases e : isHex c with
  | true => rw [e] at h2; have := h.2 (h2.2 rfl); simp; omega
  | false =>
    have : ¬ 0 ≤ Lib.indexByte [48, 49, 50, 51, 52, 53, 54, 55, 56, 57, 97, 98, 99, 100, 101, 102] c := fun hh => by have := h2.1 (h.1 hh); rw [e] at this; cases this
    simp; omega
theorem idxLet (c : UInt8) (w : World) : Calls Tryz.prog 139 #[.string ⟨#[98, 116, 99]⟩, .int .u8 (c.toNat : Int)] w fun e w' => (∃ r : Int, e = .returned (.int .i64 r) ∧ decide (r < 0) = !isLet c) ∧ w' = w := by
  refine (indexByte _ _ _).mono ?_; rintro e w ⟨rfl, rfl⟩
  exact ⟨⟨_, rfl, idx_let c⟩, rfl⟩
theorem idxHex (c : UInt8) (w : World) : Calls Tryz.prog 139 #[.string ⟨#[48, 49, 50, 51, 52, 53, 54, 55, 56, 57, 97, 98, 99, 100, 101, 102]⟩, .int .u8 (c.toNat : Int)] w fun e w' => (∃ r : Int, e = .returned (.int .i64 r) ∧ decide (r < 0) = !isHex c) ∧ w' = w := by
  refine (indexByte _ _ _).mono ?_; rintro e w ⟨rfl, rfl⟩
  exact ⟨⟨_, rfl, idx_hex c⟩, rfl⟩
set_option maxHeartbeats 400000 in
theorem implIsId (s : ByteArray) (w : World) :
    Calls Tryz.prog 136 #[.string s] w fun e w' => e = .returned (.bool (idB s.data.toList)) ∧ w' = w := by
  have hl : s.data.toList.length = s.size := by simp
  by_cases h5 : s.size = 5
  · have H5 : Hid (s.data.toList.length = 5) := by show _ = _; rw [hl, h5]
    have q5 : ((s.size : Int) != 5) = false := by simp [h5]
    have p0 : 0 < s.size := by omega
    have q0 : (0 : Int) < (s.size : Int) := by omega
    have qs : (5 : Int) ≤ (s.size : Int) := by omega
    have HF : Hid (∀ k, (hk : k < 5) → k < s.size) := fun k hk => by omega
    have g0 := getD_byte s 0 p0
    have L0 : isLet (s[0]'p0) = false → Hid (idB s.data.toList = false) := fun h => idB_let H5.out (l := s.data.toList) h
    have LP : isLet (s[0]'p0) = true → Hid (idUp s.data.toList 1) := fun h => ⟨by rw [g0]; exact h, fun j h1 h2 => by omega⟩
    have PR : Hid (∀ k, (h1 : 1 ≤ k) → (hk : k < 5) → isHex (s[k]'(HF.out k hk)) = false → idB s.data.toList = false) := fun k h1 hk hx => idB_hex H5.out k h1 hk hx
    have PF : Hid (idUp s.data.toList 5 → idB s.data.toList = true) := fun h => idUp_full H5.out h
    clear hl h5 g0
    go_enter Tryz.func136, Tryz.ntmps136
    cases e : isLet (s[0]'p0) with
    | false =>
      have HR := L0 e
      have hI := idxLet (s[0]'p0)
      rw [e] at hI
      clear e L0 LP
      go_wp2_with (go_at_call 139; refine (hI _).mono ?_; rintro e w' ⟨⟨r, rfl, hr⟩, rfl⟩; replace hr : r < 0 := of_decide_eq_true hr)
      go_ret
      exact ⟨ret_bool HR.out.symm, rfl⟩
    | true =>
      have U := LP e
      have hI := idxLet (s[0]'p0)
      rw [e] at hI
      clear e L0 LP
      go_wp2_with (go_at_call 139; refine (hI _).mono ?_; rintro e w' ⟨⟨r, rfl, hr⟩, rfl⟩; replace hr : ¬ r < 0 := of_decide_eq_false hr)
      go_loop [3] (fun i => ∃ k : Nat, 1 ≤ k ∧ k ≤ 5 ∧ i = .int .i64 k ∧ Hid (idUp s.data.toList k)) (fun i => 5 - (intOf i).toNat)
      case atStart => exact ⟨1, by omega, by omega, rfl, U⟩
      case round =>
        obtain ⟨k, hk1, hk, rfl, hn⟩ := hrel
        by_cases hlt : k < 5
        · have hks : k < s.size := HF.out k hlt
          have hkI : (k : Int) < 5 := by omega
          have hb := PR.out k hk1 hlt
          have hgo : isHex s[k] = true → Hid (idUp s.data.toList (k + 1)) := fun h => idUp_next hn.out (by rw [getD_byte s k hks]; exact h)
          have hX := idxHex s[k]
          clear hn hI
          cases e : isHex s[k] with
          | false =>
            have HR : Hid (idB s.data.toList = false) := hb e
            rw [e] at hX
            clear e hb hgo
            go_wp2_with (go_at_call 139; refine (hX _).mono ?_; rintro e w' ⟨⟨r, rfl, hr⟩, rfl⟩; replace hr : r < 0 := of_decide_eq_true hr)
            go_ret
            exact ⟨ret_bool HR.out.symm, rfl⟩
          | true =>
            have HG := hgo e
            rw [e] at hX
            clear e hb hgo
            go_wp2_with (go_at_call 139; refine (hX _).mono ?_; rintro e w' ⟨⟨r, rfl, hr⟩, rfl⟩; replace hr : ¬ r < 0 := of_decide_eq_false hr)
            go_round
            case rel => exact ⟨k + 1, by omega, by omega, by go_num, HG⟩
            case measure => simp [intOf]; omega
        · have hkI : ¬ (k : Int) < 5 := by omega
          have ek : k = 5 := by omega
          have HR : Hid (idB s.data.toList = true) := PF.out (by rw [← ek]; exact hn.out)
          clear ek hn
          go_wp2
          go_ret
          exact ⟨ret_bool HR.out.symm, rfl⟩
  · have HR : Hid (idB s.data.toList = false) := idB_len (by rw [hl]; exact h5)
    have q5 : ((s.size : Int) != 5) = true := by simp; omega
    clear hl h5
    go_enter Tryz.func136, Tryz.ntmps136
    go_wp2
    go_ret
    exact ⟨ret_bool HR.out.symm, rfl⟩
end Go.Proofs.YtgidcncmicmggamGreatDoor
/- The contracts of isIdOf, entryFault and l6Is. No statement is proved here. -/
namespace Go.Proofs.YtgidcncmicmggamGreatDoor
open Go.ChangeShapes Go.WideShapes Go.ChangeAt Go.RowKit

/-- Is a text an id of a kind? -/
def ltr (k : Int) : UInt8 := if k = 1 then 98 else if k = 2 then 116 else 99
def isOf (k : Int) (id : ByteArray) : Bool := idB id.data.toList && decide (id.data.toList.getD 0 0 = ltr k)
theorem isOf_no {k : Int} {id : ByteArray} (h : idB id.data.toList = false) : isOf k id = false := by unfold isOf; rw [h]; rfl
theorem isOf_yes {k : Int} {a b c d e : UInt8} (h : idB [a, b, c, d, e] = true) : isOf k ⟨#[a, b, c, d, e]⟩ = decide (a = ltr k) := by
  unfold isOf
  show (idB [a, b, c, d, e] && _) = _
  rw [h]; rfl
theorem id5 {id : ByteArray} (h : idB id.data.toList = true) : ∃ a b c d e, id = ⟨#[a, b, c, d, e]⟩ := by
  have hl : id.data.toList.length = 5 := by
    by_cases h5 : id.data.toList.length = 5
    · exact h5
    · rw [idB_len h5] at h; cases h
  obtain ⟨a, b, c, d, e, he⟩ := five hl
  refine ⟨a, b, c, d, e, ?_⟩
  obtain ⟨⟨x⟩⟩ := id
  have : x = [a, b, c, d, e] := he
  rw [this]
theorem byteT {a : UInt8} {n : Nat} (hn : n < 256) (h : a = UInt8.ofNat n) : ((a.toNat : Int) == (n : Int)) = true := by
  rw [h]; simp [Nat.mod_eq_of_lt hn]
theorem byteF {a : UInt8} {n : Nat} (hn : n < 256) (h : ¬ a = UInt8.ofNat n) : ((a.toNat : Int) == (n : Int)) = false := by
  apply beq_eq_false_iff_ne.2
  intro e
  apply h
  apply UInt8.toNat_inj.1
  simp [Nat.mod_eq_of_lt hn]
  omega
set_option maxRecDepth 20000 in
set_option maxHeartbeats 1000000 in
theorem isIdOf (k : Int) (hk : k = 1 ∨ k = 2 ∨ k = 3) (id : ByteArray) (w : World) :
    Calls Tryz.prog 123 #[.int .i64 k, .string id] w fun e w' => e = .returned (.bool (isOf k id)) ∧ ∃ n, w' = w.drewN n := by
  have hI := fun w => implIsId id w
  cases hid : idB id.data.toList with
  | false =>
    rw [isOf_no hid]
    rw [hid] at hI
    clear hid
    go_enter Tryz.func123, Tryz.ntmps123
    go_wp2
    go_quiet ((go_at_call 136; exact Calls.quiet_of_same (hI _)))
    go_wp2
    go_ret
    exact ⟨rfl, _, rfl⟩
  | true =>
    obtain ⟨a, b, c, d, e, he⟩ := id5 hid
    subst he
    have hE := fun k => isOf_yes (k := k) (show idB [a, b, c, d, e] = true from hid)
    rw [hid] at hI
    clear hid
    rw [hE k]
    rcases hk with rfl | rfl | rfl
    · by_cases ea : a = 98
      · have HR : Hid (decide (a = ltr 1) = true) := by show _ = _; rw [ea]; rfl
        have q : ((a.toNat : Int) == 98) = true := byteT (n := 98) (by omega) ea
        clear ea hE
        go_enter Tryz.func123, Tryz.ntmps123
        go_wp2
        go_quiet ((go_at_call 136; exact Calls.quiet_of_same (hI _)))
        go_wp2
        go_ret
        exact ⟨ret_bool (by rw [HR.out]; exact q), _, rfl⟩
      · have HR : Hid (decide (a = ltr 1) = false) := by show _ = _; exact decide_eq_false ea
        have q : ((a.toNat : Int) == 98) = false := byteF (n := 98) (by omega) ea
        clear ea hE
        go_enter Tryz.func123, Tryz.ntmps123
        go_wp2
        go_quiet ((go_at_call 136; exact Calls.quiet_of_same (hI _)))
        go_wp2
        go_ret
        exact ⟨ret_bool (by rw [HR.out]; exact q), _, rfl⟩
    · by_cases ea : a = 116
      · have HR : Hid (decide (a = ltr 2) = true) := by show _ = _; rw [ea]; rfl
        have q : ((a.toNat : Int) == 116) = true := byteT (n := 116) (by omega) ea
        clear ea hE
        go_enter Tryz.func123, Tryz.ntmps123
        go_wp2
        go_quiet ((go_at_call 136; exact Calls.quiet_of_same (hI _)))
        go_wp2
        go_ret
        exact ⟨ret_bool (by rw [HR.out]; exact q), _, rfl⟩
      · have HR : Hid (decide (a = ltr 2) = false) := by show _ = _; exact decide_eq_false ea
        have q : ((a.toNat : Int) == 116) = false := byteF (n := 116) (by omega) ea
        clear ea hE
        go_enter Tryz.func123, Tryz.ntmps123
        go_wp2
        go_quiet ((go_at_call 136; exact Calls.quiet_of_same (hI _)))
        go_wp2
        go_ret
        exact ⟨ret_bool (by rw [HR.out]; exact q), _, rfl⟩
    · by_cases ea : a = 99
      · have HR : Hid (decide (a = ltr 3) = true) := by show _ = _; rw [ea]; rfl
        have q : ((a.toNat : Int) == 99) = true := byteT (n := 99) (by omega) ea
        clear ea hE
        go_enter Tryz.func123, Tryz.ntmps123
        go_wp2
        go_quiet ((go_at_call 136; exact Calls.quiet_of_same (hI _)))
        go_wp2
        go_ret
        exact ⟨ret_bool (by rw [HR.out]; exact q), _, rfl⟩
      · have HR : Hid (decide (a = ltr 3) = false) := by show _ = _; exact decide_eq_false ea
        have q : ((a.toNat : Int) == 99) = false := byteF (n := 99) (by omega) ea
        clear ea hE
        go_enter Tryz.func123, Tryz.ntmps123
        go_wp2
        go_quiet ((go_at_call 136; exact Calls.quiet_of_same (hI _)))
        go_wp2
        go_ret
        exact ⟨ret_bool (by rw [HR.out]; exact q), _, rfl⟩
set_option maxRecDepth 20000 in
set_option maxHeartbeats 1000000 in
theorem l5L (k : Int) (hk : k = 1 ∨ k = 2 ∨ k = 3) (w : World) : Calls Tryz.prog 116 #[.int .i64 k] w fun e w' => e = .returned (.string ⟨#[ltr k]⟩) ∧ w' = w := by
  rcases hk with rfl | rfl | rfl
  all_goals
    go_enter Tryz.func116, Tryz.ntmps116
    go_wp2
    go_ret
    exact ⟨rfl, rfl⟩
set_option maxRecDepth 20000 in
set_option maxHeartbeats 1000000 in
theorem l6Is (k : Int) (hk : k = 1 ∨ k = 2 ∨ k = 3) (id : ByteArray) (w : World) :
    Calls Tryz.prog 71 #[.string id, .int .i64 k] w fun e w' => e = .returned (.bool (isOf k id)) ∧ ∃ n, w' = w.drewN n := by
  have hI := fun w => specIsId id w
  have hL := fun w => l5L k hk w
  cases hid : idB id.data.toList with
  | false =>
    rw [isOf_no hid]
    rw [hid] at hI
    clear hid
    go_enter Tryz.func71, Tryz.ntmps71
    go_wp2
    go_quiet (first | (go_at_call 115; exact Calls.quiet_of_same (hI _)) | (go_at_call 116; exact Calls.quiet_of_same (hL _)))
    go_wp2
    go_ret
    exact ⟨rfl, _, rfl⟩
  | true =>
    obtain ⟨a, b, c, d, e, he⟩ := id5 hid
    subst he
    have hE := fun k => isOf_yes (k := k) (show idB [a, b, c, d, e] = true from hid)
    have hX : (⟨#[a, b, c, d, e]⟩ : ByteArray).extract 0 1 = ⟨#[a]⟩ := rfl
    rw [hid] at hI
    clear hid
    rw [hE k]
    rcases hk with rfl | rfl | rfl
    · by_cases ea : a = 98
      · have HR : Hid (decide (a = ltr 1) = true) := by show _ = _; rw [ea]; rfl
        clear ea hE
        go_enter Tryz.func71, Tryz.ntmps71
        go_wp2
        go_quiet (first | (go_at_call 115; exact Calls.quiet_of_same (hI _)) | (go_at_call 116; exact Calls.quiet_of_same (hL _)))
        go_wp2
        go_ret
        exact ⟨ret_bool (by rw [HR.out]; exact HR.out), _, rfl⟩
      · have HR : Hid (decide (a = ltr 1) = false) := by show _ = _; exact decide_eq_false ea
        clear ea hE
        go_enter Tryz.func71, Tryz.ntmps71
        go_wp2
        go_quiet (first | (go_at_call 115; exact Calls.quiet_of_same (hI _)) | (go_at_call 116; exact Calls.quiet_of_same (hL _)))
        go_wp2
        go_ret
        exact ⟨ret_bool (by rw [HR.out]; exact HR.out), _, rfl⟩
    · by_cases ea : a = 116
      · have HR : Hid (decide (a = ltr 2) = true) := by show _ = _; rw [ea]; rfl
        clear ea hE
        go_enter Tryz.func71, Tryz.ntmps71
        go_wp2
        go_quiet (first | (go_at_call 115; exact Calls.quiet_of_same (hI _)) | (go_at_call 116; exact Calls.quiet_of_same (hL _)))
        go_wp2
        go_ret
        exact ⟨ret_bool (by rw [HR.out]; exact HR.out), _, rfl⟩
      · have HR : Hid (decide (a = ltr 2) = false) := by show _ = _; exact decide_eq_false ea
        clear ea hE
        go_enter Tryz.func71, Tryz.ntmps71
        go_wp2
        go_quiet (first | (go_at_call 115; exact Calls.quiet_of_same (hI _)) | (go_at_call 116; exact Calls.quiet_of_same (hL _)))
        go_wp2
        go_ret
        exact ⟨ret_bool (by rw [HR.out]; exact HR.out), _, rfl⟩
    · by_cases ea : a = 99
      · have HR : Hid (decide (a = ltr 3) = true) := by show _ = _; rw [ea]; rfl
        clear ea hE
        go_enter Tryz.func71, Tryz.ntmps71
        go_wp2
        go_quiet (first | (go_at_call 115; exact Calls.quiet_of_same (hI _)) | (go_at_call 116; exact Calls.quiet_of_same (hL _)))
        go_wp2
        go_ret
        exact ⟨ret_bool (by rw [HR.out]; exact HR.out), _, rfl⟩
      · have HR : Hid (decide (a = ltr 3) = false) := by show _ = _; exact decide_eq_false ea
        clear ea hE
        go_enter Tryz.func71, Tryz.ntmps71
        go_wp2
        go_quiet (first | (go_at_call 115; exact Calls.quiet_of_same (hI _)) | (go_at_call 116; exact Calls.quiet_of_same (hL _)))
        go_wp2
        go_ret
        exact ⟨ret_bool (by rw [HR.out]; exact HR.out), _, rfl⟩
/-- The fault of an entry. -/
def ek (x1 : Int) : Int := if x1 = 3 then 2 else 1
def ef (x0 : ByteArray) (x1 : Int) (x2 : ByteArray) : Int := if nf x0 = 0 then (if inB x1 1 3 = true then (if isOf (ek x1) x2 = true then 0 else 1) else 3) else nf x0
end Go.Proofs.YtgidcncmicmggamGreatDoor
/- Rows of entries in memory: their cells, who owns them, and what is left of a size. No statement is proved here. -/
namespace Go.Proofs.YtgidcncmicmggamGreatDoor.Te
open Go.ChangeShapes Go.WideShapes Go.ChangeAt Go.RowKit

/-- An entry: its id, its kind, its data. -/
abbrev Ob := ByteArray × Int × ByteArray
def onil : Ob := (ByteArray.empty, 0, ByteArray.empty)
theorem ob_mem (l : List Ob) (k : Nat) (hk : k < l.length) : l.getD k onil ∈ l := by
  rw [List.getD, List.getElem?_eq_getElem hk]; exact List.getElem_mem hk
theorem ob_drop (l : List Ob) (k : Nat) (h : k < l.length) : l.drop k = l.getD k onil :: l.drop (k + 1) := by
  rw [List.drop_eq_getElem_cons h]; simp [List.getD, h]
theorem ob_take (l : List Ob) (k : Nat) (h : k < l.length) : l.take (k + 1) = l.take k ++ [l.getD k onil] := by
  rw [List.take_succ_eq_append_getElem h]; simp [List.getD, h]
/-- A row of cells, told by a function. -/
def rowG (f : Nat → Value) (m : Nat) : List Value := (List.range m).map f
theorem rowG_length (f : Nat → Value) (m : Nat) : (rowG f m).length = m := by simp [rowG]
theorem rowG_at (f : Nat → Value) (m j : Nat) (h : j < m) : (rowG f m)[j]? = some (f j) := by simp [rowG, h]
theorem rowG_congr {f g : Nat → Value} {m : Nat} (h : ∀ j, j < m → f j = g j) : rowG f m = rowG g m := by
  unfold rowG
  apply List.map_congr_left
  intro j hj
  exact h j (List.mem_range.1 hj)
theorem rowG_set (f : Nat → Value) (m i : Nat) (v : Value) : (rowG f m).set i v = rowG (fun j => if j = i then v else f j) m := by
  apply List.ext_getElem?
  intro j
  by_cases hj : j < m
  · rw [rowG_at _ _ _ hj]
    by_cases e : j = i
    · subst e
      rw [List.getElem?_set_self (by rw [rowG_length]; exact hj), if_pos rfl]
    · rw [List.getElem?_set_ne (by omega), rowG_at _ _ _ hj, if_neg e]
  · rw [List.getElem?_eq_none (by rw [List.length_set, rowG_length]; omega), List.getElem?_eq_none (by rw [rowG_length]; omega)]
theorem rowG_append (f : Nat → Value) (m n : Nat) : rowG f (m + n) = rowG f m ++ rowG (fun j => f (m + j)) n := by
  unfold rowG
  rw [List.range_add, List.map_append, List.map_map]
  rfl
theorem infoObj : (Tryz.prog.info? 124).map (fun i => (i.zero, i.size, i.bytes)) = some (some (.agg #[.string ⟨#[]⟩, .int .i64 0, .string ⟨#[]⟩]), 3, 40) := by kernel_rfl
/-- The cells of entries. -/
def ocell (l : List Ob) (j : Nat) : Value :=
  if j % 3 = 0 then .string (l.getD (j / 3) onil).1 else if j % 3 = 1 then .int .i64 (l.getD (j / 3) onil).2.1 else .string (l.getD (j / 3) onil).2.2
theorem ocell0 (l : List Ob) (k : Nat) : ocell l (k * 3) = .string (l.getD k onil).1 := by
  unfold ocell; rw [if_pos (by omega), show k * 3 / 3 = k by omega]
theorem ocell1 (l : List Ob) (k : Nat) : ocell l (k * 3 + 1) = .int .i64 (l.getD k onil).2.1 := by
  unfold ocell; rw [if_neg (by omega), if_pos (by omega), show (k * 3 + 1) / 3 = k by omega]
theorem ocell2 (l : List Ob) (k : Nat) : ocell l (k * 3 + 2) = .string (l.getD k onil).2.2 := by
  unfold ocell; rw [if_neg (by omega), if_neg (by omega), show (k * 3 + 2) / 3 = k by omega]
def ocells (l : List Ob) : List Value := rowG (ocell l) (l.length * 3)
theorem ocells_length (l : List Ob) : (ocells l).length = l.length * 3 := rowG_length _ _
/-- TreeEntrys that can be read. -/
def OB (B : Nat) (w : World) (a : Option Addr) (l : List Ob) : Prop :=
  ∀ k, k < l.length → ∃ g off, a = some ⟨g, off, none⟩ ∧ g < B ∧ w.cell? ⟨g, off + k * 3, none⟩ = some (.string (l.getD k onil).1) ∧ w.cell? ⟨g, off + k * 3 + 1, none⟩ = some (.int .i64 (l.getD k onil).2.1) ∧ w.cell? ⟨g, off + k * 3 + 2, none⟩ = some (.string (l.getD k onil).2.2)
theorem OB.fr {lo hi B : Nat} {w w' : World} {a : Option Addr} {l : List Ob} (h : OB B w a l) (hF : Fr lo hi w w') (hb : B ≤ lo ∨ hi ≤ lo) : OB B w' a l := fun k hk => by
  obtain ⟨g, off, e, hg, d0, d1, d2⟩ := h k hk
  have ho : g < lo ∨ hi ≤ g := by omega
  exact ⟨g, off, e, hg, hF.cell d0 ho, hF.cell d1 ho, hF.cell d2 ho⟩
theorem OB.below {B : Nat} {w w' : World} {a : Option Addr} {l : List Ob} (h : OB B w a l) (hb : Below w.heap.size w w') : OB B w' a l := h.fr (Fr.ofBelow (lo := 0) (hi := 0) hb) (.inr (Nat.le_refl _))
theorem OB.mono {B B' : Nat} {w : World} {a : Option Addr} {l : List Ob} (h : OB B w a l) (hb : B ≤ B') : OB B' w a l := fun k hk => by
  obtain ⟨g, off, e, hg, d⟩ := h k hk
  exact ⟨g, off, e, by omega, d⟩
theorem OB.of {w : World} {base c : Nat} {a : Option Addr} {l : List Ob} (h : w.ownsRow base 124 3 (.slice a l.length c) l.length (ocells l)) : OB w.heap.size w a l := by
  intro k hk
  rcases h.2 with ⟨h', h0⟩ | ⟨g, cap, cur, h', _, hh, _⟩
  · omega
  · simp only [Value.slice.injEq] at h'
    obtain ⟨rfl, _, rfl⟩ := h'
    have hc := h.cellAt
    refine ⟨g, 0, rfl, (Array.getElem?_eq_some_iff.1 hh).1, ?_, ?_, ?_⟩
    · rw [Nat.zero_add, hc (k * 3) (by omega), ocells, rowG_at _ _ _ (by omega), ocell0]
    · rw [Nat.zero_add, hc (k * 3 + 1) (by omega), ocells, rowG_at _ _ _ (by omega), ocell1]
    · rw [Nat.zero_add, hc (k * 3 + 2) (by omega), ocells, rowG_at _ _ _ (by omega), ocell2]
/-- Ids and data are of a size that a machine has. -/
def FitsO (l : List Ob) : Prop := ∀ o ∈ l, o.1.size ≤ 9223372036854775807 ∧ o.2.2.size ≤ 9223372036854775807
def SmallO (l : List Ob) : Prop := ∀ o ∈ l, o.1.size ≤ 1048576 ∧ o.2.2.size ≤ 1048576
/-- What is left of a size behind an entry, and behind entries. -/
def left1 (n : Int) (o : Ob) : Int := if n - o.1.size < 0 then -1 else if n - o.1.size - o.2.2.size < 0 then -1 else n - o.1.size - o.2.2.size
def leftOF : Int → List Ob → Int
  | n, [] => n
  | n, o :: t => if left1 n o < 0 then -1 else leftOF (left1 n o) t
def leftO (n : Int) (l : List Ob) : Int := if n - l.length < 0 then -1 else leftOF (n - l.length) l
theorem left1_nums {n : Int} {o : Ob} (h : ¬ left1 n o < 0) : left1 n o = n - o.1.size - o.2.2.size ∧ (o.1.size : Int) ≤ n ∧ (o.2.2.size : Int) ≤ n := by
  unfold left1 at h ⊢
  split at h
  · omega
  · rename_i h1
    rw [if_neg h1]
    split at h
    · omega
    · rename_i h2
      rw [if_neg h2]; omega
theorem leftOF_stop {n : Int} {o : Ob} {t : List Ob} (h : left1 n o < 0) : leftOF n (o :: t) = -1 := by rw [leftOF, if_pos h]
theorem leftOF_go {n : Int} {o : Ob} {t : List Ob} (h : ¬ left1 n o < 0) : leftOF n (o :: t) = leftOF (left1 n o) t := by rw [leftOF, if_neg h]
theorem leftOF_nums : ∀ (l : List Ob) (n : Int), ¬ leftOF n l < 0 → ∀ o ∈ l, (o.1.size : Int) ≤ n ∧ (o.2.2.size : Int) ≤ n := by
  intro l
  induction l with
  | nil => intro n _ o h; cases h
  | cons h t ih =>
    intro n hn
    by_cases hl : left1 n h < 0
    · rw [leftOF_stop hl] at hn; omega
    · rw [leftOF_go hl] at hn
      obtain ⟨e, h1, h2⟩ := left1_nums hl
      have i := ih _ hn
      rw [e] at i
      intro o ho
      rcases List.mem_cons.1 ho with rfl | ho
      · exact ⟨h1, h2⟩
      · have := i o ho; omega
theorem leftO_nums {l : List Ob} {n : Int} (h : ¬ leftO n l < 0) (hn : n ≤ 1048576) : SmallO l ∧ l.length ≤ 1048576 := by
  unfold leftO at h
  split at h
  · omega
  · rename_i h'
    refine ⟨fun o ho => ?_, by omega⟩
    have := leftOF_nums l _ h o ho
    omega
theorem leftO_bd {l : List Ob} {n : Int} (h : ¬ leftO n l < 0) : leftO n l ≤ n := by
  have key : ∀ (l : List Ob) (n : Int), ¬ leftOF n l < 0 → leftOF n l ≤ n := by
    intro l
    induction l with
    | nil => intro n _; exact Int.le_refl _
    | cons o t ih =>
      intro n hn
      by_cases hl : left1 n o < 0
      · rw [leftOF_stop hl] at hn; omega
      · rw [leftOF_go hl] at hn ⊢
        have := ih _ hn
        have := (left1_nums hl).1
        omega
  unfold leftO at h ⊢
  split at h
  · omega
  · rename_i h'
    rw [if_neg h']
    have := key l _ h
    omega
/-- A row of entries while they are copied. -/
def mixO (l : List Ob) (k j : Nat) : Value := if j < k * 3 then ocell l j else if j % 3 = 1 then .int .i64 0 else .string ⟨#[]⟩
theorem mixO_zero (l : List Ob) (m : Nat) : (madeCells (Value.agg #[.string ⟨#[]⟩, .int .i64 0, .string ⟨#[]⟩]).cells m).toList = rowG (mixO l 0) m := by
  apply List.ext_getElem?
  intro j
  by_cases hj : j < m
  · rw [rowG_at _ _ _ hj]
    have h3 : j % 3 = 0 ∨ j % 3 = 1 ∨ j % 3 = 2 := by omega
    unfold mixO
    rw [if_neg (by omega)]
    rcases h3 with h | h | h <;> simp [madeCells, hj, Value.cells, h]
  · have h0 : (rowG (mixO l 0) m)[j]? = none := List.getElem?_eq_none (by rw [rowG_length]; omega)
    rw [h0]
    simp [madeCells, hj]
theorem mixO_set (l : List Ob) (k m : Nat) :
    (((rowG (mixO l k) m).set (k * 3) (.string (l.getD k onil).1)).set (k * 3 + 1) (.int .i64 (l.getD k onil).2.1)).set (k * 3 + 2) (.string (l.getD k onil).2.2) = rowG (mixO l (k + 1)) m := by
  rw [rowG_set, rowG_set, rowG_set]
  apply rowG_congr
  intro j _
  by_cases e2 : j = k * 3 + 2
  · rw [if_pos e2]; unfold mixO; rw [if_pos (by omega), e2, ocell2]
  · rw [if_neg e2]
    by_cases e1 : j = k * 3 + 1
    · rw [if_pos e1]; unfold mixO; rw [if_pos (by omega), e1, ocell1]
    · rw [if_neg e1]
      by_cases e0 : j = k * 3
      · rw [if_pos e0]; unfold mixO; rw [if_pos (by omega), e0, ocell0]
      · rw [if_neg e0]
        unfold mixO
        by_cases h : j < k * 3
        · rw [if_pos h, if_pos (by omega)]
        · have h1 : ¬ j < (k + 1) * 3 := by omega
          rw [if_neg h, if_neg h1]
theorem mixO_full (l : List Ob) : rowG (mixO l l.length) (l.length * 3) = ocells l := by
  apply rowG_congr
  intro j hj
  unfold mixO
  rw [if_pos hj]
end Go.Proofs.YtgidcncmicmggamGreatDoor.Te
/- The contracts of spec.l1Split and spec.TextFault. No statement is proved here. -/
namespace Go.Proofs.YtgidcncmicmggamGreatDoor
open Go.ChangeShapes Go.WideShapes Go.ChangeAt Go.RowKit

theorem byte_at (s : ByteArray) (k : Nat) (h : k < s.size) : s.data.toList[k]'(by rw [size_eq]; exact h) = s[k] := rfl
theorem byte_ten {c : UInt8} (h : ((c.toNat : Int) == 10) = true) : c = 10 := by
  apply UInt8.toNat_inj.1
  have := of_decide_eq_true h
  have h2 : (10 : UInt8).toNat = 10 := rfl
  omega
theorem byte_not_ten {c : UInt8} (h : ((c.toNat : Int) == 10) = false) : ¬ c = 10 := by
  intro e
  rw [e] at h
  exact absurd h (by decide)
/-- The bytes from fr up to k. -/
def seg (s : ByteArray) (fr k : Nat) : List UInt8 := (s.data.toList.drop fr).take (k - fr)
theorem seg_snoc (s : ByteArray) (fr k : Nat) (h1 : fr ≤ k) (h : k < s.size) : seg s fr (k + 1) = seg s fr k ++ [s[k]] := by
  unfold seg
  have hl : k - fr < (s.data.toList.drop fr).length := by rw [List.length_drop, size_eq]; omega
  have e : k + 1 - fr = (k - fr) + 1 := by omega
  rw [e, List.take_succ_eq_append_getElem hl, List.getElem_drop]
  congr 2
  rw [← byte_at s k h]
  congr 1
  omega
theorem endOf_at (s : ByteArray) (fr k : Nat) (h1 : fr ≤ k) (h : k < s.size) (hn : ¬ (10 : UInt8) ∈ seg s fr k) (hc : s[k] = 10) : endOf s fr = k + 1 := by
  have hl : k - fr < (s.data.toList.drop fr).length := by rw [List.length_drop, size_eq]; omega
  have hsp : s.data.toList.drop fr = seg s fr k ++ (10 : UInt8) :: (s.data.toList.drop fr).drop (k - fr + 1) := by
    conv => lhs; rw [← List.take_append_drop (k - fr) (s.data.toList.drop fr), List.drop_eq_getElem_cons hl]
    unfold seg
    congr 2
    rw [List.getElem_drop, ← hc, ← byte_at s k h]
    congr 1
    omega
  have hi : Lib.indexByte (s.data.toList.drop fr) 10 = (k - fr : Nat) := by
    rw [hsp, indexByte_app _ _ _ hn]
    unfold seg
    rw [List.length_take]
    omega
  unfold endOf
  rw [hi, if_neg (by omega)]
  omega
theorem endOf_last (s : ByteArray) (fr : Nat) (hn : ¬ (10 : UInt8) ∈ seg s fr s.size) : endOf s fr = s.size := by
  have e : seg s fr s.size = s.data.toList.drop fr := by
    unfold seg
    rw [List.take_of_length_le (by rw [List.length_drop, size_eq]; exact Nat.le_refl _)]
  rw [e] at hn
  unfold endOf
  rw [indexByte_none _ _ hn, if_pos (by omega)]
theorem lines_small (s : ByteArray) (hs : s.size ≤ 1048576) : ∀ k, k < (linesOf s).length → ((linesOf s).getD k ByteArray.empty).size ≤ 9223372036854775807 := by
  have key : ∀ m fr, s.size - fr ≤ m → ∀ x ∈ linesFrom s fr, x.size ≤ 1048576 := by
    intro m
    induction m with
    | zero => intro fr h x hx; rw [linesFrom_end s fr (by omega)] at hx; cases hx
    | succ m ih =>
      intro fr h x hx
      by_cases hlt : fr < s.size
      · rw [linesFrom_step s fr hlt] at hx
        have := endOf_bd s fr hlt
        rcases List.mem_cons.1 hx with rfl | hx
        · exact Nat.le_trans (extract_size_le _ _ _) hs
        · exact ih (endOf s fr) (by omega) x hx
      · rw [linesFrom_end s fr (by omega)] at hx; cases hx
  intro k hk
  rw [getD_at _ k hk]
  have := key s.size 0 (by omega) _ (List.getElem_mem hk)
  exact Nat.le_trans this (by omega)

set_option maxHeartbeats 2000000 in
theorem l1Split (s : ByteArray) (w : World) (hs : s.size ≤ 1048576) :
    Calls Tryz.prog 54 #[.string s] w fun e w' => ∃ v, e = .returned v ∧ w'.ownsRow w.heap.size 9 1 v (linesOf s).length ((linesOf s).map Value.string) ∧ Below w.heap.size w w' := by
  obtain ⟨i0, hi, hz0, hz1, hz2⟩ := info_parts infoString
  go_enter Tryz.func54, Tryz.ntmps54
  go_wp2
  go_loopw [3, 4, 5] (fun v f i wr => ∃ (k fr : Nat) (pre : List ByteArray), fr ≤ k ∧ k ≤ s.size ∧ i = .int .i64 k ∧ f = .int .i64 fr ∧ Hid (linesOf s = pre ++ linesFrom s fr) ∧ Hid (¬ (10 : UInt8) ∈ seg s fr k) ∧ pre.length ≤ fr ∧
      wr.ownsRow w.heap.size 9 1 v pre.length (pre.map Value.string) ∧ Below w.heap.size w wr ∧ w.heap.size + 1 ≤ wr.heap.size) (fun _ _ i _ => s.size - (intOf i).toNat)
  case atStart =>
    refine ⟨0, 0, [], Nat.le_refl _, Nat.zero_le _, rfl, rfl, rfl, ?_, Nat.le_refl _, ?_, (Below.refl _ _).alloc (Nat.le_refl _) _, by simp⟩
    · show ¬ _; simp [seg]
    · exact World.ownsRow_lit w #[] 0 (Nat.le_refl _) (Nat.zero_le _) rfl
  case round =>
    obtain ⟨k, fr, pre, hfk, hk, rfl, rfl, hL, hN, hpl, hown, hbel, hsz⟩ := hrel
    by_cases hlt : k < s.size
    · by_cases hz : ((s[k].toNat : Int) == 10) = true
      · have hE := endOf_at s fr k hfk hlt hN.out (byte_ten hz)
        have hL' : Hid (linesOf s = (pre ++ [s.extract fr (k + 1)]) ++ linesFrom s (k + 1)) := by
          show linesOf s = _
          rw [hL.out, linesFrom_step s fr (by omega), hE]; simp
        clear hE hL hN
        go_wp2_with (at_builtin; refine wpList_append_own _ rfl (.tmp 17) (.tmp 23) 22 rfl w.heap.size 9 i0 (.string ByteArray.empty) 1 16 Tryz.underlying22 hi hz0 hz1 hz2 rfl (by decide) u3 _ _ rfl (hown.alloc _) ⟨wr.heap.size, 0, none⟩ 1 1 [.string (s.extract fr (k + 1))] rfl rfl (cell_one_new _ _ _) (by simp [Value.oneCell']) (by unfold maxLen; omega) (by omega) (by simp; omega) ?_; intro v' w1 hown' hgrow _)
        have hb1 : Below w.heap.size w w1 := (hbel.alloc (by omega) _).grown hgrow (by simp; omega) (fun j hj => (hown.lt j hj).1)
        have hs1 : w.heap.size + 1 ≤ w1.heap.size := by have := hgrow.size; simp at this; omega
        go_roundw
        case rel =>
          refine ⟨k + 1, k + 1, pre ++ [s.extract fr (k + 1)], Nat.le_refl _, by omega, by go_num, by go_num, hL', ?_, by simp; omega, ?_, hb1, hs1⟩
          · show ¬ _; simp [seg]
          · simpa using hown'
        case measure => simp [intOf]; omega
      · have hz' : ((s[k].toNat : Int) == 10) = false := by simpa using hz
        have hN' : Hid (¬ (10 : UInt8) ∈ seg s fr (k + 1)) := by
          show ¬ _
          rw [seg_snoc s fr k hfk hlt]
          have := byte_not_ten hz'
          simp only [List.mem_append, List.mem_singleton, not_or]
          exact ⟨hN.out, fun e => this e.symm⟩
        clear hz hN
        go_wp2
        go_roundw
        case rel => exact ⟨k + 1, fr, pre, by omega, by omega, by go_num, rfl, hL, hN', hpl, hown, hbel, hsz⟩
        case measure => simp [intOf]; omega
    · have ek : k = s.size := by omega
      by_cases hfr : fr < s.size
      · have hE := endOf_last s fr (by rw [← ek]; exact hN.out)
        have hL' : Hid (linesOf s = pre ++ [s.extract fr s.size]) := by
          show linesOf s = _
          rw [hL.out, linesFrom_step s fr hfr, hE, linesFrom_end s s.size (Nat.le_refl _)]
        clear hE hL hN ek
        go_wp2_with (at_builtin; refine wpList_append_own _ rfl (.tmp 31) (.tmp 35) 22 rfl w.heap.size 9 i0 (.string ByteArray.empty) 1 16 Tryz.underlying22 hi hz0 hz1 hz2 rfl (by decide) u3 _ _ rfl (hown.alloc _) ⟨wr.heap.size, 0, none⟩ 1 1 [.string (s.extract fr s.size)] rfl rfl (cell_one_new _ _ _) (by simp [Value.oneCell']) (by unfold maxLen; omega) (by omega) (by simp; omega) ?_; intro v' w1 hown' hgrow _)
        have hb1 : Below w.heap.size w w1 := (hbel.alloc (by omega) _).grown hgrow (by simp; omega) (fun j hj => (hown.lt j hj).1)
        go_ret
        refine ⟨_, rfl, ?_, hb1⟩
        rw [hL'.out]
        simpa using hown'
      · have hL' : Hid (linesOf s = pre) := by
          show linesOf s = _
          rw [hL.out, linesFrom_end s fr (by omega), List.append_nil]
        clear hL hN ek
        go_wp2
        go_ret
        refine ⟨_, rfl, ?_, hbel⟩
        rw [hL'.out]
        exact hown

/-- A row of strings that is owned, as a slice that reads as them. -/
theorem SS_of_row {w' : World} {base n : Nat} {v : Value} {ss : List ByteArray} (h : w'.ownsRow base 9 1 v n (ss.map Value.string)) (hn : n = ss.length)
    (hz : ∀ k, k < ss.length → (ss.getD k ByteArray.empty).size ≤ 9223372036854775807) : ∃ a cap, v = .slice a ss.length cap ∧ SS w' a ss ∧ (a = none → ss = []) := by
  rcases h.2 with ⟨h', h0⟩ | ⟨g, cap, cur, h', hb, hg, _⟩
  · have e : ss = [] := List.length_eq_zero_iff.1 (by omega)
    exact ⟨none, 0, by rw [h', e]; rfl, ⟨hz, fun k hk => by rw [e] at hk; exact absurd hk (Nat.not_lt_zero _)⟩, fun _ => e⟩
  · refine ⟨some ⟨g, 0, none⟩, cap, by rw [h', hn], ⟨hz, fun k hk => ⟨g, 0, rfl, (Array.getElem?_eq_some_iff.1 hg).1, ?_⟩⟩, fun e => by cases e⟩
    rw [h'] at h
    rw [Nat.zero_add, h.cellAt k (by omega), getD_at ss k hk]; simp [hk]

set_option maxHeartbeats 800000 in
theorem specTextFault (s : ByteArray) (w : World) (hs : s.size ≤ 1048576) :
    Calls Tryz.prog 111 #[.string s] w fun e w' => e = .returned (.int .i64 (tf s)) ∧ Below w.heap.size w w' := by
  by_cases hbig : 2000 < (s.size : Int)
  · have hT : Hid (tf s = 2) := tf_many (Or.inl hbig)
    go_enter Tryz.func111, Tryz.ntmps111
    go_wp2_with fail
    go_ret
    exact ⟨ret_int hT.out.symm, Below.refl _ _⟩
  · go_enter Tryz.func111, Tryz.ntmps111
    go_wp2_with fail
    refine (l1Split s _ hs).mono ?_; rintro e w1 ⟨v, rfl, hown, hb⟩
    obtain ⟨a, cap, rfl, _, _⟩ := SS_of_row hown rfl (lines_small s hs)
    have hll := lines_le s
    by_cases hmany : 100 < ((linesOf s).length : Int)
    · have hT : Hid (tf s = 2) := tf_many (Or.inr hmany)
      go_wp2
      go_ret
      exact ⟨ret_int hT.out.symm, hb⟩
    · have hT : Hid (tf s = 0) := tf_ok (by omega)
      go_wp2
      go_ret
      exact ⟨ret_int hT.out.symm, hb⟩
end Go.Proofs.YtgidcncmicmggamGreatDoor
/- The contract of (*strings.Builder).WriteString (and copyCheck) over this seat's program. No statement is proved here. -/
set_option linter.unusedVariables false
namespace Go.Proofs.YtgidcncmicmggamGreatDoor
open Go.RowKit

theorem sizeBuilder : (Tryz.prog.info? 211).map (·.size) = some 2 := by kernel_rfl
theorem liesBuilder : liesAt Tryz.prog Tryz.prog.depth 211 (2 / Tryz.prog.cellsOf 211) 0 211 1 = true := by kernel_rfl
theorem infoByte : (Tryz.prog.info? 5).map (fun i => (i.zero, i.size, i.bytes)) = some (some (.int .u8 0), 1, 1) := by kernel_rfl

set_option maxHeartbeats 1000000 in
set_option maxRecDepth 100000 in
theorem copyCheck_used (b : Nat) (w : World) (h0 : w.cell? ⟨b, 0, none⟩ = some (.pointer (some ⟨b, 0, none⟩))) :
    Calls Tryz.prog 234 #[.pointer (some ⟨b, 0, none⟩)] w fun e w' => e = .returned (.tuple #[]) ∧ w' = w := by
  obtain ⟨j, hj, _⟩ := Option.map_eq_some_iff.1 sizeBuilder
  go_enter Tryz.func234, Tryz.ntmps234
  go_wp2
  rw [Lib.run_neq_ptr_same w _ Tryz.underlying209 hj]
  go_wp2
  go_end0
  exact ⟨rfl, rfl⟩

set_option maxHeartbeats 1000000 in
set_option maxRecDepth 100000 in
theorem copyCheck_fresh (b : Nat) (w : World) (h0 : w.cell? ⟨b, 0, none⟩ = some (.pointer none)) (hsh : w.shape? b = some (211, 2)) (hfz : w.frozen? ⟨b, 0, none⟩ = false) :
    Calls Tryz.prog 234 #[.pointer (some ⟨b, 0, none⟩)] w fun e w' => e = .returned (.tuple #[]) ∧ w' = w.setCell ⟨b, 0, none⟩ (.pointer (some ⟨b, 0, none⟩)) := by
  obtain ⟨j, hj, hjs⟩ := Option.map_eq_some_iff.1 sizeBuilder
  go_enter Tryz.func234, Tryz.ntmps234
  go_wp2
  rw [Lib.run_to_unsafe w ⟨b, 0, none⟩ Tryz.underlying209 Tryz.underlying167 hj (by rw [hjs]; decide) hsh (Nat.zero_lt_succ 1)]
  simp only [Result.andThen]
  rw [Oper.upon_value]
  go_wp2
  rw [run_callFunc_extern Tryz.func243 (by kernel_rfl) (by kernel_rfl) (by kernel_rfl) (e := Extern.AbiNoEscape.same) (by kernel_rfl)]
  rw [Lib.run_noEscape]
  simp only [Result.andThen]
  rw [Oper.upon_value]
  go_wp2
  rw [Lib.run_from_unsafe w ⟨b, 0, none⟩ Tryz.underlying167 Tryz.underlying209 hj hsh liesBuilder]
  simp only [Result.andThen]
  rw [Oper.upon_value]
  go_wp2
  go_end0
  exact ⟨rfl, rfl⟩

theorem copyCheck (B b : Nat) (bs : List Value) (w : World) (h : Lib.IsBuilder 211 5 B b bs w) :
    Calls Tryz.prog 234 #[.pointer (some ⟨b, 0, none⟩)] w fun e w' => e = .returned (.tuple #[]) ∧ (Lib.BuilderAt 211 5 B b (.pointer (some ⟨b, 0, none⟩)) bs w' ∧ Below B w w') := by
  rcases h with h | h
  · refine (copyCheck_fresh b w h.cell0 h.shape h.frozen0).mono ?_
    rintro e w' ⟨rfl, rfl⟩
    exact ⟨rfl, h.used _, (Below.refl B w).setCell (p := ⟨b, 0, none⟩) h.1 _⟩
  · refine (copyCheck_used b w h.cell0).mono ?_
    rintro e w' ⟨rfl, rfl⟩
    exact ⟨rfl, h, Below.refl B _⟩

set_option maxHeartbeats 2000000 in
set_option maxRecDepth 100000 in
theorem writeString (B b : Nat) (bs : List Value) (s : ByteArray) (w : World) (h : Lib.IsBuilder 211 5 B b bs w) (hlen : bs.length + s.size ≤ 140737488355328) (hBw : B ≤ w.heap.size) :
    Calls Tryz.prog 220 #[.pointer (some ⟨b, 0, none⟩), .string s] w fun e w' => e = .returned (.tuple #[.int .i64 s.size, .nilIface]) ∧ (Lib.BuilderAt 211 5 B b (.pointer (some ⟨b, 0, none⟩)) (bs ++ Lib.strCells s) w' ∧ Below B w w') := by
  obtain ⟨i0, hi, hz0, hz1, hz2⟩ := info_parts infoByte
  go_enter Tryz.func220, Tryz.ntmps220
  go_wp2_with (go_at_call 234; refine (copyCheck B b bs _ h).mono ?_)
  rintro e w1 ⟨rfl, h1, hb1⟩
  obtain ⟨hB, v, hbk, hown, hne⟩ := h1
  have c0 : w1.cell? ⟨b, 0, none⟩ = some (.pointer (some ⟨b, 0, none⟩)) := by rw [Lib.cell_of_heap hbk]; rfl
  have c1 : w1.cell? ⟨b, 1, none⟩ = some v := by rw [Lib.cell_of_heap hbk]; rfl
  go_wp2_with (at_builtin; refine Lib.wpList_append_own_string _ rfl _ _ 145 9 rfl B 5 i0 Tryz.underlying145 Tryz.underlying9 hi hz0 hz1 hz2 _ _ _ rfl hown s rfl ?c3 ?c4 ?c5 ?_)
  case c3 => unfold maxLen; omega
  case c4 => omega
  case c5 => have := hb1.size; omega
  intro v' w2 hown' hgrow _
  have hlt : b < w1.heap.size := by
    rcases Nat.lt_or_ge b w1.heap.size with h' | h'
    · exact h'
    · simp [Array.getElem?_eq_none h'] at hbk
  have hb2 : w2.heap[b]? = some (.cells #[.pointer (some ⟨b, 0, none⟩), v] 211 (0, 0)) := by
    rw [hgrow.block b hlt (fun e => hne e.symm)]
    exact hbk
  have d0 : w2.cell? ⟨b, 0, none⟩ = some (.pointer (some ⟨b, 0, none⟩)) := by rw [Lib.cell_of_heap hb2]; rfl
  have d1 : w2.cell? ⟨b, 1, none⟩ = some v := by rw [Lib.cell_of_heap hb2]; rfl
  have f1 : w2.frozen? ⟨b, 1, none⟩ = false := Lib.frozen_of_heap hb2 1
  obtain ⟨ao, n', cap, rfl⟩ : ∃ ao n' cap, v' = .slice ao n' cap := by
    rcases hown'.2 with ⟨hv, _⟩ | ⟨g, cap, cur, hv, _⟩
    · exact ⟨_, _, _, hv⟩
    · exact ⟨_, _, _, hv⟩
  go_wp2
  go_ret2
  refine ⟨rfl, ?_, ?_⟩
  · exact Lib.BuilderAt.put (T := 211) (e := 5) hB hb2 (bs' := bs ++ Lib.strCells s) (by simpa [Lib.strCells_length] using hown') (by decide)
  · exact (hb1.grown hgrow (by have := hb1.size; omega) (fun k hk => (hown.lt k hk).1)).setCell (p := ⟨b, 1, none⟩) hB _
end Go.Proofs.YtgidcncmicmggamGreatDoor
/- Contracts of the library that are laid at this program: Tryz.Builder_String_any, Tryz.Builder_Grow_fresh, Tryz.Builder_String_any_f. No statement is proved here. -/
namespace Go.Proofs
open Go.Shelf
def Tryz.lays169_ren : Go.Shelf.Ren := ⟨fun | 169 => 149 | n => n, fun | 70 => 209 | 9 => 9 | 0 => 0 | 72 => 211 | 37 => 145 | 127 => 201 | 3 => 3 | 5 => 5 | n => n, fun | n => n⟩
theorem Tryz.lays169 : Go.Proofs.Lays.n169 Tryz.prog Tryz.lays169_ren := {
  mixed := by kernel_rfl
  f169 := Tryz.func149.trans (congrArg some (by kernel_rfl))
  t0 := Tryz.underlying0
  a0 := Tryz.isAgg0
  z0 := Tryz.sizeOf0
  v0 := Tryz.zeroValue0
  t3 := Tryz.underlying3
  a3 := Tryz.isAgg3
  z3 := Tryz.sizeOf3
  v3 := Tryz.zeroValue3
  t9 := Tryz.underlying9
  a9 := Tryz.isAgg9
  z9 := Tryz.sizeOf9
  v9 := Tryz.zeroValue9
  t37 := Tryz.underlying145
  a37 := Tryz.isAgg145
  z37 := Tryz.sizeOf145
  v37 := Tryz.zeroValue145
  t70 := Tryz.underlying209
  a70 := Tryz.isAgg209
  z70 := Tryz.sizeOf209
  v70 := Tryz.zeroValue209
  t72 := Tryz.underlying211
  a72 := Tryz.isAgg211
  z72 := Tryz.sizeOf211
  v72 := Tryz.zeroValue211
  t127 := Tryz.underlying201
  a127 := Tryz.isAgg201
  z127 := Tryz.sizeOf201
  v127 := Tryz.zeroValue201 }
theorem Tryz.Builder_Extra_169 : Builder.Extra Tryz.prog Tryz.lays169_ren := {
  sizeBuilder := by kernel_rfl
  liesBuilder := by kernel_rfl
  t5 := Tryz.underlying5
  a5 := Tryz.isAgg5
  z5 := Tryz.sizeOf5
  v5 := Tryz.zeroValue5
  infoByte := by kernel_rfl
  cellsByte := by kernel_rfl
  sizeByte := by kernel_rfl
  neB5 := by decide }
open Go.RowKit in
theorem Tryz.Builder_String_any (B b : Nat) (l : List UInt8) (w : World) (h : Lib.IsBuilder 211 5 B b (Lib.byteCells l) w) (hBw : B ≤ w.heap.size) :
    Calls Tryz.prog 149 #[.pointer (some ⟨b, 0, none⟩)] w fun e w' => e = .returned (.string ⟨l.toArray⟩) ∧ Below B w w' := Any.Builder_String_any Tryz.lays169 Tryz.Builder_Extra_169 B b l w h hBw
def Tryz.lays165_ren : Go.Shelf.Ren := ⟨fun | 165 => 235 | 240 => 234 | 241 => 244 | 276 => 243 | 277 => 249 | n => n, fun | 70 => 209 | 3 => 3 | 0 => 0 | 4 => 4 | 9 => 9 | 20 => 20 | 72 => 211 | 37 => 145 | 164 => 167 | 5 => 5 | n => n, fun | n => n⟩
theorem Tryz.lays165 : Go.Proofs.Lays.n165 Tryz.prog Tryz.lays165_ren := {
  mixed := by kernel_rfl
  f165 := Tryz.func235.trans (congrArg some (by kernel_rfl))
  f240 := Tryz.func234.trans (congrArg some (by kernel_rfl))
  f241 := Tryz.func244.trans (congrArg some (by kernel_rfl))
  f276 := Tryz.func243.trans (congrArg some (by kernel_rfl))
  f277 := Tryz.func249.trans (congrArg some (by kernel_rfl))
  t0 := Tryz.underlying0
  a0 := Tryz.isAgg0
  z0 := Tryz.sizeOf0
  v0 := Tryz.zeroValue0
  t3 := Tryz.underlying3
  a3 := Tryz.isAgg3
  z3 := Tryz.sizeOf3
  v3 := Tryz.zeroValue3
  t4 := Tryz.underlying4
  a4 := Tryz.isAgg4
  z4 := Tryz.sizeOf4
  v4 := Tryz.zeroValue4
  t9 := Tryz.underlying9
  a9 := Tryz.isAgg9
  z9 := Tryz.sizeOf9
  v9 := Tryz.zeroValue9
  t20 := Tryz.underlying20
  a20 := Tryz.isAgg20
  z20 := Tryz.sizeOf20
  v20 := Tryz.zeroValue20
  t37 := Tryz.underlying145
  a37 := Tryz.isAgg145
  z37 := Tryz.sizeOf145
  v37 := Tryz.zeroValue145
  t70 := Tryz.underlying209
  a70 := Tryz.isAgg209
  z70 := Tryz.sizeOf209
  v70 := Tryz.zeroValue209
  t72 := Tryz.underlying211
  a72 := Tryz.isAgg211
  z72 := Tryz.sizeOf211
  v72 := Tryz.zeroValue211
  t164 := Tryz.underlying167
  a164 := Tryz.isAgg167
  z164 := Tryz.sizeOf167
  v164 := Tryz.zeroValue167 }
theorem Tryz.Builder_Extra_165 : Builder.Extra Tryz.prog Tryz.lays165_ren := {
  sizeBuilder := by kernel_rfl
  liesBuilder := by kernel_rfl
  t5 := Tryz.underlying5
  a5 := Tryz.isAgg5
  z5 := Tryz.sizeOf5
  v5 := Tryz.zeroValue5
  infoByte := by kernel_rfl
  cellsByte := by kernel_rfl
  sizeByte := by kernel_rfl
  neB5 := by decide }
open Go.RowKit in
theorem Tryz.Builder_Grow_fresh (B b n : Nat) (w : World) (hB : B ≤ b) (hbk : w.heap[b]? = some (.cells #[.pointer none, .slice none 0 0] 211 (0, 0))) (hBw : B ≤ w.heap.size) (hn : n ≤ 281474976710656) :
    Calls Tryz.prog 235 #[.pointer (some ⟨b, 0, none⟩), .int .i64 n] w fun e w' => e = .returned (.tuple #[]) ∧ (Lib.BuilderAt 211 5 B b (.pointer (some ⟨b, 0, none⟩)) [] w' ∧ Below B w w') := Any.Builder_Grow_fresh Tryz.lays165 Tryz.Builder_Extra_165 B b n w hB hbk hBw hn
open Go.RowKit in
theorem Tryz.Builder_String_any_f (B b : Nat) (l : List UInt8) (w : World) (h : Lib.IsBuilderF 211 5 B b (Lib.byteCells l) w) (hBw : B ≤ w.heap.size) :
    Calls Tryz.prog 149 #[.pointer (some ⟨b, 0, none⟩)] w fun e w' => e = .returned (.string ⟨l.toArray⟩) ∧ (Lib.IsBuilderF 211 5 B b (Lib.byteCells l) w' ∧ Below B w w') := Any.Builder_String_any_f Tryz.lays169 Tryz.Builder_Extra_169 B b l w h hBw
end Go.Proofs
/- The contract of the library's strings.Join at a blank. No statement is proved here. -/
namespace Go.Proofs.YtgidcncmicmggamGreatDoor
open Go.ChangeShapes Go.WideShapes Go.ChangeAt Go.RowKit

/-- Words with a blank between, up to a place. -/
def jl (ss : List ByteArray) : Nat → List UInt8
  | 0 => (ss.getD 0 ByteArray.empty).data.toList
  | k + 1 => jl ss k ++ (32 :: (ss.getD (k + 1) ByteArray.empty).data.toList)
def jnB (ss : List ByteArray) : ByteArray := ⟨(jl ss (ss.length - 1)).toArray⟩
theorem jl_len (ss : List ByteArray) : ∀ k, k < ss.length → ((jl ss k).length : Int) = tot (ss.take (k + 1)) + k
  | 0, h => by
    rw [tot_take ss 0 h]
    simp [jl, tot]
  | k + 1, h => by
    have ih := jl_len ss k (by omega)
    rw [tot_take ss (k + 1) h, jl, List.length_append]
    simp only [List.length_cons, Array.length_toList]
    have : (ss.getD (k + 1) ByteArray.empty).data.size = (ss.getD (k + 1) ByteArray.empty).size := rfl
    omega

set_option maxRecDepth 20000 in
set_option maxHeartbeats 4000000 in
theorem joinC (g off c : Nat) (ss : List ByteArray) (w : World) (hs : SS w (some ⟨g, off, none⟩) ss) (h2 : 2 ≤ ss.length) (hc : ss.length ≤ c) (hn : ss.length ≤ 1048576) (htot : tot ss ≤ 1048576) :
    Calls Tryz.prog 221 #[.slice (some ⟨g, off, none⟩) ss.length c, .string ⟨#[32]⟩] w fun e w' => e = .returned (.string (jnB ss)) ∧ Below w.heap.size w w' := by
  have q0 : ((ss.length : Int) == 0) = false := beq_eq_false_iff_ne.2 (by omega)
  have q1 : ((ss.length : Int) == 1) = false := beq_eq_false_iff_ne.2 (by omega)
  have hq : (2 : Int) ≤ 9223372036854775807 / ((ss.length : Int) - 1) := (Int.le_ediv_iff_mul_le (by omega)).2 (by omega)
  have q2 : ¬ (9223372036854775807 / ((ss.length : Int) - 1) ≤ (1 : Int)) := by
    generalize 9223372036854775807 / ((ss.length : Int) - 1) = Q at hq
    omega
  have q3 : ((ss.length : Int) - 1 == 0) = false := beq_eq_false_iff_ne.2 (by omega)
  have hcell : ∀ k, k < ss.length → ∀ W : World, Below w.heap.size w W → W.cell? ⟨g, off + k, none⟩ = some (.string (ss.getD k ByteArray.empty)) := fun k hk W hb => by
    obtain ⟨b, off', e, hb', hc'⟩ := hs.2 k hk
    simp only [Option.some.injEq, Addr.mk.injEq] at e
    obtain ⟨rfl, rfl, _⟩ := e
    exact (hb.cell (p := ⟨g, off + k, none⟩) hb').trans hc'
  have hg : g < w.heap.size := by
    obtain ⟨b, off', e, hb', _⟩ := hs.2 0 (by omega)
    simp only [Option.some.injEq, Addr.mk.injEq] at e
    rw [e.1]; exact hb'
  have ht0 := tot_nonneg ss
  have HCell : Hid (∀ k, k < ss.length → ∀ W : World, Below w.heap.size w W → W.cell? ⟨g, off + k, none⟩ = some (.string (ss.getD k ByteArray.empty))) := hcell
  clear hs hcell hq
  go_enter Tryz.func221, Tryz.ntmps221
  go_wp2
  go_loop [5, 41] (fun t i => ∃ k : Nat, k ≤ ss.length ∧ i = .int .i64 k ∧ t = .int .i64 (((ss.length : Int) - 1) + tot (ss.take k))) (fun _ i => ss.length - (intOf i).toNat)
  case atStart => exact ⟨0, Nat.zero_le _, rfl, by simp [tot]⟩
  case round =>
    obtain ⟨k, hk, rfl, rfl⟩ := hrel
    by_cases hlt : k < ss.length
    · have q : (k : Int) < (ss.length : Int) := by omega
      have hc0 := HCell.out k hlt w (Below.refl _ _)
      have hts := tot_take ss k hlt
      have ht2 := tot_take_le ss (k + 1)
      have ht3 := tot_nonneg (ss.take k)
      obtain ⟨s, hse⟩ : ∃ s, ss.getD k ByteArray.empty = s := ⟨_, rfl⟩
      rw [hse] at hc0 hts
      obtain ⟨T, hT⟩ : ∃ T, tot (ss.take k) = T := ⟨_, rfl⟩
      rw [hT] at hts ht3 ⊢
      have HT : Hid (tot (ss.take (k + 1)) = T + (s.size : Int)) := hts
      have hb1 : T + (s.size : Int) ≤ 1048576 := by omega
      clear hse hT hts ht2
      go_wp2
      go_round
      case rel => exact ⟨k + 1, by omega, by go_num, by rw [HT.out]; go_num⟩
      case measure => simp [intOf]; omega
    · have q : ¬ (k : Int) < (ss.length : Int) := by omega
      have e : ss.take k = ss := List.take_of_length_le (by omega)
      rw [e]
      clear e
      obtain ⟨N, hN⟩ : ∃ N : Nat, (N : Int) = ((ss.length : Int) - 1) + tot ss := ⟨(((ss.length : Int) - 1) + tot ss).toNat, by omega⟩
      rw [← hN]
      have hNb : N ≤ 281474976710656 := by omega
      obtain ⟨W1, hW1⟩ : ∃ W, w.alloc (.cells #[.pointer none, .slice none 0 0] 211) = W := ⟨_, rfl⟩
      have b1 : Below w.heap.size w W1 := by rw [← hW1]; exact (Below.refl _ _).alloc (Nat.le_refl _) _
      have hbk : W1.heap[w.heap.size]? = some (.cells #[.pointer none, .slice none 0 0] 211 (0, 0)) := by rw [← hW1]; exact heap_alloc_new _ _
      have hG := Tryz.Builder_Grow_fresh w.heap.size w.heap.size N W1 (Nat.le_refl _) hbk b1.size hNb
      clear hN hbk
      go_wp2_with fail
      refine hG.mono ?_; rintro e w2 ⟨rfl, h2', b2⟩
      have B2 := b1.trans b2
      have c0 := HCell.out 0 (by omega) w2 B2
      rw [Nat.add_zero] at c0
      clear hG b1 b2 hW1
      obtain ⟨s0, hs0⟩ : ∃ s, ss.getD 0 ByteArray.empty = s := ⟨_, rfl⟩
      rw [hs0] at c0
      have hl0 : s0.size ≤ 1048576 := by
        have := tot_take ss 0 (by omega)
        have h3 := tot_take_le ss (0 + 1)
        rw [hs0] at this
        have h4 : tot (ss.take 0) = 0 := by simp [tot]
        omega
      have hWs := writeString w.heap.size w.heap.size [] s0 w2 (.inr h2') (by simp; omega) B2.size
      go_wp2_with fail
      refine hWs.mono ?_; rintro e w3 ⟨rfl, h3', b3⟩
      have B3 := B2.trans b3
      have HI : Lib.IsBuilder 211 5 w.heap.size w.heap.size (Lib.byteCells (jl ss 0)) w3 := by
        rw [show jl ss 0 = s0.data.toList by rw [jl, hs0], ← Lib.strCells_eq]
        exact .inr (by simpa using h3')
      clear hWs h2' h3' b3 c0 B2 hs0
      have qc : ¬ c = 1 := by omega
      have q5 : (1 : Int) ≤ (ss.length : Int) := by omega
      have q6 : (ss.length : Int) ≤ (c : Int) := by omega
      go_wp2
      go_loopw [65] (fun i wr => ∃ k : Nat, k + 1 ≤ ss.length ∧ i = .int .i64 k ∧ Lib.IsBuilder 211 5 w.heap.size w.heap.size (Lib.byteCells (jl ss k)) wr ∧ Below w.heap.size w wr) (fun i _ => ss.length - (intOf i).toNat)
      case atStart => exact ⟨0, by omega, rfl, HI, B3⟩
      case round =>
        clear HI B3
        obtain ⟨k, hk, rfl, hB, hbel⟩ := hrel
        have hsz := hbel.size
        by_cases hlt : k + 1 < ss.length
        · have q : (k : Int) < ((ss.length - 1 : Nat) : Int) := by omega
          have hc1 := HCell.out (k + 1) hlt wr hbel
          have hln := jl_len ss k (by omega)
          have ht2 := tot_take_le ss (k + 1)
          have hts := tot_take ss (k + 1) hlt
          have ht4 := tot_take_le ss (k + 1 + 1)
          obtain ⟨s, hse⟩ : ∃ s, ss.getD (k + 1) ByteArray.empty = s := ⟨_, rfl⟩
          have hjl : jl ss (k + 1) = jl ss k ++ ([32] ++ s.data.toList) := by rw [jl, hse]; rfl
          rw [hse] at hc1 hts
          have hl1 : (Lib.byteCells (jl ss k)).length + (⟨#[32]⟩ : ByteArray).size ≤ 140737488355328 := by
            rw [Lib.byteCells_length]; show _ + 1 ≤ _; omega
          have hW1 := writeString w.heap.size w.heap.size _ ⟨#[32]⟩ wr hB hl1 hsz
          have hl2 : ∀ bs : List Value, bs.length = (jl ss k).length + 1 → bs.length + s.size ≤ 140737488355328 := fun bs e => by omega
          have HJ : Hid (jl ss (k + 1) = jl ss k ++ ([32] ++ s.data.toList)) := hjl
          rw [show off + (k + 1) = off + 1 + k by omega] at hc1
          clear hts ht2 ht4 hln hse hjl hl1
          go_wp2_with fail
          refine hW1.mono ?_; rintro e w4 ⟨rfl, h4, b4⟩
          have hW2 := writeString w.heap.size w.heap.size _ s w4 (.inr h4) (hl2 _ (by rw [List.length_append, Lib.byteCells_length]; rfl)) (Nat.le_trans hsz b4.size)
          clear hW1 hl2
          go_wp2_with fail
          refine hW2.mono ?_; rintro e w5 ⟨rfl, h5, b5⟩
          have HI : Hid (Lib.IsBuilder 211 5 w.heap.size w.heap.size (Lib.byteCells (jl ss (k + 1))) w5) := by
            show Lib.IsBuilder _ _ _ _ _ _
            rw [HJ.out, Lib.byteCells_append, Lib.byteCells_append, ← List.append_assoc, ← Lib.strCells_eq]
            exact .inr h5
          have B5 := (hbel.trans b4).trans b5
          clear hW2 h4 h5 b4 b5 hB
          go_wp2
          go_roundw
          case rel => exact ⟨k + 1, by omega, by go_num, HI.out, B5⟩
          case measure => simp [intOf]; omega
        · have q : ¬ (k : Int) < ((ss.length - 1 : Nat) : Int) := by omega
          have ek : k = ss.length - 1 := by omega
          have hSt := Tryz.Builder_String_any _ _ _ _ hB hsz
          go_wp2_with fail
          refine hSt.mono ?_; rintro e w4 ⟨rfl, b4⟩
          have B4 := hbel.trans b4
          clear hSt b4 hB hbel
          go_wp2
          go_ret
          refine ⟨?_, B4⟩
          unfold jnB
          rw [← ek]
          rfl
end Go.Proofs.YtgidcncmicmggamGreatDoor
/- The contracts of a strings.Builder that String() has read and that is written on (Len, String, WriteString, WriteByte). No statement is proved here. -/
set_option linter.unusedVariables false
namespace Go.Proofs.YtgidcncmicmggamGreatDoor
open Go.RowKit

theorem bString (B b : Nat) (l : List UInt8) (w : World) (h : Lib.IsBuilderF 211 5 B b (Lib.byteCells l) w) (hBw : B ≤ w.heap.size) :
    Calls Tryz.prog 149 #[.pointer (some ⟨b, 0, none⟩)] w fun e w' => e = .returned (.string ⟨l.toArray⟩) ∧ (Lib.IsBuilderF 211 5 B b (Lib.byteCells l) w' ∧ Below B w w') := Any.Builder_String_any_f Tryz.lays169 Tryz.Builder_Extra_169 B b l w h hBw

theorem copyCheckF (B b : Nat) (bs : List Value) (w : World) (h : Lib.IsBuilderF 211 5 B b bs w) :
    Calls Tryz.prog 234 #[.pointer (some ⟨b, 0, none⟩)] w fun e w' => e = .returned (.tuple #[]) ∧ (Lib.BuilderAtF 211 5 B b (.pointer (some ⟨b, 0, none⟩)) bs w' ∧ Below B w w') := by
  rcases h with h | h
  · refine (copyCheck_fresh b w h.cell0 h.shape h.frozen0).mono ?_
    rintro e w' ⟨rfl, rfl⟩
    exact ⟨rfl, h.used _, (Below.refl B w).setCell (p := ⟨b, 0, none⟩) h.1 _⟩
  · refine (copyCheck_used b w h.cell0).mono ?_
    rintro e w' ⟨rfl, rfl⟩
    exact ⟨rfl, h, Below.refl B _⟩

/-- append of one byte behind a head that is frozen. -/
theorem run_append_oneF {P : Program} (w : World) (base : Nat) (t ty e : TypeId) (i : TypeInfo) (ht : P.underlying t = some (.slice e)) (hi : P.info? e = some i) (hz : i.zero = some (.int .u8 0)) (hsize : i.size = 1) (hby : i.bytes = 1)
    (v : Value) (n : Nat) (xs : List Value) (hown : w.ownsRowF base e 1 v n xs) (a : Addr) (c : Nat) (u : Value) (hnews : ∀ j x, [u][j]? = some x → w.cell? (a.add j) = some x) (h1 : ∀ x ∈ [u], x.oneCell' = true)
    (h63 : n + 1 ≤ maxLen) (hbytes : n + 1 ≤ 140737488355328) (hbase : base ≤ w.heap.size) :
    ∃ v' w', (Builtin.append_ #[t, t] ty #[v, .slice (some a) 1 c]).run P w = .ok v' w' ∧ w'.ownsRowF base e 1 v' (n + 1) (xs ++ [u]) ∧ w.grownBy w' v.ownBlock := by
  rcases hown.2 with ⟨rfl, rfl⟩ | ⟨g, cap, cur, fz, rfl, hbg, hg, hfz, hnc, hcm, hcs, htake⟩
  · obtain ⟨v', w', r1, r2, r3, _⟩ := run_append_own_at (P := P) w base t ty e i (.int .u8 0) 1 1 ht hi hz hsize hby rfl (by decide) (.slice none 0 0) 0 xs ⟨hown.1, .inl ⟨rfl, rfl⟩⟩ a 1 c [u] rfl hnews h1 h63 (by omega) hbase
    exact ⟨v', w', r1, World.ownsRowF_of r2, r3⟩
  · have hxl : xs.length = n := by simpa using hown.1
    have hlen : (xs ++ [u]).length = (n + 1) * 1 := by rw [List.length_append, hxl, Nat.mul_one]; rfl
    by_cases hroom : n + 1 ≤ cap
    · have hcs' : cur.size = cap := by simpa using hcs
      have hf := run_firstCells_some (P := P) w 1 1 a 1 c [u] rfl hnews
      have hst := run_storeCells_atF P g n e fz [u] 0 cur w hg (by simpa using hfz) (by simp; omega) h1
      simp only [Nat.add_zero] at hst
      have hr : (Builtin.append_ #[t, t] ty #[.slice (some ⟨g, 0, none⟩) n cap, .slice (some a) 1 c]).run P w = .ok (.slice (some ⟨g, 0, none⟩) (n + 1) cap) (w.setRow g (cur.toList.take n ++ [u] ++ cur.toList.drop (n + [u].length)).toArray) := by
        simp [Builtin.append_, run_underlying ht, sizeOf, typeInfo, hi, hsize, Builtin.lenOf, hroom, hf, Addr.add_lit, hst]
      refine ⟨_, _, hr, ⟨hlen, .inr ⟨g, cap, _, fz, rfl, hbg, setRow_heap w g cur _ e _ hg, by omega, hroom, hcm, ?_, ?_⟩⟩, ⟨rfl, rfl, rfl, by simp, fun k _ hk => setRow_other w g k _ (fun e => hk (by simp [Value.ownBlock, e]))⟩⟩
      · simp only [List.size_toArray, List.length_append, List.length_take, List.length_drop, Array.length_toList, List.length_singleton]
        omega
      · have ht' : cur.toList.take n = xs := by simpa using htake
        rw [ht', ← hlen]
        exact List.take_left
    · have holds : ∀ j x, xs[j]? = some x → w.cell? ((⟨g, 0, none⟩ : Addr).add j) = some x := hown.cells (g := g) rfl
      have hr := run_append_grow (P := P) w t ty e i (.int .u8 0) ht hi hz ⟨g, 0, none⟩ n cap xs (by rw [hsize]; exact hown.1) holds a 1 c [u] (by rw [hsize]; rfl) hnews (by omega) (by unfold maxLen at h63; omega) (by rw [hby]; exact growslice_fits (by omega) (by omega))
      have hge := grownCap_ge w (n + 1) cap e
      have hcm2 : grownCap w (n + 1) cap e ≤ maxLen := grownCap_le_maxLen w (n + 1) cap e h63
      refine ⟨_, _, hr, ⟨hlen, .inr ⟨w.heap.size, _, _, (0, 0), rfl, hbase, heap_alloc_new w.drew _, Nat.zero_le _, hge, hcm2, ?_, ?_⟩⟩, ⟨rfl, rfl, rfl, by simp, fun k hk _ => Lib.alloc_old w.drew _ k hk⟩⟩
      · have hz1 : (Value.int IntKind.u8 0).cells.size = 1 := rfl
        simp only [Array.size_append, List.size_toArray, size_zeroCells, hz1, hxl, List.length_singleton]
        omega
      · simp only [Array.toList_append, List.append_assoc]
        rw [← List.append_assoc, ← hlen]
        exact List.take_left
theorem wpList_append_oneF {P : Program} {w : World} {ops : Array Oper} {rest : List Oper} {o : Oper} {a : Act} {Q : Exit → Act → World → Prop} (hgd : o.guard = none) (sl x : Operand) (t : TypeId)
    (ho : o.op = .call { callee := .builtin .append, args := #[sl, x], argTypes := #[t, t] })
    (base : Nat) (e : TypeId) (i : TypeInfo) (ht : P.underlying t = some (.slice e)) (hi : P.info? e = some i) (hz : i.zero = some (.int .u8 0)) (hsize : i.size = 1) (hby : i.bytes = 1)
    (v : Value) (n : Nat) (xs : List Value) (hs : a.eval sl = v) (hown : w.ownsRowF base e 1 v n xs) (ad : Addr) (c : Nat) (u : Value) (hx : a.eval x = .slice (some ad) 1 c) (hnews : ∀ j x, [u][j]? = some x → w.cell? (ad.add j) = some x) (h1 : ∀ x ∈ [u], x.oneCell' = true)
    (h63 : n + 1 ≤ maxLen) (hbytes : n + 1 ≤ 140737488355328) (hbase : base ≤ w.heap.size)
    (h : ∀ v' w', w'.ownsRowF base e 1 v' (n + 1) (xs ++ [u]) → w.grownBy w' v.ownBlock → wpList P ops Q rest (a.put o.dst v') w') : wpList P ops Q (o :: rest) a w := by
  refine wpList_plain hgd fun K hK => ?_
  obtain ⟨v', w', hr, h2, h3⟩ := run_append_oneF (P := P) w base t o.type e i ht hi hz hsize hby v n xs hown ad c u hnews h1 h63 hbytes hbase
  unfold Oper.wp execOp
  simp only [ho, resolve, invoke, builtin, Sem.run_bind, Sem.run_pure, Result.andThen_ok, List.map_toArray, List.map_cons, List.map_nil, hs, hx, hr]
  exact hK _ _ (h v' w' h2 h3)

set_option maxHeartbeats 2000000 in
set_option maxRecDepth 100000 in
theorem writeStringF (B b : Nat) (bs : List Value) (s : ByteArray) (w : World) (h : Lib.IsBuilderF 211 5 B b bs w) (hlen : bs.length + s.size ≤ 140737488355328) (hBw : B ≤ w.heap.size) :
    Calls Tryz.prog 220 #[.pointer (some ⟨b, 0, none⟩), .string s] w fun e w' => e = .returned (.tuple #[.int .i64 s.size, .nilIface]) ∧ (Lib.BuilderAtF 211 5 B b (.pointer (some ⟨b, 0, none⟩)) (bs ++ Lib.strCells s) w' ∧ Below B w w') := by
  obtain ⟨i0, hi, hz0, hz1, hz2⟩ := info_parts infoByte
  go_enter Tryz.func220, Tryz.ntmps220
  go_wp2_with (go_at_call 234; refine (copyCheckF B b bs _ h).mono ?_)
  rintro e w1 ⟨rfl, h1, hb1⟩
  obtain ⟨hB, v, hbk, hown, hne⟩ := h1
  have c0 : w1.cell? ⟨b, 0, none⟩ = some (.pointer (some ⟨b, 0, none⟩)) := by rw [Lib.cell_of_heap hbk]; rfl
  have c1 : w1.cell? ⟨b, 1, none⟩ = some v := by rw [Lib.cell_of_heap hbk]; rfl
  go_wp2_with (at_builtin; refine Lib.wpList_append_own_stringF _ rfl _ _ 145 9 rfl B 5 i0 Tryz.underlying145 Tryz.underlying9 hi hz0 hz1 hz2 _ _ _ rfl hown s rfl ?c3 ?c4 ?c5 ?_)
  case c3 => unfold maxLen; omega
  case c4 => omega
  case c5 => have := hb1.size; omega
  intro v' w2 hown' hgrow _
  have hlt : b < w1.heap.size := by
    rcases Nat.lt_or_ge b w1.heap.size with h' | h'
    · exact h'
    · simp [Array.getElem?_eq_none h'] at hbk
  have hb2 : w2.heap[b]? = some (.cells #[.pointer (some ⟨b, 0, none⟩), v] 211 (0, 0)) := by
    rw [hgrow.block b hlt (fun e => hne e.symm)]
    exact hbk
  have d0 : w2.cell? ⟨b, 0, none⟩ = some (.pointer (some ⟨b, 0, none⟩)) := by rw [Lib.cell_of_heap hb2]; rfl
  have d1 : w2.cell? ⟨b, 1, none⟩ = some v := by rw [Lib.cell_of_heap hb2]; rfl
  have f1 : w2.frozen? ⟨b, 1, none⟩ = false := Lib.frozen_of_heap hb2 1
  obtain ⟨ao, n', cap, rfl⟩ : ∃ ao n' cap, v' = .slice ao n' cap := by
    rcases hown'.2 with ⟨hv, _⟩ | ⟨g, cap, cur, fz, hv, _⟩
    · exact ⟨_, _, _, hv⟩
    · exact ⟨_, _, _, hv⟩
  go_wp2
  go_ret2
  refine ⟨rfl, ?_, ?_⟩
  · exact Lib.BuilderAtF.put (T := 211) (e := 5) hB hb2 (bs' := bs ++ Lib.strCells s) (by simpa [Lib.strCells_length] using hown') (by decide)
  · exact (hb1.grown hgrow (by have := hb1.size; omega) (fun k hk => (hown.lt k hk).1)).setCell (p := ⟨b, 1, none⟩) hB _

set_option maxHeartbeats 2000000 in
set_option maxRecDepth 100000 in
theorem writeByteF (B b : Nat) (bs : List Value) (c : Int) (w : World) (h : Lib.IsBuilderF 211 5 B b bs w) (hlen : bs.length + 1 ≤ 140737488355328) (hBw : B ≤ w.heap.size) :
    Calls Tryz.prog 222 #[.pointer (some ⟨b, 0, none⟩), .int .u8 c] w fun e w' => e = .returned .nilIface ∧ (Lib.BuilderAtF 211 5 B b (.pointer (some ⟨b, 0, none⟩)) (bs ++ [.int .u8 c]) w' ∧ Below B w w') := by
  obtain ⟨i0, hi, hz0, hz1, hz2⟩ := info_parts infoByte
  go_enter Tryz.func222, Tryz.ntmps222
  go_wp2_with (go_at_call 234; refine (copyCheckF B b bs _ h).mono ?_)
  rintro e w1 ⟨rfl, h1, hb1⟩
  obtain ⟨hB, v, hbk, hown, hne⟩ := h1
  have c0 : w1.cell? ⟨b, 0, none⟩ = some (.pointer (some ⟨b, 0, none⟩)) := by rw [Lib.cell_of_heap hbk]; rfl
  have c1 : w1.cell? ⟨b, 1, none⟩ = some v := by rw [Lib.cell_of_heap hbk]; rfl
  have hownA : ∀ o, (w1.alloc o).ownsRowF B 5 1 v bs.length bs := fun o => hown.kept (World.grownBy_alloc w1 o none) (by cases hv : v.ownBlock <;> simp)
  go_wp2_with (at_builtin; refine wpList_append_oneF rfl _ _ 145 rfl B 5 i0 Tryz.underlying145 hi hz0 hz1 hz2 _ _ _ rfl (hownA _) ⟨w1.heap.size, 0, none⟩ 1 (.int .u8 c) rfl ?c1 ?c2 ?c3 ?c4 ?c5 ?_)
  case c1 =>
    intro j u hj
    match j, hj with
    | 0, hj => simp at hj; subst hj; simp [Addr.add]
  case c2 => intro u hu; simp at hu; subst hu; rfl
  case c3 => unfold maxLen; omega
  case c4 => omega
  case c5 => have := hb1.size; simp; omega
  intro v' w2 hown' hgrow
  have hlt : b < w1.heap.size := by
    rcases Nat.lt_or_ge b w1.heap.size with h' | h'
    · exact h'
    · simp [Array.getElem?_eq_none h'] at hbk
  have hb2 : w2.heap[b]? = some (.cells #[.pointer (some ⟨b, 0, none⟩), v] 211 (0, 0)) := by
    rw [hgrow.block b (by simp; omega) (fun e => hne e.symm), Lib.alloc_old w1 _ b hlt]
    exact hbk
  have d0 : w2.cell? ⟨b, 0, none⟩ = some (.pointer (some ⟨b, 0, none⟩)) := by rw [Lib.cell_of_heap hb2]; rfl
  have d1 : w2.cell? ⟨b, 1, none⟩ = some v := by rw [Lib.cell_of_heap hb2]; rfl
  have f1 : w2.frozen? ⟨b, 1, none⟩ = false := Lib.frozen_of_heap hb2 1
  obtain ⟨ao, n', cap, rfl⟩ : ∃ ao n' cap, v' = .slice ao n' cap := by
    rcases hown'.2 with ⟨hv, _⟩ | ⟨g, cap, cur, fz, hv, _⟩
    · exact ⟨_, _, _, hv⟩
    · exact ⟨_, _, _, hv⟩
  go_wp2
  go_ret
  refine ⟨rfl, ?_, ?_⟩
  · exact Lib.BuilderAtF.put (T := 211) (e := 5) hB hb2 (bs' := bs ++ [.int .u8 c]) (by simpa using hown') (by decide)
  · exact ((hb1.alloc (by have := hb1.size; omega) _).grown hgrow (by have := hb1.size; simp; omega) (fun k hk => (hown.lt k hk).1)).setCell (p := ⟨b, 1, none⟩) hB _
end Go.Proofs.YtgidcncmicmggamGreatDoor
/- The contract of the program's writeWords. No statement is proved here. -/
namespace Go.Proofs.YtgidcncmicmggamGreatDoor
open Go.ChangeShapes Go.WideShapes Go.ChangeAt Go.RowKit

/-- A builder that holds these bytes. -/
def TB (B b : Nat) (l : List UInt8) (w : World) : Prop := Lib.IsBuilderF 211 5 B b (Lib.byteCells l) w
theorem TB.fresh (w : World) : TB w.heap.size w.heap.size [] (w.alloc (.cells #[.pointer none, .slice none 0 0] 211)) := Lib.IsBuilderF.of (Lib.fresh_isBuilder 211 5 w)
theorem atF_below {T e : TypeId} {B b : Nat} {p : Value} {bs : List Value} {w w' : World} (h : Lib.BuilderAtF T e B b p bs w) (hb : Below w.heap.size w w') : Lib.BuilderAtF T e B b p bs w' := by
  have hlt := h.lt
  obtain ⟨hB, v, hbk, hown, hne⟩ := h
  exact ⟨hB, v, (hb.block b hlt).trans hbk, hown.kept (grownOfBelow hb none) (by cases hv : v.ownBlock <;> simp), hne⟩
theorem TB.below {B b : Nat} {l : List UInt8} {w w' : World} (h : TB B b l w) (hb : Below w.heap.size w w') : TB B b l w' := h.elim (fun x => .inl (atF_below x hb)) (fun x => .inr (atF_below x hb))
/-- A line of words. -/
def wl (ss : List ByteArray) : List UInt8 := (jnB ss).data.toList ++ [10]

set_option maxHeartbeats 1000000 in
theorem writeWords (B b g off c : Nat) (l : List UInt8) (ss : List ByteArray) (w : World) (hB : TB B b l w) (hbs : B ≤ w.heap.size) (hs : SS w (some ⟨g, off, none⟩) ss) (h2 : 2 ≤ ss.length) (hc : ss.length ≤ c) (hn : ss.length ≤ 1048576) (htot : tot ss ≤ 1048576) (hl : l.length ≤ 1000000000) :
    Calls Tryz.prog 190 #[.pointer (some ⟨b, 0, none⟩), .slice (some ⟨g, off, none⟩) ss.length c] w fun e w' => e = .returned (.tuple #[]) ∧ TB B b (l ++ wl ss) w' ∧ Below B w w' := by
  have hJ := joinC g off c ss w hs h2 hc hn htot
  have hsz : (jnB ss).size ≤ 3145728 := by
    have := jl_len ss (ss.length - 1) (by omega)
    have h3 := tot_take_le ss (ss.length - 1 + 1)
    show (jl ss (ss.length - 1)).toArray.size ≤ _
    simp
    omega
  have HW : Hid (wl ss = (jnB ss).data.toList ++ [10]) := rfl
  obtain ⟨J, hJe⟩ : ∃ J, jnB ss = J := ⟨_, rfl⟩
  rw [hJe] at hJ hsz HW
  clear hJe
  go_enter Tryz.func190, Tryz.ntmps190
  go_wp2_with fail
  refine hJ.mono ?_; rintro e w1 ⟨rfl, b1⟩
  have T1 := hB.below b1
  have s1 := b1.size
  have hWs := writeStringF B b _ J w1 T1 (by rw [Lib.byteCells_length]; omega) (by omega)
  clear hJ T1
  go_wp2_with fail
  refine hWs.mono ?_; rintro e w2 ⟨rfl, h2', b2⟩
  have s2 := b2.size
  have hWb := writeByteF B b _ 10 w2 (.inr h2') (by rw [List.length_append, Lib.byteCells_length, Lib.strCells_eq, Lib.byteCells_length]; simp; omega) (by omega)
  clear hWs
  go_wp2_with fail
  refine hWb.mono ?_; rintro e w3 ⟨rfl, h3', b3⟩
  have HT : Hid (TB B b (l ++ wl ss) w3) := by
    show Lib.IsBuilderF _ _ _ _ _ _
    refine .inr ?_
    have e : Lib.byteCells (l ++ wl ss) = Lib.byteCells l ++ Lib.strCells J ++ [.int .u8 10] := by
      rw [HW.out, Lib.byteCells_append, Lib.byteCells_append, ← Lib.strCells_eq, List.append_assoc]
      rfl
    rw [e]
    exact h3'
  have HB : Hid (Below B w w3) := ((b1.mono hbs).trans b2).trans b3
  clear hWb h2' h3' b1 b2 b3 hB
  go_wp2
  go_end0
  exact ⟨rfl, HT.out, HB.out⟩
end Go.Proofs.YtgidcncmicmggamGreatDoor
/- The contracts of entryFault, l6Words, l6Tree and the specification's TreeFault. No statement is proved here. -/
namespace Go.Proofs.YtgidcncmicmggamGreatDoor.Te
open Go.ChangeShapes Go.WideShapes Go.ChangeAt Go.RowKit

theorem quietN {P : Program} {f : FuncId} {args : Array Value} {w : World} {n : Nat} {v : Value}
    (h : Calls P f args (w.drewN n) fun e w' => e = .returned v ∧ ∃ m, w' = (w.drewN n).drewN m) : Calls P f args (w.drewN n) fun e w'' => e = .returned v ∧ ∃ m, w'' = w.drewN m :=
  h.mono fun _ _ ⟨he, m, hm⟩ => ⟨he, n + m, by rw [hm, World.drewN_drewN]⟩
theorem ef_name {x0 : ByteArray} {x1 : Int} {x2 : ByteArray} (h : ¬ nf x0 = 0) : ef x0 x1 x2 = nf x0 := if_neg h
theorem ef_mode {x0 : ByteArray} {x1 : Int} {x2 : ByteArray} (h : nf x0 = 0) (e : inB x1 1 3 = false) : ef x0 x1 x2 = 3 := by unfold ef; rw [if_pos h, if_neg (by rw [e]; decide)]
theorem ef_id {x0 : ByteArray} {x1 : Int} {x2 : ByteArray} (h : nf x0 = 0) (e : inB x1 1 3 = true) (q : isOf (ek x1) x2 = false) : ef x0 x1 x2 = 1 := by unfold ef; rw [if_pos h, if_pos e, if_neg (by rw [q]; decide)]
theorem ef_ok {x0 : ByteArray} {x1 : Int} {x2 : ByteArray} (h : nf x0 = 0) (e : inB x1 1 3 = true) (q : isOf (ek x1) x2 = true) : ef x0 x1 x2 = 0 := by unfold ef; rw [if_pos h, if_pos e, if_pos q]
theorem ek_in (x1 : Int) : ek x1 = 1 ∨ ek x1 = 2 ∨ ek x1 = 3 := by unfold ek; split <;> omega
theorem inB13 {x1 : Int} (h : inB x1 1 3 = true) : x1 = 1 ∨ x1 = 2 ∨ x1 = 3 := by
  unfold inB at h
  simp at h
  omega
theorem inB13F {x1 : Int} (h : inB x1 1 3 = false) : ¬ x1 = 1 ∧ ¬ x1 = 2 ∧ ¬ x1 = 3 := by
  refine ⟨fun e => ?_, fun e => ?_, fun e => ?_⟩ <;> subst e <;> simp [inB] at h
set_option maxRecDepth 20000 in
set_option maxHeartbeats 2000000 in
theorem efC (x0 x2 : ByteArray) (x1 : Int) (w : World) : Calls Tryz.prog 189 #[.agg #[.string x0, .int .i64 x1, .string x2]] w fun e w' => e = .returned (.int .i64 (ef x0 x1 x2)) ∧ Below w.heap.size w w' := by
  have hN := fun w => implNameFault x0 w
  have hO := fun w => isIdOf (ek x1) (ek_in x1) x2 w
  obtain ⟨W1, hW1⟩ : ∃ W, w.alloc (.cells #[.string x0, .int .i64 x1, .string x2] 124) = W := ⟨_, rfl⟩
  have b1 : Below w.heap.size w W1 := by rw [← hW1]; exact allocBelow _ _
  have r1 : Rf W1 w.heap.size [.string x0, .int .i64 x1, .string x2] := by rw [← hW1]; exact Rf.new _ _ _
  have c0 := r1.at_ 0 _ rfl
  have c1 := r1.at_ 1 _ rfl
  have c2 := r1.at_ 2 _ rfl
  by_cases hn : nf x0 = 0
  · rw [hn] at hN
    cases hin : inB x1 1 3 with
    | false =>
      obtain ⟨n1, n2, n3⟩ := inB13F hin
      have HR : Hid (ef x0 x1 x2 = 3) := ef_mode hn hin
      have q1 : (x1 == 1) = false := beq_eq_false_iff_ne.2 n1
      have q2 : (x1 == 2) = false := beq_eq_false_iff_ne.2 n2
      have q3 : (x1 == 3) = false := beq_eq_false_iff_ne.2 n3
      clear hin n1 n2 n3 hO r1 hn
      go_enter Tryz.func189, Tryz.ntmps189
      go_wp2_with fail
      refine (hN _).mono ?_; rintro e w2 ⟨rfl, rfl⟩
      go_wp2
      go_ret
      exact ⟨ret_int HR.out.symm, b1⟩
    | true =>
      have HT : isOf (ek x1) x2 = true → Hid (ef x0 x1 x2 = 0) := fun q => ef_ok hn hin q
      have HF : isOf (ek x1) x2 = false → Hid (ef x0 x1 x2 = 1) := fun q => ef_id hn hin q
      rcases inB13 hin with rfl | rfl | rfl
      · have eK : ek 1 = 1 := rfl
        rw [eK] at hO HT HF
        cases hb : isOf 1 x2 with
        | true =>
          have HR := HT hb
          rw [hb] at hO
          clear HT HF hb hin r1 hn eK
          go_enter Tryz.func189, Tryz.ntmps189
          go_wp2_with fail
          refine (hN _).mono ?_; rintro e w2 ⟨rfl, rfl⟩
          go_wp2_with fail
          refine (hO _).mono ?_; rintro e w3 ⟨rfl, n, hw3⟩
          have B3 : Below w.heap.size w w3 := by rw [hw3]; exact below_drewN' b1 n
          clear hw3
          go_wp2
          go_ret
          exact ⟨ret_int HR.out.symm, B3⟩
        | false =>
          have HR := HF hb
          rw [hb] at hO
          clear HT HF hb hin r1 hn eK
          go_enter Tryz.func189, Tryz.ntmps189
          go_wp2_with fail
          refine (hN _).mono ?_; rintro e w2 ⟨rfl, rfl⟩
          go_wp2_with fail
          refine (hO _).mono ?_; rintro e w3 ⟨rfl, n, hw3⟩
          have B3 : Below w.heap.size w w3 := by rw [hw3]; exact below_drewN' b1 n
          clear hw3
          go_wp2
          go_ret
          exact ⟨ret_int HR.out.symm, B3⟩
      · have eK : ek 2 = 1 := rfl
        rw [eK] at hO HT HF
        cases hb : isOf 1 x2 with
        | true =>
          have HR := HT hb
          rw [hb] at hO
          clear HT HF hb hin r1 hn eK
          go_enter Tryz.func189, Tryz.ntmps189
          go_wp2_with fail
          refine (hN _).mono ?_; rintro e w2 ⟨rfl, rfl⟩
          go_wp2_with fail
          refine (hO _).mono ?_; rintro e w3 ⟨rfl, n, hw3⟩
          have B3 : Below w.heap.size w w3 := by rw [hw3]; exact below_drewN' b1 n
          clear hw3
          go_wp2
          go_ret
          exact ⟨ret_int HR.out.symm, B3⟩
        | false =>
          have HR := HF hb
          rw [hb] at hO
          clear HT HF hb hin r1 hn eK
          go_enter Tryz.func189, Tryz.ntmps189
          go_wp2_with fail
          refine (hN _).mono ?_; rintro e w2 ⟨rfl, rfl⟩
          go_wp2_with fail
          refine (hO _).mono ?_; rintro e w3 ⟨rfl, n, hw3⟩
          have B3 : Below w.heap.size w w3 := by rw [hw3]; exact below_drewN' b1 n
          clear hw3
          go_wp2
          go_ret
          exact ⟨ret_int HR.out.symm, B3⟩
      · have eK : ek 3 = 2 := rfl
        rw [eK] at hO HT HF
        cases hb : isOf 2 x2 with
        | true =>
          have HR := HT hb
          rw [hb] at hO
          clear HT HF hb hin r1 hn eK
          go_enter Tryz.func189, Tryz.ntmps189
          go_wp2_with fail
          refine (hN _).mono ?_; rintro e w2 ⟨rfl, rfl⟩
          go_wp2_with fail
          refine (hO _).mono ?_; rintro e w3 ⟨rfl, n, hw3⟩
          have B3 : Below w.heap.size w w3 := by rw [hw3]; exact below_drewN' b1 n
          clear hw3
          go_wp2
          go_ret
          exact ⟨ret_int HR.out.symm, B3⟩
        | false =>
          have HR := HF hb
          rw [hb] at hO
          clear HT HF hb hin r1 hn eK
          go_enter Tryz.func189, Tryz.ntmps189
          go_wp2_with fail
          refine (hN _).mono ?_; rintro e w2 ⟨rfl, rfl⟩
          go_wp2_with fail
          refine (hO _).mono ?_; rintro e w3 ⟨rfl, n, hw3⟩
          have B3 : Below w.heap.size w w3 := by rw [hw3]; exact below_drewN' b1 n
          clear hw3
          go_wp2
          go_ret
          exact ⟨ret_int HR.out.symm, B3⟩
  · have HR : Hid (ef x0 x1 x2 = nf x0) := ef_name hn
    have q0 : (nf x0 != 0) = true := ne_beq hn
    clear hO r1 hn c1 c2
    go_enter Tryz.func189, Tryz.ntmps189
    go_wp2_with fail
    refine (hN _).mono ?_; rintro e w2 ⟨rfl, rfl⟩
    go_wp2
    go_ret
    exact ⟨ret_int HR.out.symm, b1⟩
/-- The words of modes. -/
def wd (m : Int) : ByteArray := if m = 1 then ⟨#[102, 105, 108, 101]⟩ else if m = 2 then ⟨#[114, 117, 110]⟩ else ⟨#[116, 114, 101, 101]⟩
theorem l6Words (w : World) : Calls Tryz.prog 119 #[] w fun e w' => e = .returned (.slice (some ⟨w.heap.size, 0, none⟩) 4 4) ∧ w' = w.alloc (.cells #[.string ⟨#[]⟩, .string ⟨#[102, 105, 108, 101]⟩, .string ⟨#[114, 117, 110]⟩, .string ⟨#[116, 114, 101, 101]⟩] 9) := by
  go_enter Tryz.func119, Tryz.ntmps119
  go_wp2
  go_ret
  exact ⟨rfl, rfl⟩
/-- The line of an entry, and the text of a tree. -/
def el (o : Ob) : List UInt8 := (wd o.2.1).data.toList ++ 32 :: (o.2.2.data.toList ++ 32 :: (o.1.data.toList ++ [10]))
def trL (l : List Ob) : List UInt8 := l.flatMap el
def trB (l : List Ob) : ByteArray := ⟨(trL l).toArray⟩
theorem trL_take (l : List Ob) (k : Nat) (h : k < l.length) : trL (l.take (k + 1)) = trL (l.take k) ++ el (l.getD k onil) := by
  unfold trL
  rw [ob_take l k h, List.flatMap_append]
  simp
theorem trB_take (l : List Ob) (k : Nat) (h : k < l.length) : trB (l.take (k + 1)) = trB (l.take k) ++ wd (l.getD k onil).2.1 ++ ⟨#[32]⟩ ++ (l.getD k onil).2.2 ++ ⟨#[32]⟩ ++ (l.getD k onil).1 ++ ⟨#[10]⟩ := by
  apply WideShapes.bytes_inj
  rw [show (trB (l.take (k + 1))).data.toList = trL (l.take (k + 1)) from rfl, trL_take l k h]
  simp only [ByteArray.data_append, Array.toList_append]
  show _ = trL (l.take k) ++ _ ++ [32] ++ _ ++ [32] ++ _ ++ [10]
  unfold el
  simp
end Go.Proofs.YtgidcncmicmggamGreatDoor.Te
/- The contract of the program's writeTree. No statement is proved here. -/
namespace Go.Proofs.YtgidcncmicmggamGreatDoor.Te
open Go.ChangeShapes Go.WideShapes Go.ChangeAt Go.RowKit

/-- Entries that are right, each by itself. -/
def Fine (l : List Ob) : Prop := ∀ k, k < l.length → ef (l.getD k onil).1 (l.getD k onil).2.1 (l.getD k onil).2.2 = 0
theorem ef_zero {x0 : ByteArray} {x1 : Int} {x2 : ByteArray} (h : ef x0 x1 x2 = 0) : nf x0 = 0 ∧ inB x1 1 3 = true ∧ isOf (ek x1) x2 = true := by
  by_cases h0 : nf x0 = 0
  · cases hin : inB x1 1 3 with
    | false => rw [ef_mode h0 hin] at h; omega
    | true =>
      cases hb : isOf (ek x1) x2 with
      | false => rw [ef_id h0 hin hb] at h; omega
      | true => exact ⟨h0, rfl, rfl⟩
  · rw [ef_name h0] at h; exact absurd h h0
theorem nf_size {s : ByteArray} (h : nf s = 0) : s.size ≤ 12 := by
  by_cases h1 : 12 < s.size
  · rw [nf_long h1] at h; omega
  · omega
theorem isOf_size {k : Int} {id : ByteArray} (h : isOf k id = true) : id.size = 5 := by
  unfold isOf at h
  cases hb : idB id.data.toList with
  | false => rw [hb] at h; cases h
  | true =>
    obtain ⟨a, b, c, d, e, rfl⟩ := id5 hb
    rfl
theorem wd_size (m : Int) : (wd m).size ≤ 4 := by
  unfold wd
  split
  · decide
  · split <;> decide
theorem el_len {o : Ob} (h : ef o.1 o.2.1 o.2.2 = 0) : (el o).length ≤ 24 := by
  obtain ⟨h0, _, h2⟩ := ef_zero h
  have a := nf_size h0
  have b := isOf_size h2
  have c := wd_size o.2.1
  unfold el
  simp only [List.length_append, List.length_cons, Array.length_toList, List.length_nil]
  have e1 : o.1.data.size = o.1.size := rfl
  have e2 : o.2.2.data.size = o.2.2.size := rfl
  have e3 : (wd o.2.1).data.size = (wd o.2.1).size := rfl
  omega
theorem tr_len {l : List Ob} : ∀ k, k ≤ l.length → (∀ j, j < k → ef (l.getD j onil).1 (l.getD j onil).2.1 (l.getD j onil).2.2 = 0) → (trL (l.take k)).length ≤ 24 * k
  | 0, _, _ => by simp [trL]
  | k + 1, h, hf => by
    have ih := tr_len k (by omega) (fun j hj => hf j (by omega))
    rw [trL_take l k (by omega), List.length_append]
    have := el_len (hf k (by omega))
    omega
theorem trB_size {l : List Ob} (k : Nat) : (trB (l.take k)).size = (trL (l.take k)).length := by
  unfold trB
  show (trL (l.take k)).toArray.size = _
  simp
/-- The fault of the entry at a place; the first fault of a list. -/
def leT (a b : ByteArray) : Bool := Op.bytesLess a.toList b.toList || a.toList == b.toList
def teF (l : List Ob) (k : Nat) : Int :=
  if ef (l.getD k onil).1 (l.getD k onil).2.1 (l.getD k onil).2.2 = 0 then (if 0 < k ∧ leT (l.getD k onil).1 (l.getD (k - 1) onil).1 = true then 1 else 0) else ef (l.getD k onil).1 (l.getD k onil).2.1 (l.getD k onil).2.2
def trE (l : List Ob) : Int := if 100 < l.length then 2 else (((List.range l.length).map (teF l)).find? (fun x => decide (x ≠ 0))).getD 0
theorem trE_many {l : List Ob} (h : 100 < l.length) : trE l = 2 := if_pos h
theorem trE_bad {l : List Ob} {k : Nat} (h : ¬ 100 < l.length) (hk : k < l.length) (h0 : ∀ j, j < k → teF l j = 0) (hb : ¬ teF l k = 0) : trE l = teF l k := by
  unfold trE
  rw [if_neg h]
  have : ((List.range l.length).map (teF l)).find? (fun x => decide (x ≠ 0)) = some (teF l k) := by
    rw [List.find?_eq_some_iff_getElem]
    refine ⟨by simp [hb], k, by simp [hk], by simp, fun j hj => ?_⟩
    simp [h0 j hj]
  rw [this]; rfl
theorem trE_ok {l : List Ob} (h : ¬ 100 < l.length) (h0 : ∀ j, j < l.length → teF l j = 0) : trE l = 0 := by
  unfold trE
  rw [if_neg h]
  have : ((List.range l.length).map (teF l)).find? (fun x => decide (x ≠ 0)) = none := by
    rw [List.find?_eq_none]
    intro x hx
    obtain ⟨j, hj, rfl⟩ := List.mem_map.1 hx
    simp [h0 j (List.mem_range.1 hj)]
  rw [this]; rfl
theorem teF_ef {l : List Ob} {k : Nat} (h : teF l k = 0) : ef (l.getD k onil).1 (l.getD k onil).2.1 (l.getD k onil).2.2 = 0 := by
  unfold teF at h
  by_cases e : ef (l.getD k onil).1 (l.getD k onil).2.1 (l.getD k onil).2.2 = 0
  · exact e
  · rw [if_neg e] at h; exact absurd h e
/-- The words of modes, as the program keeps them. -/
def MwG (w : World) : Prop := w.cell? ⟨2, 0, none⟩ = some (.string ⟨#[102, 105, 108, 101]⟩) ∧ w.cell? ⟨2, 1, none⟩ = some (.string ⟨#[114, 117, 110]⟩) ∧ w.cell? ⟨2, 2, none⟩ = some (.string ⟨#[116, 114, 101, 101]⟩)
theorem MwG.below {B : Nat} {w w' : World} (h : MwG w) (hb : Below B w w') (hB : 2 < B) : MwG w' :=
  ⟨(hb.cell (p := ⟨2, 0, none⟩) hB).trans h.1, (hb.cell (p := ⟨2, 1, none⟩) hB).trans h.2.1, (hb.cell (p := ⟨2, 2, none⟩) hB).trans h.2.2⟩
/-- The line of an entry is the line of its words. -/
theorem wl_el (o : Ob) : wl [wd o.2.1, o.2.2, o.1] = el o := by
  unfold wl jnB el
  show (jl [wd o.2.1, o.2.2, o.1] 2) ++ [10] = _
  simp [jl]
theorem ss3 (w : World) (x y z : ByteArray) (hx : x.size ≤ 1048576) (hy : y.size ≤ 1048576) (hz : z.size ≤ 1048576) : SS (w.alloc (.cells #[.string x, .string y, .string z] 9)) (some ⟨w.heap.size, 0, none⟩) [x, y, z] := by
  refine ⟨?_, ?_⟩
  · intro k hk
    match k, hk with
    | 0, _ => show x.size ≤ _; omega
    | 1, _ => show y.size ≤ _; omega
    | 2, _ => show z.size ≤ _; omega
  · intro k hk
    refine ⟨w.heap.size, 0, rfl, by simp, ?_⟩
    match k, hk with
    | 0, _ => exact Rs.new w #[.string x, .string y, .string z] _ 0 _ rfl
    | 1, _ => exact Rs.new w #[.string x, .string y, .string z] _ 1 _ rfl
    | 2, _ => exact Rs.new w #[.string x, .string y, .string z] _ 2 _ rfl
end Go.Proofs.YtgidcncmicmggamGreatDoor.Te
/- What the laid variables give a walk (the words of modes, the variable of errors.As), and a world that meets the condition. No statement is proved here. -/
namespace Go.Proofs.YtgidcncmicmggamGreatDoor.Te
open Go.ChangeShapes Go.WideShapes Go.ChangeAt Go.RowKit

theorem gMw : Tryz.prog.globalNamed "loop.example/g00172/impl.modeWords" = some 2 := by kernel_rfl
theorem gEt : Tryz.prog.globalNamed "errors.errorType" = some 1 := by kernel_rfl
theorem tMw : (Tryz.prog.globals[2]?).map (·.type) = some 245 := by kernel_rfl
theorem rtE : (Tryz.prog.cutTypes.find? (·.1 == "internal/reflectlite.rtype")).map (·.2) = some 216 := by kernel_rfl
theorem oneE : ((List.range 338).filter fun t => Tryz.prog.rowNamed t [101, 114, 114, 111, 114]) = [58] := by kernel_rfl
theorem sizeT : Tryz.prog.types.size = 338 := by kernel_rfl
theorem errG_of {W : World} (h : handlesMet Tryz.prog [("errors.errorType", Rows.laid_errors_errorType)] W) : ErrG W := by
  obtain ⟨name, u, ty, e1, e2, e3, e4, e5⟩ := h _ (List.mem_singleton.2 rfl)
  have en : name = [101, 114, 114, 111, 114] := (Option.some.inj e1).symm
  subst en
  obtain rfl := Option.some.inj (rtE.symm.trans e2)
  have hm : ty ∈ (List.range 338).filter fun t => Tryz.prog.rowNamed t [101, 114, 114, 111, 114] := List.mem_filter.2 ⟨List.mem_range.2 (by rw [← sizeT]; exact e3), e4⟩
  rw [oneE] at hm
  obtain rfl := List.mem_singleton.1 hm
  have hh : typeHandle Tryz.prog 58 = .pointer (some ⟨11, 58, none⟩) := by kernel_rfl
  rw [hh] at e5
  simpa [ErrG] using World.var?_cell gEt e5 0
theorem str_of {P : Program} {w : World} {sp : Nat → Bool} {m : Nat} {t : TypeId} {v : Value} {l : List UInt8} {q : List MemPlace} (ht : P.underlying t = some .string) (h : DataW.trod (fun _ => ()) P w 0 sp false m t [v] = some (.lit (.string l), q)) : v = .string ⟨l.toArray⟩ := by
  obtain ⟨s, e1, e2, _⟩ := DataW.trod_string ht h
  simp only [List.cons.injEq, and_true] at e1
  simp only [Prod.mk.injEq, DataW.lit.injEq, Lit.string.injEq] at e2
  rw [e1, e2.1]
theorem arr3 {P : Program} {w : World} {sp : Nat → Bool} {fuel : Nat} {t e : TypeId} {cs : Array Value} {l0 l1 l2 : List UInt8} {q : List MemPlace} (ht : P.underlying t = some (.array 3 e)) (he : P.underlying e = some .string) (ct : P.cellsOf t = 3) (ce : P.cellsOf e = 1)
    (hd : DataW.trod (fun _ => ()) P w 0 sp false fuel t cs.toList = some (.agg [.lit (.string l0), .lit (.string l1), .lit (.string l2)], q)) : cs = #[.string ⟨l0.toArray⟩, .string ⟨l1.toArray⟩, .string ⟨l2.toArray⟩] := by
  obtain ⟨xs, m1, rfl, hx1, hlen, hn3, hel⟩ := DataW.trod_array ht hd
  rw [ct] at hlen
  have h0 := hel 0 (by decide)
  have h1 := hel 1 (by decide)
  have h2 := hel 2 (by decide)
  rw [ce] at h0 h1 h2
  simp only [Prod.mk.injEq, DataW.agg.injEq] at hx1
  obtain ⟨c1⟩ := cs
  match c1, hlen, xs, hn3, hx1 with
  | [v0, v1, v2], _, [x0, x1, x2], _, hx1 =>
    simp only [List.map_cons, List.map_nil, List.cons.injEq, and_true] at hx1
    obtain ⟨⟨y0, y1, y2⟩, _⟩ := hx1
    obtain ⟨a0, b0⟩ := x0
    obtain ⟨a1, b1⟩ := x1
    obtain ⟨a2, b2⟩ := x2
    simp only [] at y0 y1 y2
    subst y0; subst y1; subst y2
    have z0 := str_of he (show DataW.trod (fun _ => ()) P w 0 _ false m1 e [v0] = some _ from h0)
    have z1 := str_of he (show DataW.trod (fun _ => ()) P w 0 _ false m1 e [v1] = some _ from h1)
    have z2 := str_of he (show DataW.trod (fun _ => ()) P w 0 _ false m1 e [v2] = some _ from h2)
    subst z0; subst z1; subst z2
    rfl
theorem mwG_of {W : World} {cs : Array Value} {fuel : Nat} {p : List MemPlace} (hv : W.var? Tryz.prog "loop.example/g00172/impl.modeWords" = some cs) (hd : DataW.trod (fun _ => ()) Tryz.prog W 0 (fun _ => true) false fuel 245 cs.toList = some (Rows.laid_loop_example_g00172_impl_modeWords, p)) : MwG W := by
  have e := arr3 Tryz.underlying245 Tryz.underlying9 (by kernel_rfl) (by kernel_rfl) hd
  subst e
  have k0 := World.var?_cell gMw hv 0
  have k1 := World.var?_cell gMw hv 1
  have k2 := World.var?_cell gMw hv 2
  exact ⟨by simpa using k0, by simpa using k1, by simpa using k2⟩
end Go.Proofs.YtgidcncmicmggamGreatDoor.Te
