/- The contract of impl.isSumLine. No statement is proved here. -/
import Derived.Test.YtjcnnmnnbjaheaaGreatDoorRows
import Derived.Test.YtjcnnmnnbjaheaaGreatDoorLemQ
import Derived.Test.YtjcnnmnnbjaheaaGreatDoorDTabQ
import Derived.Test.YtjcnnmnnbjaheaaGreatDoorHkTQ
import Derived.Test.YtjcnnmnnbjaheaaGreatDoorLFLemQ
import Derived.Test.YtjcnnmnnbjaheaaGreatDoorIxBQ
import Derived.Test.YtjcnnmnnbjaheaaGreatDoorTrWQ
import Derived.Test.YtjcnnmnnbjaheaaGreatDoorShelfSQ
import Derived.Test.YtjcnnmnnbjaheaaGreatDoorPiMQ
import Derived.Test.YtjcnnmnnbjaheaaGreatDoorFxSQ
import Derived.Test.YtjcnnmnnbjaheaaGreatDoorPiTQ
import Derived.WalkKit
import Derived.ProofKit
import Derived.Below
import Derived.WalkSpells
import Derived.Maps.AppendAt
import Derived.Deep.RegionHeld
import Derived.Shelf.Strings.Builder1
import Derived.Shelf.Strings.Builder2
import Derived.Shelf.Strings.OnBuilder
import Derived.Shelf.Strings.Trim
import Derived.Shelf.Small.Utf8
import Derived.Shelf.Small.Strs
import Derived.Shelf.Small.Wraps
import Derived.Shelf.Strings.BuilderF
import Derived.Shelf.Strings.BuilderK
import Derived.Shelf.Strconv.Itoa0
import Derived.Shelf.Strconv.Itoa1
import Derived.Shelf.LaysM
import Derived.Shelf.Strconv.Itoa2
import Derived.Shelf.Strconv.Itoa3
import Derived.Shelf.Strconv.Itoa4
import Derived.Shelf.Strconv.Clone
import Derived.Shelf.Strings.Search1
import Derived.Shelf.Strings.Search2
import Derived.Shelf.Strings.Search3
import Derived.Shelf.Strings.Count
import Derived.Shelf.Strings.Shaped
import Derived.Shelf.Strings.Prefix
import Derived.Shelf.Strings.Split
import Derived.Shelf.Strings.Runes
import Derived.Shelf.Strings.AsciiSet
import Derived.Shelf.Unicode.DecodeSlow
import Derived.Shelf.Slices.Turned
import Derived.Test.YtjcnnmnnbjaheaaGreatDoorProg
namespace Go.Proofs.YtjcnnmnnbjaheaaGreatDoor.En
open Go.ChangeShapes Go.WideShapes Go.ChangeAt Go.RowKit

theorem hp_split {s p : List UInt8} (h : Lib.hasPrefix s p = true) : s = p ++ Lib.trimPrefix s p := by
  unfold Lib.trimPrefix
  rw [if_pos h]
  unfold Lib.hasPrefix at h
  obtain ⟨t, rfl⟩ := List.isPrefixOf_iff_prefix.1 h
  rw [List.drop_left]
theorem hs_split {s p : List UInt8} (h : Lib.hasSuffix s p = true) : s = Lib.trimSuffix s p ++ p := by
  unfold Lib.trimSuffix
  rw [if_pos h]
  unfold Lib.hasSuffix at h
  obtain ⟨t, rfl⟩ := List.isSuffixOf_iff_suffix.1 h
  rw [List.length_append, Nat.add_sub_cancel, List.take_left]
theorem hs_last {s : List UInt8} (h : s.getLast? = some 10) : Lib.hasSuffix s [10] = true := by
  unfold Lib.hasSuffix
  rw [List.isSuffixOf_iff_suffix]
  obtain ⟨t, rfl⟩ := List.getLast?_eq_some_iff.1 h
  exact ⟨t, rfl⟩
theorem sT_pre {l : List UInt8} (h : Lib.hasPrefix l [115, 117, 109, 32] = false) : sumT l = false := by
  cases c : sumT l with
  | false => rfl
  | true =>
    exfalso
    unfold sumT at c
    obtain ⟨c1, c2⟩ := Bool.and_eq_true_iff.1 c
    unfold sumS at c2
    obtain ⟨c3, _⟩ := Bool.and_eq_true_iff.1 c2
    obtain ⟨c4, _⟩ := Bool.and_eq_true_iff.1 c3
    have e := eq_of_beq c4
    have p1 : [115, 117, 109, 32] <+: l.dropLast := ⟨l.dropLast.drop 4, by rw [← e, List.take_append_drop]⟩
    have p2 := p1.trans (List.dropLast_prefix l)
    unfold Lib.hasPrefix at h
    rw [List.isPrefixOf_iff_prefix.2 p2] at h
    cases h
theorem sT_suf {l d : List UInt8} (e : l = [115, 117, 109, 32] ++ d) (h : Lib.hasSuffix d [10] = false) : sumT l = false := by
  cases c : sumT l with
  | false => rfl
  | true =>
    exfalso
    unfold sumT at c
    obtain ⟨c1, _⟩ := Bool.and_eq_true_iff.1 c
    have c2 := of_decide_eq_true c1
    subst e
    rw [List.getLast?_append] at c2
    cases q : d.getLast? with
    | none => rw [q] at c2; revert c2; decide
    | some x =>
      rw [q] at c2
      have e : x = 10 := by simpa using c2
      subst e
      rw [hs_last q] at h
      cases h
theorem sT_yes {l d : List UInt8} (e : l = [115, 117, 109, 32] ++ (d ++ [10])) : sumT l = (decide (1 ≤ d.length ∧ d.length ≤ 5) && d.all dig1) := by
  subst e
  unfold sumT
  have e1 : ([115, 117, 109, 32] ++ (d ++ [10]) : List UInt8).getLast? = some 10 := by rw [← List.append_assoc, List.getLast?_append]; rfl
  have e2 : ([115, 117, 109, 32] ++ (d ++ [10]) : List UInt8).dropLast = [115, 117, 109, 32] ++ d := by rw [← List.append_assoc, List.dropLast_concat]
  rw [e1, e2]
  unfold sumS
  have e3 : ([115, 117, 109, 32] ++ d : List UInt8).take 4 = [115, 117, 109, 32] := rfl
  have e4 : ([115, 117, 109, 32] ++ d : List UInt8).drop 4 = d := rfl
  rw [e3, e4]
  simp
set_option maxRecDepth 20000 in
theorem digs_one (c : UInt8) : ([48, 49, 50, 51, 52, 53, 54, 55, 56, 57] : List UInt8).contains c = dig1 c := by
  have key : ∀ n, n < 256 → ([48, 49, 50, 51, 52, 53, 54, 55, 56, 57] : List UInt8).contains (UInt8.ofNat n) = decide (48 ≤ n ∧ n ≤ 57) := by decide
  have h := key c.toNat c.toNat_lt
  rw [UInt8.ofNat_toNat] at h
  exact h
theorem digs_all (d : List UInt8) : (Lib.trimS d [48, 49, 50, 51, 52, 53, 54, 55, 56, 57] = []) ↔ d.all dig1 = true := by
  rw [trim_nil]
  have e : (fun c => ([48, 49, 50, 51, 52, 53, 54, 55, 56, 57] : List UInt8).contains c) = dig1 := funext digs_one
  rw [e]
set_option maxRecDepth 20000 in
set_option maxHeartbeats 4000000 in
theorem isSumLineC (s : ByteArray) (w : World) (hs : s.size ≤ 1048576) :
    Calls Tryz.prog 22 #[.string s] w fun e w' => e = .returned (.bool (sumT s.data.toList)) ∧ Below w.heap.size w w' := by
  have hP : ∀ w, Calls Tryz.prog 44 #[.string s, .string ⟨#[115, 117, 109, 32]⟩] w fun e w' => e = .returned (.tuple #[.string (mkB (Lib.trimPrefix s.data.toList [115, 117, 109, 32])), .bool (Lib.hasPrefix s.data.toList [115, 117, 109, 32])]) ∧ w' = w := fun w => Tryz.strings_CutPrefix s _ w
  have hNo := sT_pre (l := s.data.toList)
  have hSp := hp_split (s := s.data.toList) (p := [115, 117, 109, 32])
  have hD0 : (Lib.trimPrefix s.data.toList [115, 117, 109, 32]).length ≤ 1048576 := by
    rw [← size_eq] at hs
    unfold Lib.trimPrefix
    split
    · rw [List.length_drop]; omega
    · exact hs
  obtain ⟨P, hPe⟩ : ∃ x, Lib.hasPrefix s.data.toList [115, 117, 109, 32] = x := ⟨_, rfl⟩
  obtain ⟨D0, hDe⟩ : ∃ x, Lib.trimPrefix s.data.toList [115, 117, 109, 32] = x := ⟨_, rfl⟩
  simp only [hPe, hDe] at hP hNo hSp hD0
  clear hPe hDe
  have hQ : ∀ w, Calls Tryz.prog 45 #[.string (mkB D0), .string ⟨#[10]⟩] w fun e w' => e = .returned (.tuple #[.string (mkB (Lib.trimSuffix D0 [10])), .bool (Lib.hasSuffix D0 [10])]) ∧ w' = w := fun w => Tryz.strings_CutSuffix (mkB D0) _ w (by rw [size_mk]; omega)
  have hNo2 : ∀ e : s.data.toList = [115, 117, 109, 32] ++ D0, Lib.hasSuffix D0 [10] = false → sumT s.data.toList = false := fun e => sT_suf e
  have hSp2 := hs_split (s := D0) (p := [10])
  have hD1 : (Lib.trimSuffix D0 [10]).length ≤ 1048576 := by
    unfold Lib.trimSuffix
    split
    · rw [List.length_take]; omega
    · exact hD0
  obtain ⟨S, hSe⟩ : ∃ x, Lib.hasSuffix D0 [10] = x := ⟨_, rfl⟩
  obtain ⟨D, hDe⟩ : ∃ x, Lib.trimSuffix D0 [10] = x := ⟨_, rfl⟩
  simp only [hSe, hDe] at hQ hNo2 hSp2 hD1
  clear hSe hDe hD0
  have hYes : P = true → S = true → Hid (sumT s.data.toList = (decide (1 ≤ D.length ∧ D.length ≤ 5) && D.all dig1)) := fun p q => sT_yes ((hSp p).trans (by rw [← hSp2 q]))
  have hN1 : P = false → Hid (sumT s.data.toList = false) := hNo
  have hN2 : P = true → S = false → Hid (sumT s.data.toList = false) := fun p q => hNo2 (hSp p) q
  have hT := fun w => trimDigits (mkB D) w (by rw [size_mk]; omega)
  have hTn := digs_all D
  have hsz : (mkB D).size = D.length := size_mk D
  rw [mkB_data] at hT
  clear hNo hNo2 hSp hSp2 hs
  obtain ⟨R, hR⟩ : ∃ x, sumT s.data.toList = x := ⟨_, rfl⟩
  rw [hR] at hYes hN1 hN2 ⊢
  clear hR
  obtain ⟨X, hX⟩ : ∃ x, (⟨(Lib.trimS D [48, 49, 50, 51, 52, 53, 54, 55, 56, 57]).toArray⟩ : ByteArray) = x := ⟨_, rfl⟩
  have hXn : X.data.toList = [] ↔ D.all dig1 = true := by rw [← hX]; exact hTn
  simp only [hX] at hT
  clear hX hTn
  obtain ⟨B, hB⟩ : ∃ x, mkB D = x := ⟨_, rfl⟩
  obtain ⟨B0, hB0⟩ : ∃ x, mkB D0 = x := ⟨_, rfl⟩
  simp only [hB, hB0] at hT hQ hP hsz
  clear hB hB0
  go_enter Tryz.func22, Tryz.ntmps22
  go_wp2_with fail
  refine (hP _).mono ?_
  rintro e w1 ⟨rfl, rfl⟩
  go_wp2_with fail
  refine (hQ _).mono ?_
  rintro e w2 ⟨rfl, rfl⟩
  clear hP hQ
  cases P
  · have H := hN1 rfl
    go_wp2
    go_ret
    exact ⟨bool_ret H.out.symm, Below.refl _ _⟩
  cases S
  · have H := hN2 rfl rfl
    go_wp2
    go_ret
    exact ⟨bool_ret H.out.symm, Below.refl _ _⟩
  have H := hYes rfl rfl
  clear hYes hN1 hN2
  by_cases q1 : D.length < 1
  · have k1 : (B.size : Int) < 1 := by omega
    have HR : Hid (R = false) := by show _ = _; rw [H.out, decide_eq_false (fun q => by omega)]; rfl
    go_wp2
    go_ret
    exact ⟨bool_ret HR.out.symm, Below.refl _ _⟩
  have k1 : ¬ (B.size : Int) < 1 := by omega
  by_cases q2 : 5 < D.length
  · have k2 : (5 : Int) < (B.size : Int) := by omega
    have HR : Hid (R = false) := by show _ = _; rw [H.out, decide_eq_false (fun q => by omega)]; rfl
    go_wp2
    go_ret
    exact ⟨bool_ret HR.out.symm, Below.refl _ _⟩
  have k2 : ¬ (5 : Int) < (B.size : Int) := by omega
  have HR : Hid (R = D.all dig1) := by show _ = _; rw [H.out, decide_eq_true ⟨by omega, by omega⟩]; rfl
  go_wp2_with fail
  refine (hT _).mono ?_
  rintro e w3 ⟨rfl, b3⟩
  clear hT H
  by_cases q3 : X.data.toList = []
  · have k3 := (emp_yes q3).1
    have k4 := (emp_yes q3).2
    have HE : Hid (R = true) := HR.out.trans (hXn.1 q3)
    go_wp2
    go_ret
    exact ⟨bool_ret HE.out.symm, b3⟩
  · have k3 := (emp_no q3).1
    have k4 := (emp_no q3).2
    have HE : Hid (R = false) := by
      show _ = _
      rw [HR.out]
      cases c : D.all dig1 with
      | false => rfl
      | true => exact absurd (hXn.2 c) q3
    go_wp2
    go_ret
    exact ⟨bool_ret HE.out.symm, b3⟩
end Go.Proofs.YtjcnnmnnbjaheaaGreatDoor.En
/- Contracts of the library that are laid at this program: Tryz.slices_Contains_string, Tryz.slices_Contains_string_empty. No statement is proved here. -/
namespace Go.Proofs
open Go.Shelf
def Tryz.lays110_ren : Go.Shelf.Ren := ⟨fun | 110 => 70 | 109 => 93 | n => n, fun | 31 => 46 | 9 => 9 | 4 => 4 | 3 => 3 | 0 => 0 | n => n, fun | n => n⟩
theorem Tryz.lays110 : Go.Proofs.Lays.n110 Tryz.prog Tryz.lays110_ren := {
  mixed := by kernel_rfl
  f109 := Tryz.func93.trans (congrArg some (by kernel_rfl))
  f110 := Tryz.func70.trans (congrArg some (by kernel_rfl))
  t0 := Tryz.underlying0
  a0 := Tryz.isAgg0
  z0 := Tryz.sizeOf0
  v0 := Tryz.zeroValue0
  t3 := Tryz.underlying3
  a3 := Tryz.isAgg3
  z3 := Tryz.sizeOf3
  v3 := Tryz.zeroValue3
  t4 := Tryz.underlying4
  a4 := Tryz.isAgg4
  z4 := Tryz.sizeOf4
  v4 := Tryz.zeroValue4
  t9 := Tryz.underlying9
  a9 := Tryz.isAgg9
  z9 := Tryz.sizeOf9
  v9 := Tryz.zeroValue9
  t31 := Tryz.underlying46
  a31 := Tryz.isAgg46
  z31 := Tryz.sizeOf46
  v31 := Tryz.zeroValue46 }
open Go.Lib in
theorem Tryz.slices_Contains_string (b off n c : Nat) (zs : List ByteArray) (x : ByteArray) (w : World) (hz : n ≤ zs.length) (hbig : n ≤ 9223372036854775807) (hc : ∀ j, j < zs.length → w.cell? ⟨b, off + j, none⟩ = some (.string (zs.getD j ByteArray.empty))) :
    Calls Tryz.prog 70 #[.slice (some ⟨b, off, none⟩) n c, .string x] w fun e w' => e = .returned (.bool (Lib.containsS (zs.take n) x)) ∧ w' = w := Any.slices_Contains_string Tryz.lays110 b off n c zs x w hz hbig hc
open Go.Lib in
theorem Tryz.slices_Contains_string_empty (a : Option Addr) (c : Nat) (x : ByteArray) (w : World) :
    Calls Tryz.prog 70 #[.slice a 0 c, .string x] w fun e w' => e = .returned (.bool false) ∧ w' = w := Any.slices_Contains_string_empty Tryz.lays110 a c x w
end Go.Proofs
