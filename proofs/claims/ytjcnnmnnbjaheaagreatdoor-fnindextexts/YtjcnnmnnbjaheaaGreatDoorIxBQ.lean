/- The contract of strings.Index at a blank. No statement is proved here. -/
import Derived.Test.YtjcnnmnnbjaheaaGreatDoorRows
import Derived.Test.YtjcnnmnnbjaheaaGreatDoorLemQ
import Derived.Test.YtjcnnmnnbjaheaaGreatDoorLFLemQ
import Derived.WalkKit
import Derived.ProofKit
import Derived.Test.YtjcnnmnnbjaheaaGreatDoorCutLQ
import Derived.Test.YtjcnnmnnbjaheaaGreatDoorXtFQ
import Derived.OwnWalk
import Derived.Below
import Derived.Deep.QuietTactic
import Derived.BigQuiet
import Derived.WalkSpells
import Derived.Maps.AppendAt
namespace Go.Proofs.YtjcnnmnnbjaheaaGreatDoor
open Go.ChangeShapes Go.WideShapes Go.ChangeAt Go.RowKit

theorem sliteIdxB (s : ByteArray) (c : Int) (w : World) :
    Calls Tryz.prog 112 #[.string s, .int .u8 c] w fun e w' => e = .returned (.int .i64 (Lib.indexByte s.data.toList c.toNat.toUInt8)) ∧ w' = w := by
  have h := idxEntry s c
  go_enter Tryz.func112, Tryz.ntmps112
  go_wp2
  go_ret
  exact ⟨rfl, rfl⟩
set_option maxRecDepth 20000 in
set_option maxHeartbeats 1000000 in
theorem sliteIndex32 (s : ByteArray) (w : World) :
    Calls Tryz.prog 133 #[.string s, .string ⟨#[32]⟩] w fun e w' => e = .returned (.int .i64 (Lib.indexByte s.data.toList 32)) ∧ w' = w := by
  have h := fun w => sliteIdxB s  32 w
  have e32 : (32 : Int).toNat.toUInt8 =  32 := rfl
  rw [e32] at h
  by_cases hq : (⟨#[32]⟩ : ByteArray) = s
  · subst hq
    have hR : Hid (Lib.indexByte (⟨#[32]⟩ : ByteArray).data.toList  32 = 0) := by show _ = _; rfl
    have hb : (([32] : List UInt8) == [32]) = true := rfl
    go_enter Tryz.func133, Tryz.ntmps133
    go_wp2
    go_ret
    exact ⟨ret_int hR.out.symm, rfl⟩
  · have hb : (([32] : List UInt8) == s.toList) = false := by
      have := beq_bytes_false hq
      rwa [ByteArray.toList_eq] at this
    obtain ⟨i, hi⟩ : ∃ i, Lib.indexByte s.data.toList  32 = i := ⟨_, rfl⟩
    rw [hi] at h ⊢
    clear hi
    go_enter Tryz.func133, Tryz.ntmps133
    go_wp2_with (go_at_call 112; refine (h _).mono ?_; rintro e w' ⟨rfl, rfl⟩)
    go_ret
    exact ⟨rfl, rfl⟩
theorem index32 (s : ByteArray) (w : World) :
    Calls Tryz.prog 115 #[.string s, .string ⟨#[32]⟩] w fun e w' => e = .returned (.int .i64 (Lib.indexByte s.data.toList 32)) ∧ w' = w := by
  have h := fun w => sliteIndex32 s w
  obtain ⟨i, hi⟩ : ∃ i, Lib.indexByte s.data.toList  32 = i := ⟨_, rfl⟩
  rw [hi] at h ⊢
  clear hi
  go_enter Tryz.func115, Tryz.ntmps115
  go_wp2_with (go_at_call 133; refine (h _).mono ?_; rintro e w' ⟨rfl, rfl⟩)
  go_ret
  exact ⟨rfl, rfl⟩
end Go.Proofs.YtjcnnmnnbjaheaaGreatDoor
/- The contracts of strings.Cut at a blank, of strings.TrimSuffix at a line feed, and of the program's fieldOf. No statement is proved here. -/
namespace Go.Proofs.YtjcnnmnnbjaheaaGreatDoor.Te
open Go.ChangeShapes Go.WideShapes Go.ChangeAt Go.RowKit

theorem bef_at {s : ByteArray} {m : Nat} (h : Lib.indexByte s.data.toList 32 = (m : Int)) : mkB (bef s.data.toList) = s.extract 0 m ∧ mkB (aft s.data.toList) = s.extract (m + 1) s.size ∧ m < s.size := by
  obtain ⟨y1, y2, y3⟩ := indexByte_split s.data.toList 32 (by rw [h]; omega)
  rw [h] at y1 y2 y3
  simp only [Int.toNat_natCast] at y1 y2 y3
  rw [size_eq] at y3
  have f := bef_app (s.data.toList.drop (m + 1)) y1
  rw [← y2] at f
  refine ⟨?_, ?_, y3⟩
  · apply bytes_inj2
    rw [ByteArray.toList_eq, ByteArray.toList_eq, mkB_data, extract_data, f.1, List.drop_zero, Nat.sub_zero]
  · apply bytes_inj2
    rw [ByteArray.toList_eq, ByteArray.toList_eq, mkB_data, extract_data, f.2, List.take_of_length_le]
    rw [List.length_drop, size_eq]; omega
theorem bef_none {s : ByteArray} (h : Lib.indexByte s.data.toList 32 < 0) : mkB (bef s.data.toList) = s ∧ mkB (aft s.data.toList) = ⟨#[]⟩ := by
  have n : ¬ (32 : UInt8) ∈ s.data.toList := fun q => by have := (indexByte_mem _ _).2 q; omega
  have f := bef_no n
  rw [f.1, f.2, mkB_eq]
  exact ⟨rfl, rfl⟩
/-- What Cut answers. -/
def CutR (s : ByteArray) (e : Ending) : Prop := ∃ b : Bool, e = .returned (.tuple #[.string (mkB (bef s.data.toList)), .string (mkB (aft s.data.toList)), .bool b])
/-- Does a text end with a line feed? -/
def endB (s : ByteArray) : Bool := decide (s.data.toList.getLast? = some 10)
theorem end_ext {s : ByteArray} (h : 1 ≤ s.size) : ((s.extract (s.size - 1) s.size).toList == ([10] : List UInt8)) = endB s := by
  have hne : s.data.toList ≠ [] := by intro e; rw [← size_eq, e] at h; simp at h
  have e : (s.extract (s.size - 1) s.size).toList = s.data.toList.drop (s.data.toList.length - 1) := by
    rw [ByteArray.toList_eq, extract_data, size_eq, List.take_of_length_le]
    rw [List.length_drop, size_eq]; omega
  have e2 : s.data.toList.drop (s.data.toList.length - 1) = [s.data.toList.getLast hne] := by
    have hl : s.data.toList.length - 1 < s.data.toList.length := by rw [size_eq]; omega
    rw [List.drop_eq_getElem_cons hl, List.getLast_eq_getElem, show s.data.toList.length - 1 + 1 = s.data.toList.length by rw [size_eq]; omega, List.drop_length]
  rw [e, e2]
  unfold endB
  rw [List.getLast?_eq_some_getLast hne]
  generalize s.data.toList.getLast hne = x
  by_cases q : x = 10
  · subst q; rfl
  · rw [decide_eq_false (fun k => q (Option.some.inj k))]
    have : ([x] == ([10] : List UInt8)) = (x == 10 && true) := rfl
    rw [this]
    simp [q]
theorem end_none {s : ByteArray} (h : ¬ 1 ≤ s.size) : endB s = false := by
  have : s.data.toList = [] := List.length_eq_zero_iff.1 (by rw [size_eq]; omega)
  unfold endB
  rw [this]; rfl
theorem trim_yes {s : ByteArray} (h : endB s = true) : mkB (trimL s.data.toList) = s.extract 0 (s.size - 1) ∧ 1 ≤ s.size := by
  have h1 : 1 ≤ s.size := by
    by_cases q : 1 ≤ s.size
    · exact q
    · rw [end_none q] at h; cases h
  refine ⟨?_, h1⟩
  unfold trimL
  rw [if_pos (of_decide_eq_true h)]
  apply bytes_inj2
  rw [ByteArray.toList_eq, ByteArray.toList_eq, mkB_data, extract_data, List.drop_zero, Nat.sub_zero, List.dropLast_eq_take, size_eq]
theorem trim_no {s : ByteArray} (h : endB s = false) : mkB (trimL s.data.toList) = s := by
  unfold trimL
  rw [if_neg (of_decide_eq_false h), mkB_eq]
set_option maxHeartbeats 1000000 in
theorem sliteHasSuffix (s : ByteArray) (w : World) (hs : s.size ≤ 1048576) :
    Calls Tryz.prog 96 #[.string s, .string ⟨#[10]⟩] w fun e w' => e = .returned (.bool (endB s)) ∧ w' = w := by
  by_cases h : 1 ≤ s.size
  · have HR : Hid (((s.extract (s.size - 1) s.size).toList == ([10] : List UInt8)) = endB s) := end_ext h
    have q : (1 : Int) ≤ (s.size : Int) := by omega
    have hw : IntKind.i64.wrap ((s.size : Int) - 1) = ((s.size - 1 : Nat) : Int) := by rw [IntKind.wrap_i64]; omega
    obtain ⟨n, hn⟩ : ∃ n, s.size - 1 = n := ⟨_, rfl⟩
    rw [hn] at HR hw
    have hn2 : n ≤ s.size := by omega
    have hn3 : (n : Int) ≤ (s.size : Int) := by omega
    clear hn
    go_enter Tryz.func96, Tryz.ntmps96
    go_wp2
    go_ret
    exact ⟨ret_bool HR.out, rfl⟩
  · have HR : Hid (endB s = false) := end_none h
    have q : ¬ (1 : Int) ≤ (s.size : Int) := by omega
    go_enter Tryz.func96, Tryz.ntmps96
    go_wp2
    go_ret
    exact ⟨ret_bool HR.out.symm, rfl⟩
theorem trim_size (s : ByteArray) : (mkB (trimL s.data.toList)).size ≤ s.size := by
  cases h : endB s with
  | true => rw [(trim_yes h).1]; exact extract_size_le _ _ _
  | false => rw [trim_no h]; exact Nat.le_refl _
end Go.Proofs.YtjcnnmnnbjaheaaGreatDoor.Te
/- The contracts of spec.l6Unline and spec.l6Split. No statement is proved here. -/
namespace Go.Proofs.YtjcnnmnnbjaheaaGreatDoor.Te
open Go.ChangeShapes Go.WideShapes Go.ChangeAt Go.RowKit

theorem byte_cB {c d : UInt8} (h : ((c.toNat : Int) == (d.toNat : Int)) = true) : c = d := by
  apply UInt8.toNat_inj.1
  have := of_decide_eq_true h
  omega
theorem byte_not_cB {c d : UInt8} (h : ((c.toNat : Int) == (d.toNat : Int)) = false) : ¬ c = d := by
  intro e
  rw [e] at h
  simp at h
set_option maxHeartbeats 2000000 in
theorem l6SplitC (s : ByteArray) (w : World) (hs : s.size ≤ 1048576) :
    Calls Tryz.prog 56 #[.string s] w fun e w' => ∃ v, e = .returned v ∧ w'.ownsRow w.heap.size 9 1 v (cutOf 32 s).length ((cutOf 32 s).map Value.string) ∧ Below w.heap.size w w' := by
  obtain ⟨i0, hi, hz0, hz1, hz2⟩ := info_parts infoString
  go_enter Tryz.func56, Tryz.ntmps56
  go_wp2
  go_loopw [3, 4, 5] (fun v f i wr => ∃ (k fr : Nat) (pre : List ByteArray), i = .int .i64 k ∧ f = .int .i64 fr ∧ pre.length ≤ fr ∧ fr ≤ k ∧ ((k ≤ s.size ∧ Hid (cutOf 32 s = pre ++ cutFrom 32 s fr) ∧ Hid (¬ (32 : UInt8) ∈ sg s fr k)) ∨ (k = s.size + 1 ∧ Hid (cutOf 32 s = pre))) ∧
      wr.ownsRow w.heap.size 9 1 v pre.length (pre.map Value.string) ∧ Below w.heap.size w wr ∧ w.heap.size + 1 ≤ wr.heap.size) (fun _ _ i _ => s.size + 1 - (intOf i).toNat)
  case atStart =>
    refine ⟨0, 0, [], rfl, rfl, Nat.le_refl _, Nat.le_refl _, .inl ⟨Nat.zero_le _, rfl, ?_⟩, ?_, (Below.refl _ _).alloc (Nat.le_refl _) _, by simp⟩
    · show ¬ _; simp [sg]
    · exact World.ownsRow_lit w #[] 0 (Nat.le_refl _) (Nat.zero_le _) rfl
  case round =>
    obtain ⟨k, fr, pre, rfl, rfl, hpl, hfk, hcase, hown, hbel, hsz⟩ := hrel
    rcases hcase with ⟨hk, hL, hN⟩ | ⟨ek, hL⟩
    · have q : (k : Int) ≤ (s.size : Int) := by omega
      by_cases hlt : k < s.size
      · have q2 : ((k : Int) == (s.size : Int)) = false := by simp; omega
        by_cases hz : ((s[k].toNat : Int) == 32) = true
        · have hE := cutFrom_at 32 s fr k hfk hlt hN.out (byte_cB hz)
          have hL' : Hid (cutOf 32 s = (pre ++ [s.extract fr k]) ++ cutFrom 32 s (k + 1)) := by
            show _ = _
            rw [hL.out, hE]; simp
          clear hE hL hN
          go_wp2_with (at_builtin; refine wpList_append_own _ rfl (.tmp 23) (.tmp 28) 46 rfl w.heap.size 9 i0 (.string ByteArray.empty) 1 16 Tryz.underlying46 hi hz0 hz1 hz2 rfl (by decide) u3 _ _ rfl (hown.alloc _) ⟨wr.heap.size, 0, none⟩ 1 1 [.string (s.extract fr k)] rfl rfl (cell_one_new _ _ _) (by simp [Value.oneCell']) (by unfold maxLen; omega) (by omega) (by simp; omega) ?_; intro v' w1 hown' hgrow _)
          have hb1 : Below w.heap.size w w1 := (hbel.alloc (by omega) _).grown hgrow (by simp; omega) (fun j hj => (hown.lt j hj).1)
          have hs1 : w.heap.size + 1 ≤ w1.heap.size := by have := hgrow.size; simp at this; omega
          go_roundw
          case rel =>
            refine ⟨k + 1, k + 1, pre ++ [s.extract fr k], by go_num, by go_num, by simp; omega, Nat.le_refl _, .inl ⟨by omega, hL', ?_⟩, ?_, hb1, hs1⟩
            · show ¬ _; simp [sg]
            · simpa using hown'
          case measure => simp [intOf]; omega
        · have hz' : ((s[k].toNat : Int) == 32) = false := by simpa using hz
          have hN' : Hid (¬ (32 : UInt8) ∈ sg s fr (k + 1)) := by
            show ¬ _
            rw [sg_snoc s fr k hfk hlt]
            have := byte_not_cB (d := 32) hz'
            simp only [List.mem_append, List.mem_singleton, not_or]
            exact ⟨hN.out, fun e => this e.symm⟩
          clear hz hN
          go_wp2
          go_roundw
          case rel => exact ⟨k + 1, fr, pre, by go_num, rfl, hpl, by omega, .inl ⟨by omega, hL, hN'⟩, hown, hbel, hsz⟩
          case measure => simp [intOf]; omega
      · have ek : k = s.size := by omega
        subst ek
        have hE := cutFrom_last 32 s fr hN.out
        have hL' : Hid (cutOf 32 s = pre ++ [s.extract fr s.size]) := by
          show _ = _
          rw [hL.out, hE]
        clear hE hL hN q
        go_wp2_with (at_builtin; refine wpList_append_own _ rfl (.tmp 23) (.tmp 28) 46 rfl w.heap.size 9 i0 (.string ByteArray.empty) 1 16 Tryz.underlying46 hi hz0 hz1 hz2 rfl (by decide) u3 _ _ rfl (hown.alloc _) ⟨wr.heap.size, 0, none⟩ 1 1 [.string (s.extract fr s.size)] rfl rfl (cell_one_new _ _ _) (by simp [Value.oneCell']) (by unfold maxLen; omega) (by omega) (by simp; omega) ?_; intro v' w1 hown' hgrow _)
        have hb1 : Below w.heap.size w w1 := (hbel.alloc (by omega) _).grown hgrow (by simp; omega) (fun j hj => (hown.lt j hj).1)
        have hs1 : w.heap.size + 1 ≤ w1.heap.size := by have := hgrow.size; simp at this; omega
        go_roundw
        case rel =>
          refine ⟨s.size + 1, s.size + 1, pre ++ [s.extract fr s.size], by go_num, by go_num, by simp; omega, Nat.le_refl _, .inr ⟨rfl, hL'⟩, ?_, hb1, hs1⟩
          simpa using hown'
        case measure => simp [intOf]
    · have q : ¬ (k : Int) ≤ (s.size : Int) := by omega
      clear ek
      go_wp2
      go_ret
      refine ⟨_, rfl, ?_, hbel⟩
      rw [hL.out]
      exact hown

theorem cut_smallB (c : UInt8) (s : ByteArray) (hs : s.size ≤ 1048576) : ∀ k, k < (cutOf c s).length → ((cutOf c s).getD k ByteArray.empty).size ≤ 9223372036854775807 := by
  intro k hk
  have e : (cutOf c s).getD k ByteArray.empty = (cutOf c s)[k] := by simp [List.getD, hk]
  rw [e]
  have := cutFrom_size c s 0 _ (List.getElem_mem (h := hk))
  omega

theorem last_byte {s : ByteArray} (h : 1 ≤ s.size) : endB s = (((s[s.size - 1]'(by omega)).toNat : Int) == 10) := by
  have hne : s.data.toList ≠ [] := by intro e; rw [← size_eq, e] at h; simp at h
  have e : s.data.toList.getLast hne = s[s.size - 1]'(by omega) := by
    rw [List.getLast_eq_getElem, ← sg_byte s (s.size - 1) (by omega)]
    congr 1
  unfold endB
  rw [List.getLast?_eq_some_getLast hne, e]
  generalize s[s.size - 1]'(by omega) = x
  by_cases q : x = 10
  · subst q; rfl
  · rw [decide_eq_false (fun k => q (Option.some.inj k))]
    symm
    rw [beq_eq_false_iff_ne]
    intro k
    apply q
    apply UInt8.toNat_inj.1
    have : (10 : UInt8).toNat = 10 := rfl
    omega
theorem un_ret {x y : ByteArray} {b c : Bool} (h : x = y) (k : b = c) : Ending.returned (.tuple #[.string x, .bool b]) = .returned (.tuple #[.string y, .bool c]) := by rw [h, k]
/-- What l6Unline answers. -/
def unT (s : ByteArray) : ByteArray := if endB s = true then mkB (trimL s.data.toList) else ⟨#[]⟩
set_option maxHeartbeats 1000000 in
theorem l6UnlineC (s : ByteArray) (w : World) (hs : s.size ≤ 1048576) :
    Calls Tryz.prog 26 #[.string s] w fun e w' => e = .returned (.tuple #[.string (unT s), .bool (endB s)]) ∧ w' = w := by
  by_cases h1 : 1 ≤ s.size
  · have hl := last_byte h1
    have hw : IntKind.i64.wrap ((s.size : Int) - 1) = ((s.size - 1 : Nat) : Int) := by rw [IntKind.wrap_i64]; omega
    have q0 : ((s.size : Int) == 0) = false := beq_eq_false_iff_ne.2 (by omega)
    cases hb : endB s with
    | true =>
      have hT := (trim_yes hb).1
      rw [hb] at hl
      have HU : Hid (unT s = s.extract 0 (s.size - 1)) := by show _ = _; unfold unT; rw [if_pos hb, hT]
      obtain ⟨n, hn⟩ : ∃ n, s.size - 1 = n := ⟨_, rfl⟩
      have hn1 : n < s.size := by omega
      have hl' : ((s[n].toNat : Int) == 10) = true := by
        have := hl.symm
        simp only [hn] at this
        exact this
      rw [hn] at hw HU
      have hn2 : n ≤ s.size := by omega
      have hn3 : (n : Int) < (s.size : Int) := by omega
      have hl2 : ((s[n].toNat : Int) != 10) = false := by rw [bne, hl']; rfl
      clear hT hb hl hn
      go_enter Tryz.func26, Tryz.ntmps26
      go_wp2
      go_ret2
      exact ⟨un_ret HU.out.symm rfl, rfl⟩
    | false =>
      rw [hb] at hl
      have HU : Hid (unT s = ⟨#[]⟩) := by show _ = _; unfold unT; rw [if_neg (by rw [hb]; decide)]
      obtain ⟨n, hn⟩ : ∃ n, s.size - 1 = n := ⟨_, rfl⟩
      have hn1 : n < s.size := by omega
      have hl' : ((s[n].toNat : Int) == 10) = false := by
        have := hl.symm
        simp only [hn] at this
        exact this
      rw [hn] at hw
      have hn3 : (n : Int) < (s.size : Int) := by omega
      have hl2 : ((s[n].toNat : Int) != 10) = true := by rw [bne, hl']; rfl
      clear hb hl hn
      go_enter Tryz.func26, Tryz.ntmps26
      go_wp2
      go_ret2
      exact ⟨un_ret HU.out.symm rfl, rfl⟩
  · have hb := end_none h1
    have HU : Hid (unT s = ⟨#[]⟩) := by show _ = _; unfold unT; rw [if_neg (by rw [hb]; decide)]
    have HB : Hid (endB s = false) := hb
    have q0 : ((s.size : Int) == 0) = true := beq_iff_eq.2 (by omega)
    clear hb
    go_enter Tryz.func26, Tryz.ntmps26
    go_wp2
    go_ret2
    exact ⟨un_ret HU.out.symm HB.out.symm, rfl⟩
end Go.Proofs.YtjcnnmnnbjaheaaGreatDoor.Te
