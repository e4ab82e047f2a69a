/- The contracts of spec.l6Unline and spec.l6Split. No statement is proved here. -/
import Derived.Test.YtgidcncmicmggamGreatDoorRows
import Derived.Test.YtgidcncmicmggamGreatDoorLem
import Derived.Test.YtgidcncmicmggamGreatDoorStrs
import Derived.Test.YtgidcncmicmggamGreatDoorLFLem
import Derived.Test.YtgidcncmicmggamGreatDoorSplLem
import Derived.Test.YtgidcncmicmggamGreatDoorCutL
import Derived.Test.YtgidcncmicmggamGreatDoorFdL
import Derived.Test.YtgidcncmicmggamGreatDoorCutC
import Derived.WalkKit
import Derived.ProofKit
import Derived.Below
import Derived.WalkSpells
import Derived.Maps.AppendAt
namespace Go.Proofs.YtgidcncmicmggamGreatDoor.Te
open Go.ChangeShapes Go.WideShapes Go.ChangeAt Go.RowKit

theorem byte_cB {c d : UInt8} (h : ((c.toNat : Int) == (d.toNat : Int)) = true) : c = d := by
  apply UInt8.toNat_inj.1
  have := of_decide_eq_true h
  omega
theorem byte_not_cB {c d : UInt8} (h : ((c.toNat : Int) == (d.toNat : Int)) = false) : ¬ c = d := by
  intro e
  rw [e] at h
  simp at h
set_option maxHeartbeats 2000000 in
theorem l6SplitC (s : ByteArray) (w : World) (hs : s.size ≤ 1048576) :
    Calls Tryz.prog 172 #[.string s] w fun e w' => ∃ v, e = .returned v ∧ w'.ownsRow w.heap.size 9 1 v (cutOf 32 s).length ((cutOf 32 s).map Value.string) ∧ Below w.heap.size w w' := by
  obtain ⟨i0, hi, hz0, hz1, hz2⟩ := info_parts infoString
  go_enter Tryz.func172, Tryz.ntmps172
  go_wp2
  go_loopw [3, 4, 5] (fun v f i wr => ∃ (k fr : Nat) (pre : List ByteArray), i = .int .i64 k ∧ f = .int .i64 fr ∧ pre.length ≤ fr ∧ fr ≤ k ∧ ((k ≤ s.size ∧ Hid (cutOf 32 s = pre ++ cutFrom 32 s fr) ∧ Hid (¬ (32 : UInt8) ∈ sg s fr k)) ∨ (k = s.size + 1 ∧ Hid (cutOf 32 s = pre))) ∧
      wr.ownsRow w.heap.size 9 1 v pre.length (pre.map Value.string) ∧ Below w.heap.size w wr ∧ w.heap.size + 1 ≤ wr.heap.size) (fun _ _ i _ => s.size + 1 - (intOf i).toNat)
  case atStart =>
    refine ⟨0, 0, [], rfl, rfl, Nat.le_refl _, Nat.le_refl _, .inl ⟨Nat.zero_le _, rfl, ?_⟩, ?_, (Below.refl _ _).alloc (Nat.le_refl _) _, by simp⟩
    · show ¬ _; simp [sg]
    · exact World.ownsRow_lit w #[] 0 (Nat.le_refl _) (Nat.zero_le _) rfl
  case round =>
    obtain ⟨k, fr, pre, rfl, rfl, hpl, hfk, hcase, hown, hbel, hsz⟩ := hrel
    rcases hcase with ⟨hk, hL, hN⟩ | ⟨ek, hL⟩
    · have q : (k : Int) ≤ (s.size : Int) := by omega
      by_cases hlt : k < s.size
      · have q2 : ((k : Int) == (s.size : Int)) = false := by simp; omega
        by_cases hz : ((s[k].toNat : Int) == 32) = true
        · have hE := cutFrom_at 32 s fr k hfk hlt hN.out (byte_cB hz)
          have hL' : Hid (cutOf 32 s = (pre ++ [s.extract fr k]) ++ cutFrom 32 s (k + 1)) := by
            show _ = _
            rw [hL.out, hE]; simp
          clear hE hL hN
          go_wp2_with (at_builtin; refine wpList_append_own _ rfl (.tmp 23) (.tmp 28) 22 rfl w.heap.size 9 i0 (.string ByteArray.empty) 1 16 Tryz.underlying22 hi hz0 hz1 hz2 rfl (by decide) u3 _ _ rfl (hown.alloc _) ⟨wr.heap.size, 0, none⟩ 1 1 [.string (s.extract fr k)] rfl rfl (cell_one_new _ _ _) (by simp [Value.oneCell']) (by unfold maxLen; omega) (by omega) (by simp; omega) ?_; intro v' w1 hown' hgrow _)
          have hb1 : Below w.heap.size w w1 := (hbel.alloc (by omega) _).grown hgrow (by simp; omega) (fun j hj => (hown.lt j hj).1)
          have hs1 : w.heap.size + 1 ≤ w1.heap.size := by have := hgrow.size; simp at this; omega
          go_roundw
          case rel =>
            refine ⟨k + 1, k + 1, pre ++ [s.extract fr k], by go_num, by go_num, by simp; omega, Nat.le_refl _, .inl ⟨by omega, hL', ?_⟩, ?_, hb1, hs1⟩
            · show ¬ _; simp [sg]
            · simpa using hown'
          case measure => simp [intOf]; omega
        · have hz' : ((s[k].toNat : Int) == 32) = false := by simpa using hz
          have hN' : Hid (¬ (32 : UInt8) ∈ sg s fr (k + 1)) := by
            show ¬ _
            rw [sg_snoc s fr k hfk hlt]
            have := byte_not_cB (d := 32) hz'
            simp only [List.mem_append, List.mem_singleton, not_or]
            exact ⟨hN.out, fun e => this e.symm⟩
          clear hz hN
          go_wp2
          go_roundw
          case rel => exact ⟨k + 1, fr, pre, by go_num, rfl, hpl, by omega, .inl ⟨by omega, hL, hN'⟩, hown, hbel, hsz⟩
          case measure => simp [intOf]; omega
      · have ek : k = s.size := by omega
        subst ek
        have hE := cutFrom_last 32 s fr hN.out
        have hL' : Hid (cutOf 32 s = pre ++ [s.extract fr s.size]) := by
          show _ = _
          rw [hL.out, hE]
        clear hE hL hN q
        go_wp2_with (at_builtin; refine wpList_append_own _ rfl (.tmp 23) (.tmp 28) 22 rfl w.heap.size 9 i0 (.string ByteArray.empty) 1 16 Tryz.underlying22 hi hz0 hz1 hz2 rfl (by decide) u3 _ _ rfl (hown.alloc _) ⟨wr.heap.size, 0, none⟩ 1 1 [.string (s.extract fr s.size)] rfl rfl (cell_one_new _ _ _) (by simp [Value.oneCell']) (by unfold maxLen; omega) (by omega) (by simp; omega) ?_; intro v' w1 hown' hgrow _)
        have hb1 : Below w.heap.size w w1 := (hbel.alloc (by omega) _).grown hgrow (by simp; omega) (fun j hj => (hown.lt j hj).1)
        have hs1 : w.heap.size + 1 ≤ w1.heap.size := by have := hgrow.size; simp at this; omega
        go_roundw
        case rel =>
          refine ⟨s.size + 1, s.size + 1, pre ++ [s.extract fr s.size], by go_num, by go_num, by simp; omega, Nat.le_refl _, .inr ⟨rfl, hL'⟩, ?_, hb1, hs1⟩
          simpa using hown'
        case measure => simp [intOf]
    · have q : ¬ (k : Int) ≤ (s.size : Int) := by omega
      clear ek
      go_wp2
      go_ret
      refine ⟨_, rfl, ?_, hbel⟩
      rw [hL.out]
      exact hown

theorem cut_smallB (c : UInt8) (s : ByteArray) (hs : s.size ≤ 1048576) : ∀ k, k < (cutOf c s).length → ((cutOf c s).getD k ByteArray.empty).size ≤ 9223372036854775807 := by
  intro k hk
  have e : (cutOf c s).getD k ByteArray.empty = (cutOf c s)[k] := by simp [List.getD, hk]
  rw [e]
  have := cutFrom_size c s 0 _ (List.getElem_mem (h := hk))
  omega

theorem last_byte {s : ByteArray} (h : 1 ≤ s.size) : endB s = (((s[s.size - 1]'(by omega)).toNat : Int) == 10) := by
  have hne : s.data.toList ≠ [] := by intro e; rw [← size_eq, e] at h; simp at h
  have e : s.data.toList.getLast hne = s[s.size - 1]'(by omega) := by
    rw [List.getLast_eq_getElem, ← sg_byte s (s.size - 1) (by omega)]
    congr 1
  unfold endB
  rw [List.getLast?_eq_some_getLast hne, e]
  generalize s[s.size - 1]'(by omega) = x
  by_cases q : x = 10
  · subst q; rfl
  · rw [decide_eq_false (fun k => q (Option.some.inj k))]
    symm
    rw [beq_eq_false_iff_ne]
    intro k
    apply q
    apply UInt8.toNat_inj.1
    have : (10 : UInt8).toNat = 10 := rfl
    omega
theorem un_ret {x y : ByteArray} {b c : Bool} (h : x = y) (k : b = c) : Ending.returned (.tuple #[.string x, .bool b]) = .returned (.tuple #[.string y, .bool c]) := by rw [h, k]
/-- What l6Unline answers. -/
def unT (s : ByteArray) : ByteArray := if endB s = true then mkB (trimL s.data.toList) else ⟨#[]⟩
set_option maxHeartbeats 1000000 in
theorem l6UnlineC (s : ByteArray) (w : World) (hs : s.size ≤ 1048576) :
    Calls Tryz.prog 55 #[.string s] w fun e w' => e = .returned (.tuple #[.string (unT s), .bool (endB s)]) ∧ w' = w := by
  by_cases h1 : 1 ≤ s.size
  · have hl := last_byte h1
    have hw : IntKind.i64.wrap ((s.size : Int) - 1) = ((s.size - 1 : Nat) : Int) := by rw [IntKind.wrap_i64]; omega
    have q0 : ((s.size : Int) == 0) = false := beq_eq_false_iff_ne.2 (by omega)
    cases hb : endB s with
    | true =>
      have hT := (trim_yes hb).1
      rw [hb] at hl
      have HU : Hid (unT s = s.extract 0 (s.size - 1)) := by show _ = _; unfold unT; rw [if_pos hb, hT]
      obtain ⟨n, hn⟩ : ∃ n, s.size - 1 = n := ⟨_, rfl⟩
      have hn1 : n < s.size := by omega
      have hl' : ((s[n].toNat : Int) == 10) = true := by
        have := hl.symm
        simp only [hn] at this
        exact this
      rw [hn] at hw HU
      have hn2 : n ≤ s.size := by omega
      have hn3 : (n : Int) < (s.size : Int) := by omega
      have hl2 : ((s[n].toNat : Int) != 10) = false := by rw [bne, hl']; rfl
      clear hT hb hl hn
      go_enter Tryz.func55, Tryz.ntmps55
      go_wp2
      go_ret2
      exact ⟨un_ret HU.out.symm rfl, rfl⟩
    | false =>
      rw [hb] at hl
      have HU : Hid (unT s = ⟨#[]⟩) := by show _ = _; unfold unT; rw [if_neg (by rw [hb]; decide)]
      obtain ⟨n, hn⟩ : ∃ n, s.size - 1 = n := ⟨_, rfl⟩
      have hn1 : n < s.size := by omega
      have hl' : ((s[n].toNat : Int) == 10) = false := by
        have := hl.symm
        simp only [hn] at this
        exact this
      rw [hn] at hw
      have hn3 : (n : Int) < (s.size : Int) := by omega
      have hl2 : ((s[n].toNat : Int) != 10) = true := by rw [bne, hl']; rfl
      clear hb hl hn
      go_enter Tryz.func55, Tryz.ntmps55
      go_wp2
      go_ret2
      exact ⟨un_ret HU.out.symm rfl, rfl⟩
  · have hb := end_none h1
    have HU : Hid (unT s = ⟨#[]⟩) := by show _ = _; unfold unT; rw [if_neg (by rw [hb]; decide)]
    have HB : Hid (endB s = false) := hb
    have q0 : ((s.size : Int) == 0) = true := beq_iff_eq.2 (by omega)
    clear hb
    go_enter Tryz.func55, Tryz.ntmps55
    go_wp2
    go_ret2
    exact ⟨un_ret HU.out.symm HB.out.symm, rfl⟩
end Go.Proofs.YtgidcncmicmggamGreatDoor.Te
