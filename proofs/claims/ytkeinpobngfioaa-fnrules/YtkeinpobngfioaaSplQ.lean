/- The contracts of spec.l1Split and spec.TextFault. No statement is proved here. -/
import Derived.Test.YtkeinpobngfioaaRows
import Derived.Test.YtkeinpobngfioaaLemQ
import Derived.Test.YtkeinpobngfioaaLFLemQ
import Derived.Test.YtkeinpobngfioaaTFQ
import Derived.WalkKit
import Derived.ProofKit
import Derived.Below
import Derived.WalkSpells
import Derived.Maps.AppendAt
namespace Go.Proofs.Ytkeinpobngfioaa
open Go.ChangeShapes Go.WideShapes Go.ChangeAt Go.RowKit

theorem byte_at (s : ByteArray) (k : Nat) (h : k < s.size) : s.data.toList[k]'(by rw [size_eq]; exact h) = s[k] := rfl
theorem byte_ten {c : UInt8} (h : ((c.toNat : Int) == 10) = true) : c = 10 := by
  apply UInt8.toNat_inj.1
  have := of_decide_eq_true h
  have h2 : (10 : UInt8).toNat = 10 := rfl
  omega
theorem byte_not_ten {c : UInt8} (h : ((c.toNat : Int) == 10) = false) : ¬ c = 10 := by
  intro e
  rw [e] at h
  exact absurd h (by decide)
/-- The bytes from fr up to k. -/
def seg (s : ByteArray) (fr k : Nat) : List UInt8 := (s.data.toList.drop fr).take (k - fr)
theorem seg_snoc (s : ByteArray) (fr k : Nat) (h1 : fr ≤ k) (h : k < s.size) : seg s fr (k + 1) = seg s fr k ++ [s[k]] := by
  unfold seg
  have hl : k - fr < (s.data.toList.drop fr).length := by rw [List.length_drop, size_eq]; omega
  have e : k + 1 - fr = (k - fr) + 1 := by omega
  rw [e, List.take_succ_eq_append_getElem hl, List.getElem_drop]
  congr 2
  rw [← byte_at s k h]
  congr 1
  omega
theorem endOf_at (s : ByteArray) (fr k : Nat) (h1 : fr ≤ k) (h : k < s.size) (hn : ¬ (10 : UInt8) ∈ seg s fr k) (hc : s[k] = 10) : endOf s fr = k + 1 := by
  have hl : k - fr < (s.data.toList.drop fr).length := by rw [List.length_drop, size_eq]; omega
  have hsp : s.data.toList.drop fr = seg s fr k ++ (10 : UInt8) :: (s.data.toList.drop fr).drop (k - fr + 1) := by
    conv => lhs; rw [← List.take_append_drop (k - fr) (s.data.toList.drop fr), List.drop_eq_getElem_cons hl]
    unfold seg
    congr 2
    rw [List.getElem_drop, ← hc, ← byte_at s k h]
    congr 1
    omega
  have hi : Lib.indexByte (s.data.toList.drop fr) 10 = (k - fr : Nat) := by
    rw [hsp, indexByte_app _ _ _ hn]
    unfold seg
    rw [List.length_take]
    omega
  unfold endOf
  rw [hi, if_neg (by omega)]
  omega
theorem endOf_last (s : ByteArray) (fr : Nat) (hn : ¬ (10 : UInt8) ∈ seg s fr s.size) : endOf s fr = s.size := by
  have e : seg s fr s.size = s.data.toList.drop fr := by
    unfold seg
    rw [List.take_of_length_le (by rw [List.length_drop, size_eq]; exact Nat.le_refl _)]
  rw [e] at hn
  unfold endOf
  rw [indexByte_none _ _ hn, if_pos (by omega)]
theorem lines_small (s : ByteArray) (hs : s.size ≤ 1048576) : ∀ k, k < (linesOf s).length → ((linesOf s).getD k ByteArray.empty).size ≤ 9223372036854775807 := by
  have key : ∀ m fr, s.size - fr ≤ m → ∀ x ∈ linesFrom s fr, x.size ≤ 1048576 := by
    intro m
    induction m with
    | zero => intro fr h x hx; rw [linesFrom_end s fr (by omega)] at hx; cases hx
    | succ m ih =>
      intro fr h x hx
      by_cases hlt : fr < s.size
      · rw [linesFrom_step s fr hlt] at hx
        have := endOf_bd s fr hlt
        rcases List.mem_cons.1 hx with rfl | hx
        · exact Nat.le_trans (extract_size_le _ _ _) hs
        · exact ih (endOf s fr) (by omega) x hx
      · rw [linesFrom_end s fr (by omega)] at hx; cases hx
  intro k hk
  rw [getD_at _ k hk]
  have := key s.size 0 (by omega) _ (List.getElem_mem hk)
  exact Nat.le_trans this (by omega)

set_option maxHeartbeats 2000000 in
theorem l1Split (s : ByteArray) (w : World) (hs : s.size ≤ 1048576) :
    Calls Try.prog 38 #[.string s] w fun e w' => ∃ v, e = .returned v ∧ w'.ownsRow w.heap.size 9 1 v (linesOf s).length ((linesOf s).map Value.string) ∧ Below w.heap.size w w' := by
  obtain ⟨i0, hi, hz0, hz1, hz2⟩ := info_parts infoString
  go_enter Try.func38, Try.ntmps38
  go_wp2
  go_loopw [3, 4, 5] (fun v f i wr => ∃ (k fr : Nat) (pre : List ByteArray), fr ≤ k ∧ k ≤ s.size ∧ i = .int .i64 k ∧ f = .int .i64 fr ∧ Hid (linesOf s = pre ++ linesFrom s fr) ∧ Hid (¬ (10 : UInt8) ∈ seg s fr k) ∧ pre.length ≤ fr ∧
      wr.ownsRow w.heap.size 9 1 v pre.length (pre.map Value.string) ∧ Below w.heap.size w wr ∧ w.heap.size + 1 ≤ wr.heap.size) (fun _ _ i _ => s.size - (intOf i).toNat)
  case atStart =>
    refine ⟨0, 0, [], Nat.le_refl _, Nat.zero_le _, rfl, rfl, rfl, ?_, Nat.le_refl _, ?_, (Below.refl _ _).alloc (Nat.le_refl _) _, by simp⟩
    · show ¬ _; simp [seg]
    · exact World.ownsRow_lit w #[] 0 (Nat.le_refl _) (Nat.zero_le _) rfl
  case round =>
    obtain ⟨k, fr, pre, hfk, hk, rfl, rfl, hL, hN, hpl, hown, hbel, hsz⟩ := hrel
    by_cases hlt : k < s.size
    · by_cases hz : ((s[k].toNat : Int) == 10) = true
      · have hE := endOf_at s fr k hfk hlt hN.out (byte_ten hz)
        have hL' : Hid (linesOf s = (pre ++ [s.extract fr (k + 1)]) ++ linesFrom s (k + 1)) := by
          show linesOf s = _
          rw [hL.out, linesFrom_step s fr (by omega), hE]; simp
        clear hE hL hN
        go_wp2_with (at_builtin; refine wpList_append_own _ rfl (.tmp 17) (.tmp 23) 56 rfl w.heap.size 9 i0 (.string ByteArray.empty) 1 16 Try.underlying56 hi hz0 hz1 hz2 rfl (by decide) u3 _ _ rfl (hown.alloc _) ⟨wr.heap.size, 0, none⟩ 1 1 [.string (s.extract fr (k + 1))] rfl rfl (cell_one_new _ _ _) (by simp [Value.oneCell']) (by unfold maxLen; omega) (by omega) (by simp; omega) ?_; intro v' w1 hown' hgrow _)
        have hb1 : Below w.heap.size w w1 := (hbel.alloc (by omega) _).grown hgrow (by simp; omega) (fun j hj => (hown.lt j hj).1)
        have hs1 : w.heap.size + 1 ≤ w1.heap.size := by have := hgrow.size; simp at this; omega
        go_roundw
        case rel =>
          refine ⟨k + 1, k + 1, pre ++ [s.extract fr (k + 1)], Nat.le_refl _, by omega, by go_num, by go_num, hL', ?_, by simp; omega, ?_, hb1, hs1⟩
          · show ¬ _; simp [seg]
          · simpa using hown'
        case measure => simp [intOf]; omega
      · have hz' : ((s[k].toNat : Int) == 10) = false := by simpa using hz
        have hN' : Hid (¬ (10 : UInt8) ∈ seg s fr (k + 1)) := by
          show ¬ _
          rw [seg_snoc s fr k hfk hlt]
          have := byte_not_ten hz'
          simp only [List.mem_append, List.mem_singleton, not_or]
          exact ⟨hN.out, fun e => this e.symm⟩
        clear hz hN
        go_wp2
        go_roundw
        case rel => exact ⟨k + 1, fr, pre, by omega, by omega, by go_num, rfl, hL, hN', hpl, hown, hbel, hsz⟩
        case measure => simp [intOf]; omega
    · have ek : k = s.size := by omega
      by_cases hfr : fr < s.size
      · have hE := endOf_last s fr (by rw [← ek]; exact hN.out)
        have hL' : Hid (linesOf s = pre ++ [s.extract fr s.size]) := by
          show linesOf s = _
          rw [hL.out, linesFrom_step s fr hfr, hE, linesFrom_end s s.size (Nat.le_refl _)]
        clear hE hL hN ek
        go_wp2_with (at_builtin; refine wpList_append_own _ rfl (.tmp 31) (.tmp 35) 56 rfl w.heap.size 9 i0 (.string ByteArray.empty) 1 16 Try.underlying56 hi hz0 hz1 hz2 rfl (by decide) u3 _ _ rfl (hown.alloc _) ⟨wr.heap.size, 0, none⟩ 1 1 [.string (s.extract fr s.size)] rfl rfl (cell_one_new _ _ _) (by simp [Value.oneCell']) (by unfold maxLen; omega) (by omega) (by simp; omega) ?_; intro v' w1 hown' hgrow _)
        have hb1 : Below w.heap.size w w1 := (hbel.alloc (by omega) _).grown hgrow (by simp; omega) (fun j hj => (hown.lt j hj).1)
        go_ret
        refine ⟨_, rfl, ?_, hb1⟩
        rw [hL'.out]
        simpa using hown'
      · have hL' : Hid (linesOf s = pre) := by
          show linesOf s = _
          rw [hL.out, linesFrom_end s fr (by omega), List.append_nil]
        clear hL hN ek
        go_wp2
        go_ret
        refine ⟨_, rfl, ?_, hbel⟩
        rw [hL'.out]
        exact hown

/-- A row of strings that is owned, as a slice that reads as them. -/
theorem SS_of_row {w' : World} {base n : Nat} {v : Value} {ss : List ByteArray} (h : w'.ownsRow base 9 1 v n (ss.map Value.string)) (hn : n = ss.length)
    (hz : ∀ k, k < ss.length → (ss.getD k ByteArray.empty).size ≤ 9223372036854775807) : ∃ a cap, v = .slice a ss.length cap ∧ SS w' a ss ∧ (a = none → ss = []) := by
  rcases h.2 with ⟨h', h0⟩ | ⟨g, cap, cur, h', hb, hg, _⟩
  · have e : ss = [] := List.length_eq_zero_iff.1 (by omega)
    exact ⟨none, 0, by rw [h', e]; rfl, ⟨hz, fun k hk => by rw [e] at hk; exact absurd hk (Nat.not_lt_zero _)⟩, fun _ => e⟩
  · refine ⟨some ⟨g, 0, none⟩, cap, by rw [h', hn], ⟨hz, fun k hk => ⟨g, 0, rfl, (Array.getElem?_eq_some_iff.1 hg).1, ?_⟩⟩, fun e => by cases e⟩
    rw [h'] at h
    rw [Nat.zero_add, h.cellAt k (by omega), getD_at ss k hk]; simp [hk]

set_option maxHeartbeats 800000 in
theorem specTextFault (s : ByteArray) (w : World) (hs : s.size ≤ 1048576) :
    Calls Try.prog 24 #[.string s] w fun e w' => e = .returned (.int .i64 (tf s)) ∧ Below w.heap.size w w' := by
  by_cases hbig : 2000 < (s.size : Int)
  · have hT : Hid (tf s = 2) := tf_many (Or.inl hbig)
    go_enter Try.func24, Try.ntmps24
    go_wp2_with fail
    go_ret
    exact ⟨ret_int hT.out.symm, Below.refl _ _⟩
  · go_enter Try.func24, Try.ntmps24
    go_wp2_with fail
    refine (l1Split s _ hs).mono ?_; rintro e w1 ⟨v, rfl, hown, hb⟩
    obtain ⟨a, cap, rfl, _, _⟩ := SS_of_row hown rfl (lines_small s hs)
    have hll := lines_le s
    by_cases hmany : 100 < ((linesOf s).length : Int)
    · have hT : Hid (tf s = 2) := tf_many (Or.inr hmany)
      go_wp2
      go_ret
      exact ⟨ret_int hT.out.symm, hb⟩
    · have hT : Hid (tf s = 0) := tf_ok (by omega)
      go_wp2
      go_ret
      exact ⟨ret_int hT.out.symm, hb⟩
end Go.Proofs.Ytkeinpobngfioaa
