/- The program's sorted list of rules: the library's binary search, and an entry put behind all others. No statement is proved here. -/
import Derived.Test.YtibdlfojoafloaaRows
import Derived.Test.YtibdlfojoafloaaLem
import Derived.Test.YtibdlfojoafloaaStrs
import Derived.Test.YtibdlfojoafloaaDTab
import Derived.Test.YtibdlfojoafloaaOwn
import Derived.Test.YtibdlfojoafloaaFr
import Derived.Test.YtibdlfojoafloaaHkT
import Derived.Test.YtibdlfojoafloaaShelfC
import Derived.Test.YtibdlfojoafloaaRuL
import Derived.WalkKit
import Derived.ProofKit
import Derived.Below
import Derived.WalkSpells
import Derived.Deep.QuietTactic
import Derived.BigQuiet
import Derived.Deep.RegionWith
import Derived.Deep.RegionHeld
import Derived.Deep.CutRange
import Derived.Maps.AppendAt
import Derived.Laws.Cover1
namespace Go.Proofs.Ytibdlfojoafloaa.Ru
open Go.ChangeShapes Go.WideShapes Go.ChangeAt Go.RowKit

/-- The order of rules. -/
def cmR (a b : Ob) : Int := Lib.compareBytes a.1.data.toList b.1.data.toList
set_option maxHeartbeats 1000000 in
theorem byPreC (x y : Ob) (w : World) : Calls Try.prog 63 #[.agg #[.string x.1, .string x.2], .agg #[.string y.1, .string y.2]] w fun e w' => e = .returned (.int .i64 (cmR x y)) ∧ Below w.heap.size w w' := by
  have hS := fun W => Try.strings_Compare x.1 y.1 W
  have hR : cmR x y = Lib.compareBytes x.1.data.toList y.1.data.toList := rfl
  rw [hR]
  clear hR
  obtain ⟨x0, x1⟩ := x
  obtain ⟨y0, y1⟩ := y
  simp only [] at hS ⊢
  generalize Lib.compareBytes x0.data.toList y0.data.toList = u at hS ⊢
  obtain ⟨W1, hW1⟩ : ∃ W, (w.alloc (.cells #[.string x0, .string x1] 36)).alloc (.cells #[.string y0, .string y1] 36) = W := ⟨_, rfl⟩
  have b1 : Below w.heap.size w W1 := by rw [← hW1]; exact ((Below.refl _ _).alloc (Nat.le_refl _) _).alloc (by simp) _
  have z0 : (w.alloc (.cells #[.string x0, .string x1] 36)).heap.size = w.heap.size + 1 := by simp
  have c0 : W1.cell? ⟨w.heap.size, 0, none⟩ = some (.string x0) := by rw [← hW1]; exact (allocBelow _ _).cell (p := ⟨w.heap.size, 0, none⟩) (by rw [z0]; show w.heap.size < w.heap.size + 1; omega) |>.trans (Rs.new w #[.string x0, .string x1] 36 0 _ rfl)
  have c1 : W1.cell? ⟨w.heap.size + 1, 0, none⟩ = some (.string y0) := by rw [← hW1, ← z0]; exact Rs.new _ #[.string y0, .string y1] 36 0 _ rfl
  go_enter Try.func63, Try.ntmps63
  go_wp2_with fail
  refine (hS _).mono ?_; rintro e w2 ⟨rfl, rfl⟩
  clear hW1
  go_wp2
  go_ret
  exact ⟨rfl, b1⟩
/-- Up to place p all are less than the target, and none from there on. -/
def Cuts (l : List Ob) (T : Ob) (p : Nat) : Prop := p ≤ l.length ∧ (∀ k, k < p → cmR (l.getD k onil) T < 0) ∧ (∀ k, p ≤ k → k < l.length → 0 ≤ cmR (l.getD k onil) T)
def hit (l : List Ob) (T : Ob) (p : Nat) : Bool := decide (p < l.length) && (cmR (l.getD p onil) T == 0)
set_option maxRecDepth 20000 in
set_option maxHeartbeats 4000000 in
theorem searchC (a : Option Addr) (c : Nat) (l : List Ob) (T : Ob) (p : Nat) (w : World) (h : OB w.heap.size w a l) (hn : l.length ≤ 1048576) (hp : Cuts l T p) :
    Calls Try.prog 64 #[.slice a l.length c, .agg #[.string T.1, .string T.2], .func (.func 63) #[] #[]] w fun e w' => e = .returned (.tuple #[.int .i64 p, .bool (hit l T p)]) ∧ Below w.heap.size w w' := by
  obtain ⟨hpn, hlo, hhi⟩ := hp
  obtain ⟨t0, t1⟩ := T
  obtain ⟨W, hW⟩ : ∃ W, w.alloc (.cells #[.string t0, .string t1] 36) = W := ⟨_, rfl⟩
  have bW : Below w.heap.size w W := by rw [← hW]; exact allocBelow _ _
  have oW : Rf W w.heap.size [.string t0, .string t1] := by rw [← hW]; exact Rf.new _ _ _
  have zW : w.heap.size < W.heap.size := by rw [← hW]; simp
  have hL : Hid (∀ k, k < p → cmR (l.getD k onil) (t0, t1) < 0) := hlo
  have hH : Hid (∀ k, p ≤ k → k < l.length → 0 ≤ cmR (l.getD k onil) (t0, t1)) := hhi
  clear hlo hhi
  simp only []
  go_enter Try.func64, Try.ntmps64
  go_wp2
  go_loopw [9, 10, 11] (fun vi vj _h wr => ∃ i j : Nat, i ≤ p ∧ p ≤ j ∧ j ≤ l.length ∧ vi = .int .i64 i ∧ vj = .int .i64 j ∧ Below W.heap.size W wr) (fun vi vj _ _ => (intOf vj).toNat - (intOf vi).toNat)
  case atStart => exact ⟨0, l.length, Nat.zero_le _, hpn, Nat.le_refl _, rfl, rfl, Below.refl _ _⟩
  case round =>
    obtain ⟨i, j, hi, hj, hjl, rfl, rfl, hbel⟩ := hrel
    have hsz := hbel.size
    have h3 := (h.below bW).below hbel
    have o3 := oW.below zW hbel
    have m0 := o3.at_ 0 _ rfl
    have m1 := o3.at_ 1 _ rfl
    by_cases hlt : i < j
    · have q : (i : Int) < (j : Int) := by omega
      obtain ⟨m, hm⟩ : ∃ m, (i + j) / 2 = m := ⟨_, rfl⟩
      have hmj : m < j := by omega
      have him : i ≤ m := by omega
      obtain ⟨g, off, e, hg, d0, d1⟩ := h3 m (by omega)
      subst e
      have hc1 : m < p → cmR (l.getD m onil) (t0, t1) < 0 := fun q => hL.out m q
      have hc2 : p ≤ m → 0 ≤ cmR (l.getD m onil) (t0, t1) := fun q => hH.out m q (by omega)
      obtain ⟨C, hCe⟩ : ∃ C, l.getD m onil = C := ⟨_, rfl⟩
      obtain ⟨x0, x1⟩ := C
      rw [hCe] at d0 d1 hc1 hc2
      simp only [] at d0 d1
      have hB := fun W => byPreC (x0, x1) (t0, t1) W
      simp only [] at hB
      obtain ⟨K, hK⟩ : ∃ K, cmR (x0, x1) (t0, t1) = K := ⟨_, rfl⟩
      rw [hK] at hc1 hc2 hB
      have hmI : (m : Int) < (l.length : Int) := by omega
      have hme : ((i : Int) + (j : Int)) / 2 = (m : Int) := by omega
      clear hCe hK
      have HM : Hid (i ≤ m ∧ m < j) := ⟨him, hmj⟩
      clear hm him hmj
      go_wp2_with fail
      go_cut [31] from 24 to 31 (fun s wx => s = .bool (decide (K < 0)) ∧ Below wr.heap.size wr wx)
      case first =>
        clear hc1 hc2 hL hH h3 o3 hbel hi hj hjl q h hW oW
        go_region_held (fun w' => w'.cell? ⟨w.heap.size, 0, none⟩ = some (.string t0) ∧ w'.cell? ⟨w.heap.size, 1, none⟩ = some (.string t1) ∧ w'.cell? ⟨g, off + m * 2, none⟩ = some (.string x0) ∧ w'.cell? ⟨g, off + m * 2 + 1, none⟩ = some (.string x1)) (first | with_reducible exact ⟨m0, m1, d0, d1⟩ | with_reducible exact ⟨e0, e1, f0, f1⟩ | exact ⟨m0, m1, d0, d1⟩)
          ((go_at_call 63; refine (hB _).mono ?_; rintro e wb ⟨rfl, bb⟩; have fb := Fr.ofBelow (lo := 0) (hi := 0) bb; have e0 := fb.cell m0 (.inr (Nat.zero_le _)); have e1 := fb.cell m1 (.inr (Nat.zero_le _)); have f0 := fb.cell d0 (.inr (Nat.zero_le _)); have f1 := fb.cell d1 (.inr (Nat.zero_le _)); have Bt1 : Below wr.heap.size wr wb := (below_drew (Below.refl _ _)).trans bb))
        all_goals (go_wp2_with fail; go_meet; exact ⟨rfl, Bt1⟩)
      case rest =>
      obtain ⟨rfl, hb2⟩ := hcut
      have B2 := below_step hbel hsz hb2
      obtain ⟨him, hmj⟩ := HM.out
      clear hb2 hB hbel d0 d1 m0 m1 o3 h3
      by_cases hK0 : K < 0
      · have hKd : decide (K < 0) = true := decide_eq_true hK0
        have hmp : m < p := by
          rcases Nat.lt_or_ge m p with q | q
          · exact q
          · exact absurd hK0 (by have := hc2 q; omega)
        clear hc1 hc2 hL hH
        go_wp2
        go_roundw
        case rel => exact ⟨m + 1, j, by omega, hj, hjl, by go_num, rfl, B2⟩
        case measure => simp [intOf]; omega
      · have hKd : decide (K < 0) = false := decide_eq_false hK0
        have hmp : p ≤ m := by
          rcases Nat.lt_or_ge m p with q | q
          · exact absurd (hc1 q) hK0
          · exact q
        clear hc1 hc2 hL hH
        go_wp2
        go_roundw
        case rel => exact ⟨i, m, hi, hmp, by omega, rfl, rfl, B2⟩
        case measure => simp [intOf]; omega
    · have q : ¬ (i : Int) < (j : Int) := by omega
      have ei : i = p := by omega
      subst ei
      by_cases hin : i < l.length
      · have qn : (i : Int) < (l.length : Int) := by omega
        obtain ⟨g, off, e, hg, d0, d1⟩ := h3 i hin
        subst e
        have hR : hit l (t0, t1) i = (cmR (l.getD i onil) (t0, t1) == 0) := by unfold hit; simp [hin]
        obtain ⟨C, hCe⟩ : ∃ C, l.getD i onil = C := ⟨_, rfl⟩
        obtain ⟨x0, x1⟩ := C
        rw [hCe] at d0 d1 hR
        simp only [] at d0 d1
        have hB := fun W => byPreC (x0, x1) (t0, t1) W
        simp only [] at hB
        obtain ⟨K, hK⟩ : ∃ K, cmR (x0, x1) (t0, t1) = K := ⟨_, rfl⟩
        rw [hK] at hR hB
        have HR : Hid (hit l (t0, t1) i = (K == 0)) := hR
        clear hCe hK hR hL hH
        have B2 := bW.trans (hbel.mono bW.size)
        go_wp2_with fail
        clear h3 o3 hbel hi hj hjl q h hW oW
        go_region_held (fun w' => w'.cell? ⟨w.heap.size, 0, none⟩ = some (.string t0) ∧ w'.cell? ⟨w.heap.size, 1, none⟩ = some (.string t1) ∧ w'.cell? ⟨g, off + i * 2, none⟩ = some (.string x0) ∧ w'.cell? ⟨g, off + i * 2 + 1, none⟩ = some (.string x1)) (first | with_reducible exact ⟨m0, m1, d0, d1⟩ | with_reducible exact ⟨e0, e1, f0, f1⟩ | exact ⟨m0, m1, d0, d1⟩)
          ((go_at_call 63; refine (hB _).mono ?_; rintro e wb ⟨rfl, bb⟩; have fb := Fr.ofBelow (lo := 0) (hi := 0) bb; have e0 := fb.cell m0 (.inr (Nat.zero_le _)); have e1 := fb.cell m1 (.inr (Nat.zero_le _)); have f0 := fb.cell d0 (.inr (Nat.zero_le _)); have f1 := fb.cell d1 (.inr (Nat.zero_le _)); have Bt1 : Below w.heap.size w wb := B2.trans (((below_drew (Below.refl _ _)).trans bb).mono B2.size)))
        all_goals
          clear e0 e1 f0 f1 m0 m1 d0 d1 bb fb
          go_wp2
          refine bodyPost_ret (v := .tuple #[.int .i64 i, .bool (K == 0)]) (by simp [results, Try.results64, go_sem]) rfl ?_
          exact ⟨by rw [HR.out], Bt1⟩
      · have qn : ¬ (i : Int) < (l.length : Int) := by omega
        have HR : Hid (hit l (t0, t1) i = false) := by show _ = _; unfold hit; simp [hin]
        have B2 := bW.trans (hbel.mono bW.size)
        clear hL hH h3 o3
        go_wp2_with fail
        go_quiet (fail)
        go_wp2
        refine bodyPost_ret (v := .tuple #[.int .i64 i, .bool false]) (by simp [results, Try.results64, go_sem]) rfl ?_
        exact ⟨by rw [HR.out], below_drewN' B2 _⟩
end Go.Proofs.Ytibdlfojoafloaa.Ru
