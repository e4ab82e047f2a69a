/- The program's sorted list of entries: the library's binary search, and an entry put behind all others. No statement is proved here. -/
import Derived.Test.YtfklefdliakemaaDoorRows
import Derived.Test.YtfklefdliakemaaDoorLemQ
import Derived.Test.YtfklefdliakemaaDoorDTabQ
import Derived.Test.YtfklefdliakemaaDoorHkTQ
import Derived.Test.YtfklefdliakemaaDoorWvCQ
import Derived.Test.YtfklefdliakemaaDoorFmCQ
import Derived.Test.YtfklefdliakemaaDoorFlLQ
import Derived.Test.YtfklefdliakemaaDoorEnLQ
import Derived.Test.YtfklefdliakemaaDoorIxMQ
import Derived.Test.YtfklefdliakemaaDoorIxOQ
import Derived.Test.YtfklefdliakemaaDoorSgCQ
import Derived.Test.YtfklefdliakemaaDoorSgDQ
import Derived.WalkKit
import Derived.ProofKit
import Derived.Below
import Derived.WalkSpells
import Derived.Deep.QuietTactic
import Derived.BigQuiet
import Derived.Deep.RegionWith
import Derived.Deep.RegionHeld
import Derived.Deep.CutRange
import Derived.Maps.AppendAt
import Derived.Laws.Cover1
namespace Go.Proofs.YtfklefdliakemaaDoor.En
open Go.ChangeShapes Go.WideShapes Go.ChangeAt Go.RowKit

/-- Up to place p all are less than the target, and none from there on. -/
def Cuts (l : List Ob) (T : Ob) (p : Nat) : Prop := p ≤ l.length ∧ (∀ k, k < p → cmE (l.getD k onil) T < 0) ∧ (∀ k, p ≤ k → k < l.length → 0 ≤ cmE (l.getD k onil) T)
def hit (l : List Ob) (T : Ob) (p : Nat) : Bool := decide (p < l.length) && (cmE (l.getD p onil) T == 0)
set_option maxRecDepth 20000 in
set_option maxHeartbeats 4000000 in
theorem searchC (a : Option Addr) (c : Nat) (l : List Ob) (T : Ob) (p : Nat) (w : World) (h : OB w.heap.size w a l) (hn : l.length ≤ 1048576) (hp : Cuts l T p) :
    Calls Tryd.prog 57 #[.slice a l.length c, .agg #[.string T.1, .int .i64 T.2.1, .int .i64 T.2.2.1, .string T.2.2.2], .func (.func 55) #[] #[]] w fun e w' => e = .returned (.tuple #[.int .i64 p, .bool (hit l T p)]) ∧ Below w.heap.size w w' := by
  obtain ⟨hpn, hlo, hhi⟩ := hp
  obtain ⟨t0, t1, t2, t3⟩ := T
  obtain ⟨W, hW⟩ : ∃ W, w.alloc (.cells #[.string t0, .int .i64 t1, .int .i64 t2, .string t3] 46) = W := ⟨_, rfl⟩
  have bW : Below w.heap.size w W := by rw [← hW]; exact allocBelow _ _
  have oW : Rf W w.heap.size [.string t0, .int .i64 t1, .int .i64 t2, .string t3] := by rw [← hW]; exact Rf.new _ _ _
  have zW : w.heap.size < W.heap.size := by rw [← hW]; simp
  have hL : Hid (∀ k, k < p → cmE (l.getD k onil) (t0, t1, t2, t3) < 0) := hlo
  have hH : Hid (∀ k, p ≤ k → k < l.length → 0 ≤ cmE (l.getD k onil) (t0, t1, t2, t3)) := hhi
  clear hlo hhi
  simp only []
  go_enter Tryd.func57, Tryd.ntmps57
  go_wp2
  go_loopw [9, 10, 11] (fun vi vj _h wr => ∃ i j : Nat, i ≤ p ∧ p ≤ j ∧ j ≤ l.length ∧ vi = .int .i64 i ∧ vj = .int .i64 j ∧ Below W.heap.size W wr) (fun vi vj _ _ => (intOf vj).toNat - (intOf vi).toNat)
  case atStart => exact ⟨0, l.length, Nat.zero_le _, hpn, Nat.le_refl _, rfl, rfl, Below.refl _ _⟩
  case round =>
    obtain ⟨i, j, hi, hj, hjl, rfl, rfl, hbel⟩ := hrel
    have hsz := hbel.size
    have h3 := (h.below bW).below hbel
    have o3 := oW.below zW hbel
    have m0 := o3.at_ 0 _ rfl
    have m1 := o3.at_ 1 _ rfl
    have m2 := o3.at_ 2 _ rfl
    have m3 := o3.at_ 3 _ rfl
    by_cases hlt : i < j
    · have q : (i : Int) < (j : Int) := by omega
      obtain ⟨m, hm⟩ : ∃ m, (i + j) / 2 = m := ⟨_, rfl⟩
      have hmj : m < j := by omega
      have him : i ≤ m := by omega
      obtain ⟨g, off, e, hg, d0, d1, d2, d3⟩ := h3 m (by omega)
      subst e
      have hc1 : m < p → cmE (l.getD m onil) (t0, t1, t2, t3) < 0 := fun q => hL.out m q
      have hc2 : p ≤ m → 0 ≤ cmE (l.getD m onil) (t0, t1, t2, t3) := fun q => hH.out m q (by omega)
      obtain ⟨C, hCe⟩ : ∃ C, l.getD m onil = C := ⟨_, rfl⟩
      obtain ⟨x0, x1, x2, x3⟩ := C
      rw [hCe] at d0 d1 d2 d3 hc1 hc2
      simp only [] at d0 d1 d2 d3
      have hB := fun W => byPathAndStageC (x0, x1, x2, x3) (t0, t1, t2, t3) W
      simp only [] at hB
      obtain ⟨K, hK⟩ : ∃ K, cmE (x0, x1, x2, x3) (t0, t1, t2, t3) = K := ⟨_, rfl⟩
      rw [hK] at hc1 hc2 hB
      have hmI : (m : Int) < (l.length : Int) := by omega
      have hme : ((i : Int) + (j : Int)) / 2 = (m : Int) := by omega
      clear hCe hK
      have HM : Hid (i ≤ m ∧ m < j) := ⟨him, hmj⟩
      clear hm him hmj
      go_wp2_with fail
      go_cut [31] from 24 to 31 (fun s wx => s = .bool (decide (K < 0)) ∧ Below wr.heap.size wr wx)
      case first =>
        clear hc1 hc2 hL hH h3 o3 hbel hi hj hjl q h hW oW
        go_region_held (fun w' => w'.cell? ⟨w.heap.size, 0, none⟩ = some (.string t0) ∧ w'.cell? ⟨w.heap.size, 1, none⟩ = some (.int .i64 t1) ∧ w'.cell? ⟨w.heap.size, 2, none⟩ = some (.int .i64 t2) ∧ w'.cell? ⟨w.heap.size, 3, none⟩ = some (.string t3) ∧ w'.cell? ⟨g, off + m * 4, none⟩ = some (.string x0) ∧ w'.cell? ⟨g, off + m * 4 + 1, none⟩ = some (.int .i64 x1) ∧ w'.cell? ⟨g, off + m * 4 + 2, none⟩ = some (.int .i64 x2) ∧ w'.cell? ⟨g, off + m * 4 + 3, none⟩ = some (.string x3)) (first | with_reducible exact ⟨m0, m1, m2, m3, d0, d1, d2, d3⟩ | with_reducible exact ⟨e0, e1, e2, e3, f0, f1, f2, f3⟩ | exact ⟨m0, m1, m2, m3, d0, d1, d2, d3⟩)
          ((go_at_call 55; refine (hB _).mono ?_; rintro e wb ⟨rfl, bb⟩; have fb := Fr.ofBelow (lo := 0) (hi := 0) bb; have e0 := fb.cell m0 (.inr (Nat.zero_le _)); have e1 := fb.cell m1 (.inr (Nat.zero_le _)); have e2 := fb.cell m2 (.inr (Nat.zero_le _)); have e3 := fb.cell m3 (.inr (Nat.zero_le _)); have f0 := fb.cell d0 (.inr (Nat.zero_le _)); have f1 := fb.cell d1 (.inr (Nat.zero_le _)); have f2 := fb.cell d2 (.inr (Nat.zero_le _)); have f3 := fb.cell d3 (.inr (Nat.zero_le _)); have Bt1 : Below wr.heap.size wr wb := (below_drew (Below.refl _ _)).trans bb))
        all_goals (go_wp2_with fail; go_meet; exact ⟨rfl, Bt1⟩)
      case rest =>
      obtain ⟨rfl, hb2⟩ := hcut
      have B2 := below_step hbel hsz hb2
      obtain ⟨him, hmj⟩ := HM.out
      clear hb2 hB hbel d0 d1 d2 d3 m0 m1 m2 m3 o3 h3
      by_cases hK0 : K < 0
      · have hKd : decide (K < 0) = true := decide_eq_true hK0
        have hmp : m < p := by
          rcases Nat.lt_or_ge m p with q | q
          · exact q
          · exact absurd hK0 (by have := hc2 q; omega)
        clear hc1 hc2 hL hH
        go_wp2
        go_roundw
        case rel => exact ⟨m + 1, j, by omega, hj, hjl, by go_num, rfl, B2⟩
        case measure => simp [intOf]; omega
      · have hKd : decide (K < 0) = false := decide_eq_false hK0
        have hmp : p ≤ m := by
          rcases Nat.lt_or_ge m p with q | q
          · exact absurd (hc1 q) hK0
          · exact q
        clear hc1 hc2 hL hH
        go_wp2
        go_roundw
        case rel => exact ⟨i, m, hi, hmp, by omega, rfl, rfl, B2⟩
        case measure => simp [intOf]; omega
    · have q : ¬ (i : Int) < (j : Int) := by omega
      have ei : i = p := by omega
      subst ei
      by_cases hin : i < l.length
      · have qn : (i : Int) < (l.length : Int) := by omega
        obtain ⟨g, off, e, hg, d0, d1, d2, d3⟩ := h3 i hin
        subst e
        have hR : hit l (t0, t1, t2, t3) i = (cmE (l.getD i onil) (t0, t1, t2, t3) == 0) := by unfold hit; simp [hin]
        obtain ⟨C, hCe⟩ : ∃ C, l.getD i onil = C := ⟨_, rfl⟩
        obtain ⟨x0, x1, x2, x3⟩ := C
        rw [hCe] at d0 d1 d2 d3 hR
        simp only [] at d0 d1 d2 d3
        have hB := fun W => byPathAndStageC (x0, x1, x2, x3) (t0, t1, t2, t3) W
        simp only [] at hB
        obtain ⟨K, hK⟩ : ∃ K, cmE (x0, x1, x2, x3) (t0, t1, t2, t3) = K := ⟨_, rfl⟩
        rw [hK] at hR hB
        have HR : Hid (hit l (t0, t1, t2, t3) i = (K == 0)) := hR
        clear hCe hK hR hL hH
        have B2 := bW.trans (hbel.mono bW.size)
        go_wp2_with fail
        clear h3 o3 hbel hi hj hjl q h hW oW
        go_region_held (fun w' => w'.cell? ⟨w.heap.size, 0, none⟩ = some (.string t0) ∧ w'.cell? ⟨w.heap.size, 1, none⟩ = some (.int .i64 t1) ∧ w'.cell? ⟨w.heap.size, 2, none⟩ = some (.int .i64 t2) ∧ w'.cell? ⟨w.heap.size, 3, none⟩ = some (.string t3) ∧ w'.cell? ⟨g, off + i * 4, none⟩ = some (.string x0) ∧ w'.cell? ⟨g, off + i * 4 + 1, none⟩ = some (.int .i64 x1) ∧ w'.cell? ⟨g, off + i * 4 + 2, none⟩ = some (.int .i64 x2) ∧ w'.cell? ⟨g, off + i * 4 + 3, none⟩ = some (.string x3)) (first | with_reducible exact ⟨m0, m1, m2, m3, d0, d1, d2, d3⟩ | with_reducible exact ⟨e0, e1, e2, e3, f0, f1, f2, f3⟩ | exact ⟨m0, m1, m2, m3, d0, d1, d2, d3⟩)
          ((go_at_call 55; refine (hB _).mono ?_; rintro e wb ⟨rfl, bb⟩; have fb := Fr.ofBelow (lo := 0) (hi := 0) bb; have e0 := fb.cell m0 (.inr (Nat.zero_le _)); have e1 := fb.cell m1 (.inr (Nat.zero_le _)); have e2 := fb.cell m2 (.inr (Nat.zero_le _)); have e3 := fb.cell m3 (.inr (Nat.zero_le _)); have f0 := fb.cell d0 (.inr (Nat.zero_le _)); have f1 := fb.cell d1 (.inr (Nat.zero_le _)); have f2 := fb.cell d2 (.inr (Nat.zero_le _)); have f3 := fb.cell d3 (.inr (Nat.zero_le _)); have Bt1 : Below w.heap.size w wb := B2.trans (((below_drew (Below.refl _ _)).trans bb).mono B2.size)))
        all_goals
          clear e0 e1 e2 e3 f0 f1 f2 f3 m0 m1 m2 m3 d0 d1 d2 d3 bb fb
          go_wp2
          refine bodyPost_ret (v := .tuple #[.int .i64 i, .bool (K == 0)]) (by simp [results, Tryd.results57, go_sem]) rfl ?_
          exact ⟨by rw [HR.out], Bt1⟩
      · have qn : ¬ (i : Int) < (l.length : Int) := by omega
        have HR : Hid (hit l (t0, t1, t2, t3) i = false) := by show _ = _; unfold hit; simp [hin]
        have B2 := bW.trans (hbel.mono bW.size)
        clear hL hH h3 o3
        go_wp2_with fail
        go_quiet (fail)
        go_wp2
        refine bodyPost_ret (v := .tuple #[.int .i64 i, .bool false]) (by simp [results, Tryd.results57, go_sem]) rfl ?_
        exact ⟨by rw [HR.out], below_drewN' B2 _⟩
end Go.Proofs.YtfklefdliakemaaDoor.En
