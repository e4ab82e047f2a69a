/- Contracts of the laws' helpers that copy lists of changes (szChangeS, toChange, toChangeS). No statement is proved here. -/
import Derived.Test.YtidjcjeiigjmaahRows
import Derived.Test.YtidjcjeiigjmaahLem
import Derived.Test.YtidjcjeiigjmaahStrs
import Derived.Test.YtidjcjeiigjmaahCom
import Derived.Test.YtidjcjeiigjmaahDTab
import Derived.Test.YtidjcjeiigjmaahFr
import Derived.Test.YtidjcjeiigjmaahChg
import Derived.Test.YtidjcjeiigjmaahEdC
import Derived.WalkKit
import Derived.ProofKit
import Derived.Below
import Derived.WalkSpells
namespace Go.Proofs.Ytidjcjeiigjmaah
open Go.ChangeShapes Go.WideShapes Go.ChangeAt Go.RowKit

def leftC (l : Int) (n : Nat) : Int := if l - n < 0 then -1 else l - n
set_option maxHeartbeats 400000 in
theorem szChangeS (a : Option Addr) (n cap : Nat) (l : Int) (w : World) (hn : n ≤ 9223372036854775807) (h0 : 0 ≤ l) (h1 : l ≤ 1048576) :
    Calls Try.prog 21 #[.slice a n cap, .int .i64 l] w fun e w' => e = .returned (.int .i64 (leftC l n)) ∧ w' = w := by
  by_cases hneg : l - n < 0
  · have hL : Hid (leftC l n = -1) := by show _ = _; unfold leftC; rw [if_pos hneg]
    go_enter Try.func21, Try.ntmps21
    go_wp2
    go_ret
    exact ⟨ret_int hL.out.symm, rfl⟩
  · have hL : Hid (leftC l n = l - n) := by show _ = _; unfold leftC; rw [if_neg hneg]
    go_enter Try.func21, Try.ntmps21
    go_wp2
    go_ret
    exact ⟨ret_int hL.out.symm, rfl⟩

set_option maxHeartbeats 1000000 in
theorem toChange (x0 x1 x2 x3 : Int) (w : World) :
    Calls Try.prog 50 #[.agg #[.int .i64 x0, .int .i64 x1, .int .i64 x2, .int .i64 x3]] w fun e w' => e = .returned (.agg #[.int .i64 x0, .int .i64 x1, .int .i64 x2, .int .i64 x3]) ∧ Below w.heap.size w w' := by
  go_enter Try.func50, Try.ntmps50
  go_wp2
  refine bodyPost_ret (v := .agg #[.int .i64 x0, .int .i64 x1, .int .i64 x2, .int .i64 x3]) (by simp [results, Try.results50, go_sem]) rfl ⟨rfl, ?_⟩
  exact (((Below.refl _ _).alloc (Nat.le_refl _) _).alloc (by simp) _).alloc (by simp; omega) _

theorem made4 (n : Nat) : (madeCells (Value.agg #[.int .i64 0, .int .i64 0, .int .i64 0, .int .i64 0]).cells n).toList = List.replicate n (.int .i64 0) := by
  apply List.ext_getElem?
  intro j
  by_cases hj : j < n
  · have h4 : j % 4 = 0 ∨ j % 4 = 1 ∨ j % 4 = 2 ∨ j % 4 = 3 := by omega
    rcases h4 with h | h | h | h <;> simp [madeCells, hj, Value.cells, h]
  · simp [madeCells, hj]
/-- What toChangeS has copied behind k rounds. -/
def copC (l : List Chg) (k : Nat) : List Value := chgCells (l.take k) ++ List.replicate ((l.length - k) * 4) (.int .i64 0)
theorem copC_full (l : List Chg) : copC l l.length = chgCells l := by simp [copC]
theorem copC_set (l : List Chg) (k : Nat) (h : k < l.length) (x0 x1 x2 x3 : Int) (hx : l.getD k (0, 0, 0, 0) = (x0, x1, x2, x3)) :
    ((((copC l k).set (k * 4) (.int .i64 x0)).set (k * 4 + 1) (.int .i64 x1)).set (k * 4 + 2) (.int .i64 x2)).set (k * 4 + 3) (.int .i64 x3) = copC l (k + 1) := by
  have hl : (chgCells (l.take k)).length = k * 4 := by rw [chgCells_length, List.length_take]; omega
  have e : (l.length - k) * 4 = (l.length - (k + 1)) * 4 + 4 := by omega
  have et : l.take (k + 1) = l.take k ++ [(x0, x1, x2, x3)] := by
    rw [List.take_succ_eq_append_getElem h, ← hx]; simp [List.getD, h]
  unfold copC
  rw [et, chgCells_append, e, List.append_assoc]
  rw [List.set_append_right _ _ (by omega), hl, Nat.sub_self, List.set_append_right _ _ (by omega), hl, List.set_append_right _ _ (by omega), hl, List.set_append_right _ _ (by omega), hl]
  congr 1
  rw [show k * 4 + 1 - k * 4 = 1 by omega, show k * 4 + 2 - k * 4 = 2 by omega, show k * 4 + 3 - k * 4 = 3 by omega]
  simp [List.replicate_succ, cells4]

set_option maxRecDepth 20000 in
set_option maxHeartbeats 2000000 in
theorem toChangeS (B : Nat) (a : Option Addr) (cap : Nat) (l : List Chg) (w : World) (hs : CB B w a l) (hn : l.length ≤ 1048576) :
    Calls Try.prog 23 #[.slice a l.length cap] w fun e w' => e = .returned (.slice (some ⟨w.heap.size, 0, none⟩) l.length l.length) ∧
      w'.ownsRow w.heap.size 68 4 (.slice (some ⟨w.heap.size, 0, none⟩) l.length l.length) l.length (chgCells l) ∧ Below w.heap.size w w' := by
  obtain ⟨i0, hi, hz0, hz1, hz2⟩ := info_parts infoChange
  go_enter Try.func23, Try.ntmps23
  go_wp2_with (first | (at_make; refine wpList_make_full _ rfl (.tmp 6) (.tmp 6) 24 rfl w.heap.size 68 i0 (.agg #[.int .i64 0, .int .i64 0, .int .i64 0, .int .i64 0]) 4 Try.underlying24 hi hz0 hz1 .i64 .i64 _ _ l.length rfl rfl (by omega) (by omega) (by rw [hz2]; omega) (by unfold maxLen; omega) (Nat.le_refl _) ?_; intro w1 hown1 hg1))
  have hown : w1.ownsRow w.heap.size 68 4 (.slice (some ⟨w.heap.size, 0, none⟩) l.length l.length) l.length (copC l 0) := by
    have e : copC l 0 = List.replicate (l.length * 4) (.int .i64 0) := by simp [copC, chgCells]
    rw [e, ← made4]
    exact hown1
  have hbel : Below w.heap.size w w1 := (Below.refl _ _).grown hg1 (Nat.le_refl _) (by intro k h; cases h)
  clear hown1 hg1
  go_loopw [4] (fun i wr => ∃ k : Nat, k ≤ l.length ∧ i = .int .i64 k ∧ wr.ownsRow w.heap.size 68 4 (.slice (some ⟨w.heap.size, 0, none⟩) l.length l.length) l.length (copC l k) ∧ Below w.heap.size w wr) (fun i _ => l.length - (intOf i).toNat)
  case atStart => exact ⟨0, Nat.zero_le _, rfl, hown, hbel⟩
  case round =>
    clear hown hbel
    obtain ⟨k, hk, rfl, howr, hbr⟩ := hrel
    by_cases hlt : k < l.length
    · have q : (k : Int) < (l.length : Int) := by omega
      obtain ⟨g, off, e, hg, d0, d1, d2, d3⟩ := hs.below hbr k hlt
      subst e
      have hset := copC_set l k hlt
      obtain ⟨C, hCe⟩ : ∃ C, l.getD k (0, 0, 0, 0) = C := ⟨_, rfl⟩
      obtain ⟨x0, x1, x2, x3⟩ := C
      rw [hCe] at d0 d1 d2 d3
      simp only [] at d0 d1 d2 d3
      have hset := hset x0 x1 x2 x3 hCe
      have hsz := hbr.size
      clear hCe
      go_wp2_with fail
      refine (toChange x0 x1 x2 x3 _).mono ?_; rintro e w2 ⟨rfl, b2⟩
      have ho2 := howr.kept (grownOfBelow b2 none) (.inr (by simp [Value.ownBlock]))
      have hb2 : Below w.heap.size w w2 := below_step hbr hsz b2
      have hlen : (copC l k).length = l.length * 4 := ho2.1
      have hcell : ∀ j, j < 4 → ∃ u, w2.cell? ⟨w.heap.size, k * 4 + j, none⟩ = some u := fun j hj => by
        rw [ho2.cellAt (k * 4 + j) (by omega), List.getElem?_eq_getElem (by omega)]; exact ⟨_, rfl⟩
      obtain ⟨u0, e0⟩ := hcell 0 (by omega)
      obtain ⟨u1, e1⟩ := hcell 1 (by omega)
      obtain ⟨u2, e2⟩ := hcell 2 (by omega)
      obtain ⟨u3, e3⟩ := hcell 3 (by omega)
      rw [Nat.add_zero] at e0
      have f0 := ho2.frozenAt (k * 4)
      have f1 := ho2.frozenAt (k * 4 + 1)
      have f2 := ho2.frozenAt (k * 4 + 2)
      have f3 := ho2.frozenAt (k * 4 + 3)
      have s0 := ho2.stored (k * 4) (.int .i64 x0)
      have s1 := s0.1.stored (k * 4 + 1) (.int .i64 x1)
      have s2 := s1.1.stored (k * 4 + 2) (.int .i64 x2)
      have s3 := s2.1.stored (k * 4 + 3) (.int .i64 x3)
      have hs3 := s3.1
      rw [hset] at hs3
      have HS : Hid (World.ownsRow _ _ _ _ _ _ _) := hs3
      have HB : Hid (Below w.heap.size w ((((w2.setCell ⟨w.heap.size, k * 4, none⟩ (.int .i64 x0)).setCell ⟨w.heap.size, k * 4 + 1, none⟩ (.int .i64 x1)).setCell ⟨w.heap.size, k * 4 + 2, none⟩ (.int .i64 x2)).setCell ⟨w.heap.size, k * 4 + 3, none⟩ (.int .i64 x3))) :=
        (((hb2.setCell (p := ⟨w.heap.size, k * 4, none⟩) (Nat.le_refl _) _).setCell (p := ⟨w.heap.size, k * 4 + 1, none⟩) (Nat.le_refl _) _).setCell (p := ⟨w.heap.size, k * 4 + 2, none⟩) (Nat.le_refl _) _).setCell (p := ⟨w.heap.size, k * 4 + 3, none⟩) (Nat.le_refl _) _
      clear s0 s1 s2 s3 hs3 hset hb2 ho2 howr hbr b2 hcell hlen d0 d1 d2 d3 hs
      go_wp2
      go_roundw
      case rel => exact ⟨k + 1, by omega, by go_num, HS.out, HB.out⟩
      case measure => first | (simp [intOf]; omega) | simp [intOf]
    · have q : ¬ (k : Int) < (l.length : Int) := by omega
      have e : k = l.length := by omega
      have hfull := howr
      rw [e, copC_full] at hfull
      clear howr e
      go_wp2
      go_ret
      exact ⟨rfl, hfull, hbr⟩
end Go.Proofs.Ytidjcjeiigjmaah
