/- The contracts of the laws' helpers over lists of hunks (szHunkS, toHunkS, eqHunkS). No statement is proved here. -/
import Derived.Test.YtbghdelpnodijaaDoorRows
import Derived.Test.YtbghdelpnodijaaDoorLem
import Derived.Test.YtbghdelpnodijaaDoorStrs
import Derived.Test.YtbghdelpnodijaaDoorMarks
import Derived.Test.YtbghdelpnodijaaDoorDTab
import Derived.Test.YtbghdelpnodijaaDoorOwn
import Derived.Test.YtbghdelpnodijaaDoorFr
import Derived.Test.YtbghdelpnodijaaDoorIn
import Derived.Test.YtbghdelpnodijaaDoorHkL
import Derived.Test.YtbghdelpnodijaaDoorHkC
import Derived.Test.YtbghdelpnodijaaDoorHkT
import Derived.Test.YtbghdelpnodijaaDoorHkE
import Derived.Test.YtbghdelpnodijaaDoorHfL
import Derived.Test.YtbghdelpnodijaaDoorHfC
import Derived.Test.YtbghdelpnodijaaDoorHnL
import Derived.WalkKit
import Derived.ProofKit
import Derived.Below
import Derived.WalkSpells
import Derived.Deep.QuietTactic
import Derived.BigQuiet
import Derived.Deep.RegionWith
import Derived.Maps.AppendAt
namespace Go.Proofs.YtbghdelpnodijaaDoor
open Go.ChangeShapes Go.WideShapes Go.ChangeAt Go.RowKit

/-- Every list of lines is of a length that a machine has. -/
def Long (l : List Hk) : Prop := ∀ h ∈ l, h.2.2.length ≤ 9223372036854775807

set_option maxRecDepth 20000 in
set_option maxHeartbeats 2000000 in
theorem szHunkS (a : Option Addr) (c : Nat) (l : List Hk) (n : Int) (w : World) (h : HB w.heap.size w a l) (hl : Long l) (hn : l.length ≤ 9223372036854775807) (h0 : 0 ≤ n) (h1 : n ≤ 1048576) :
    Calls Tryd.prog 5 #[.slice a l.length c, .int .i64 n] w fun e w' => e = .returned (.int .i64 (leftH n l)) ∧ Below w.heap.size w w' := by
  by_cases hneg : n - l.length < 0
  · have hC : Hid (leftH n l = -1) := if_pos hneg
    go_enter Tryd.func5, Tryd.ntmps5
    go_wp2
    go_ret
    exact ⟨ret_int hC.out.symm, Below.refl _ _⟩
  have HF : Hid (leftH n l = leftHF (n - l.length) l) := if_neg hneg
  obtain ⟨V, hV⟩ : ∃ V, leftH n l = V := ⟨_, rfl⟩
  rw [hV] at HF ⊢
  clear hV
  have hlen : l.length ≤ 1048576 := by omega
  go_enter Tryd.func5, Tryd.ntmps5
  go_wp2
  go_loopw [1, 5] (fun t i wr => ∃ (k : Nat) (m : Int), k ≤ l.length ∧ i = .int .i64 k ∧ t = .int .i64 m ∧ 0 ≤ m ∧ m ≤ 1048576 ∧ Hid (leftHF m (l.drop k) = leftHF (n - l.length) l) ∧ Below w.heap.size w wr) (fun _ i _ => l.length - (intOf i).toNat)
  case atStart => exact ⟨0, n - l.length, Nat.zero_le _, rfl, rfl, by omega, by omega, rfl, Below.refl _ _⟩
  case round =>
    obtain ⟨k, m, hk, rfl, rfl, hm0, hm1, hL, hbel⟩ := hrel
    have hsz := hbel.size
    by_cases hlt : k < l.length
    · have q : (k : Int) < (l.length : Int) := by omega
      obtain ⟨g, off, ak, ck, e, hg, d0, d1, d2, hSB⟩ := h.below hbel k hlt
      subst e
      have hdr := hk_drop l k hlt
      have hsl := hl _ (getD_mem l k hlt)
      obtain ⟨C, hCe⟩ : ∃ C, l.getD k (0, 0, []) = C := ⟨_, rfl⟩
      obtain ⟨x0, x1, ss⟩ := C
      rw [hCe] at d0 d1 d2 hSB hdr hsl
      simp only [] at d0 d1 d2 hSB hsl
      rw [hdr] at hL
      have hZ := szHunk x0 x1 ak ck ss m wr (hSB.toSS hsz) hsl hm0 hm1
      have hST : left m ss < 0 → Hid (leftHF (n - l.length) l = -1) := fun h1 => by show _ = _; rw [← hL.out, leftHF_stop (h := (x0, x1, ss)) h1]
      have hGO : ¬ left m ss < 0 → Hid (leftHF (left m ss) (l.drop (k + 1)) = leftHF (n - l.length) l) := fun h1 => by show _ = _; rw [← hL.out, leftHF_go (h := (x0, x1, ss)) h1]
      have hbd : ¬ left m ss < 0 → left m ss ≤ 1048576 := fun h1 => by
        have := left_nums h1; have := tot_nonneg ss; omega
      obtain ⟨M, hM⟩ : ∃ M, left m ss = M := ⟨_, rfl⟩
      rw [hM] at hZ hST hGO hbd
      clear hL hCe hdr hM
      by_cases hneg2 : M < 0
      · have hC := hST hneg2
        clear hST hGO hbd
        go_wp2_with fail
        refine hZ.mono ?_; rintro e w2 ⟨rfl, b2⟩
        have HB := below_step hbel hsz b2
        clear b2 hZ
        go_wp2
        go_ret
        exact ⟨ret_int (hC.out.symm.trans HF.out.symm), HB⟩
      · have hC := hGO hneg2
        have hM1 := hbd hneg2
        clear hST hGO hbd
        go_wp2_with fail
        refine hZ.mono ?_; rintro e w2 ⟨rfl, b2⟩
        have HB := below_step hbel hsz b2
        clear b2 hZ
        go_wp2
        go_roundw
        case rel => exact ⟨k + 1, M, by omega, by first | rfl | go_num, rfl, by omega, hM1, hC, HB⟩
        case measure => first | (simp [intOf]; omega) | simp [intOf]
    · have q : ¬ (k : Int) < (l.length : Int) := by omega
      have hC : Hid (leftHF (n - l.length) l = m) := by
        show _ = _
        rw [← hL.out, List.drop_of_length_le (by omega)]; rfl
      clear hL
      go_wp2
      go_ret
      exact ⟨ret_int (hC.out.symm.trans HF.out.symm), hbel⟩

set_option maxRecDepth 20000 in
set_option maxHeartbeats 4000000 in
theorem toHunkS (a : Option Addr) (c : Nat) (l : List Hk) (w : World) (h : HB w.heap.size w a l) (hs : Shortly l) (hn : l.length ≤ 1048576) :
    Calls Tryd.prog 7 #[.slice a l.length c] w fun e w' => e = .returned (.slice (some ⟨w.heap.size, 0, none⟩) l.length l.length) ∧
      (∃ sl, HO w.heap.size w' (.slice (some ⟨w.heap.size, 0, none⟩) l.length l.length) l sl) ∧ Below w.heap.size w w' := by
  obtain ⟨i0, hi, hz0, hz1, hz2⟩ := info_parts infoHunk
  go_enter Tryd.func7, Tryd.ntmps7
  go_wp2_with (first | (at_make; refine wpList_make_full _ rfl (.tmp 6) (.tmp 6) 27 rfl w.heap.size 44 i0 (.agg #[.int .i64 0, .int .i64 0, .slice none 0 0]) 3 Tryd.underlying27 hi hz0 hz1 .i64 .i64 _ _ l.length rfl rfl (by omega) (by omega) (by rw [hz2]; omega) (by unfold maxLen; omega) (Nat.le_refl _) ?_; intro w1 hown1 hg1))
  have hown : w1.ownsRow w.heap.size 44 3 (.slice (some ⟨w.heap.size, 0, none⟩) l.length l.length) l.length (rowF (mixH l (fun _ => .slice none 0 0) 0) (l.length * 3)) := by
    rw [← mixH_zero]
    exact hown1
  have hbel : Below w.heap.size w w1 := (Below.refl _ _).grown hg1 (Nat.le_refl _) (by intro k h; cases h)
  have hz : w.heap.size < w1.heap.size := (hown.lt w.heap.size rfl).2
  clear hown1 hg1
  go_loopw [4] (fun i wr => ∃ (k : Nat) (sl : Nat → Value), k ≤ l.length ∧ i = .int .i64 k ∧ wr.ownsRow w.heap.size 44 3 (.slice (some ⟨w.heap.size, 0, none⟩) l.length l.length) l.length (rowF (mixH l sl k) (l.length * 3)) ∧
      (∀ j, j < k → wr.ownsRow w.heap.size 9 1 (sl j) (l.getD j (0, 0, [])).2.2.length ((l.getD j (0, 0, [])).2.2.map Value.string)) ∧
      (∀ i j, i < j → j < k → ∀ b, (sl i).ownBlock = some b → (sl j).ownBlock = some b → False) ∧ (∀ j, j < k → ∀ b, (sl j).ownBlock = some b → w.heap.size < b ∧ b < wr.heap.size) ∧
      Below w.heap.size w wr ∧ w.heap.size < wr.heap.size) (fun i _ => l.length - (intOf i).toNat)
  case atStart => exact ⟨0, fun _ => .slice none 0 0, Nat.zero_le _, rfl, hown, fun j hj => absurd hj (Nat.not_lt_zero _), fun _ j _ hj => absurd hj (Nat.not_lt_zero _), fun j hj => absurd hj (Nat.not_lt_zero _), hbel, hz⟩
  case round =>
    clear hown hbel hz
    obtain ⟨k, sl, hk, rfl, howr, hea, hap, hbd, hbr, hzr⟩ := hrel
    have hsz := hbr.size
    by_cases hlt : k < l.length
    · have q : (k : Int) < (l.length : Int) := by omega
      obtain ⟨g, off, ak, ck, e, hg, d0, d1, d2, hSB⟩ := h.below hbr k hlt
      subst e
      have hset := mixH_set l sl k (l.length * 3)
      have hsl := hs _ (getD_mem l k hlt)
      obtain ⟨C, hCe⟩ : ∃ C, l.getD k (0, 0, []) = C := ⟨_, rfl⟩
      obtain ⟨x0, x1, ss⟩ := C
      rw [hCe] at d0 d1 d2 hSB hsl hset
      simp only [] at d0 d1 d2 hSB hsl hset
      have HCe : Hid (l.getD k (0, 0, []) = (x0, x1, ss)) := hCe
      clear hCe
      go_wp2_with fail
      refine (toHunk x0 x1 ak ck ss _ (hSB.toSS hsz) hsl).mono ?_; rintro e w2 ⟨gn, hgn, rfl, o2, b2⟩
      have ho2 := howr.kept (grownOfBelow b2 none) (.inr (by simp [Value.ownBlock]))
      have hb2 : Below w.heap.size w w2 := below_step hbr hsz b2
      have hlen : (rowF (mixH l sl k) (l.length * 3)).length = l.length * 3 := ho2.1
      have hgn2 := (o2.lt gn rfl).2
      have z2 := b2.size
      have hcell : ∀ j, j < 3 → ∃ u, w2.cell? ⟨w.heap.size, k * 3 + j, none⟩ = some u := fun j hj => by
        rw [ho2.cellAt (k * 3 + j) (by omega), List.getElem?_eq_getElem (by omega)]; exact ⟨_, rfl⟩
      obtain ⟨u0, e0⟩ := hcell 0 (by omega)
      obtain ⟨u1, e1⟩ := hcell 1 (by omega)
      obtain ⟨u2, e2⟩ := hcell 2 (by omega)
      rw [Nat.add_zero] at e0
      have f0 := ho2.frozenAt (k * 3)
      have f1 := ho2.frozenAt (k * 3 + 1)
      have f2 := ho2.frozenAt (k * 3 + 2)
      have s0 := ho2.stored (k * 3) (.int .i64 x0)
      have s1 := s0.1.stored (k * 3 + 1) (.int .i64 x1)
      have s2 := s1.1.stored (k * 3 + 2) (.slice (some ⟨gn, 0, none⟩) ss.length ss.length)
      have hs3 := s2.1
      rw [hset (.slice (some ⟨gn, 0, none⟩) ss.length ss.length)] at hs3
      have hG := grownTrans (grownTrans s0.2 s1.2) s2.2
      have HS : Hid (World.ownsRow _ _ _ _ _ _ _) := hs3
      have HB : Hid (Below w.heap.size w (((w2.setCell ⟨w.heap.size, k * 3, none⟩ (.int .i64 x0)).setCell ⟨w.heap.size, k * 3 + 1, none⟩ (.int .i64 x1)).setCell ⟨w.heap.size, k * 3 + 2, none⟩ (.slice (some ⟨gn, 0, none⟩) ss.length ss.length))) :=
        ((hb2.setCell (p := ⟨w.heap.size, k * 3, none⟩) (Nat.le_refl _) _).setCell (p := ⟨w.heap.size, k * 3 + 1, none⟩) (Nat.le_refl _) _).setCell (p := ⟨w.heap.size, k * 3 + 2, none⟩) (Nat.le_refl _) _
      have HZ : Hid ((((w2.setCell ⟨w.heap.size, k * 3, none⟩ (.int .i64 x0)).setCell ⟨w.heap.size, k * 3 + 1, none⟩ (.int .i64 x1)).setCell ⟨w.heap.size, k * 3 + 2, none⟩ (.slice (some ⟨gn, 0, none⟩) ss.length ss.length)).heap.size = w2.heap.size) := by show _ = _; simp [World.setCell]
      have HE : Hid (∀ j, j < k + 1 → (((w2.setCell ⟨w.heap.size, k * 3, none⟩ (.int .i64 x0)).setCell ⟨w.heap.size, k * 3 + 1, none⟩ (.int .i64 x1)).setCell ⟨w.heap.size, k * 3 + 2, none⟩ (.slice (some ⟨gn, 0, none⟩) ss.length ss.length)).ownsRow w.heap.size 9 1 (if j = k then (.slice (some ⟨gn, 0, none⟩) ss.length ss.length) else sl j) (l.getD j (0, 0, [])).2.2.length ((l.getD j (0, 0, [])).2.2.map Value.string)) := by
        show ∀ j, _
        intro j hj
        by_cases e : j = k
        · subst e
          rw [if_pos rfl, HCe.out]
          exact ownMono (o2.kept hG (blockCases _ _ fun b c1 c2 => by
            have e1 : gn = b := by simpa [Value.ownBlock] using c1
            have e2 : w.heap.size = b := by simpa [Value.ownBlock] using c2
            omega)) hsz
        · rw [if_neg e]
          have hj' : j < k := by omega
          have o3 := (hea j hj').kept (grownOfBelow b2 none) (blockCases _ _ fun b c1 c2 => by cases c2)
          exact o3.kept hG (blockCases _ _ fun b c1 c2 => by
            have := (hbd j hj' b c1).1
            have e2 : w.heap.size = b := by simpa [Value.ownBlock] using c2
            omega)
      have HA : Hid (∀ i j, i < j → j < k + 1 → ∀ b, ((if i = k then (.slice (some ⟨gn, 0, none⟩) ss.length ss.length) else sl i) : Value).ownBlock = some b → ((if j = k then (.slice (some ⟨gn, 0, none⟩) ss.length ss.length) else sl j) : Value).ownBlock = some b → False) := by
        show ∀ i j, _
        intro i j hij hj b c1 c2
        rw [if_neg (by omega)] at c1
        by_cases e : j = k
        · rw [if_pos e] at c2
          have e2 : gn = b := by simpa [Value.ownBlock] using c2
          have := (hbd i (by omega) b c1).2
          omega
        · rw [if_neg e] at c2
          exact hap i j hij (by omega) b c1 c2
      have HD : Hid (∀ j, j < k + 1 → ∀ b, ((if j = k then (.slice (some ⟨gn, 0, none⟩) ss.length ss.length) else sl j) : Value).ownBlock = some b → w.heap.size < b ∧ b < w2.heap.size) := by
        show ∀ j, _
        intro j hj b c1
        by_cases e : j = k
        · rw [if_pos e] at c1
          have e2 : gn = b := by simpa [Value.ownBlock] using c1
          omega
        · rw [if_neg e] at c1
          have := hbd j (by omega) b c1
          omega
      clear s0 s1 s2 hs3 hset hb2 ho2 howr hbr b2 hcell hlen d0 d1 d2 hea hap hbd hG o2 hSB
      go_wp2
      go_roundw
      case rel =>
        have hzz := HZ.out
        exact ⟨k + 1, fun j => if j = k then (.slice (some ⟨gn, 0, none⟩) ss.length ss.length) else sl j, by omega, by go_num, HS.out, HE.out, HA.out, fun j hj b hb => by rw [hzz]; exact HD.out j hj b hb, HB.out, by rw [hzz]; omega⟩
      case measure => first | (simp [intOf]; omega) | simp [intOf]
    · have q : ¬ (k : Int) < (l.length : Int) := by omega
      obtain rfl : k = l.length := by omega
      rw [mixH_full] at howr
      have HF : Hid (HO w.heap.size wr (.slice (some ⟨w.heap.size, 0, none⟩) l.length l.length) l sl) := ⟨howr, hea, hap, fun j hj b c1 c2 => by
        have e1 : w.heap.size = b := by simpa [Value.ownBlock] using c1
        have := (hbd j hj b c2).1
        omega⟩
      clear howr hea hap hbd
      go_wp2
      go_ret
      exact ⟨rfl, ⟨sl, HF.out⟩, hbr⟩

set_option maxRecDepth 20000 in
set_option maxHeartbeats 2000000 in
theorem eqHunkS (a1 a2 : Option Addr) (c1 c2 : Nat) (l : List Hk) (w : World) (h1 : HB w.heap.size w a1 l) (h2 : HB w.heap.size w a2 l) (hs : Shortly l) (hn : l.length ≤ 1048576) :
    Calls Tryd.prog 10 #[.slice a1 l.length c1, .slice a2 l.length c2] w fun e w' => e = .returned (.bool true) ∧ Below w.heap.size w w' := by
  have hl : ((l.length : Int) != (l.length : Int)) = false := by simp
  go_enter Tryd.func10, Tryd.ntmps10
  go_wp2
  go_loopw [5] (fun i wr => ∃ k : Nat, k ≤ l.length ∧ i = .int .i64 k ∧ Below w.heap.size w wr) (fun i _ => l.length - (intOf i).toNat)
  case atStart => exact ⟨0, Nat.zero_le _, rfl, Below.refl _ _⟩
  case round =>
    obtain ⟨k, hk, rfl, hbel⟩ := hrel
    have hsz := hbel.size
    by_cases hlt : k < l.length
    · have q : (k : Int) < (l.length : Int) := by omega
      obtain ⟨g, off, ak, ck, e, _, d0, d1, d2, hS1⟩ := h1.below hbel k hlt
      obtain ⟨g', off', ak', ck', e', _, f0, f1, f2, hS2⟩ := h2.below hbel k hlt
      subst e e'
      have hsl := hs _ (getD_mem l k hlt)
      obtain ⟨C, hCe⟩ : ∃ C, l.getD k (0, 0, []) = C := ⟨_, rfl⟩
      obtain ⟨x0, x1, ss⟩ := C
      rw [hCe] at d0 d1 d2 f0 f1 f2 hS1 hS2 hsl
      simp only [] at d0 d1 d2 f0 f1 f2 hS1 hS2 hsl
      have T1 : SS wr.drew ak ss := hS1.toSS hsz
      have T2 : SS wr.drew ak' ss := hS2.toSS hsz
      clear hCe h1 h2 hS1 hS2
      go_wp2
      go_region_with (go_at_call 23; refine (eqHunk x0 x1 _ _ _ _ ss _ T1 T2 hsl).mono ?_; rintro e w' ⟨rfl, b⟩)
      all_goals
        have b' : Below wr.heap.size wr w' := (below_drew (Below.refl wr.heap.size wr)).trans b
        have HB : Hid (Below w.heap.size w w') := below_step hbel hsz b'
        clear d0 d1 d2 f0 f1 f2 b b' hbel
        go_wp2
        go_roundw
        case rel => exact ⟨k + 1, by omega, by go_num, by first | exact HB.out | exact below_drew HB.out | exact below_drewN' HB.out _⟩
        case measure => first | (simp [intOf]; omega) | simp [intOf]
    · have q : ¬ (k : Int) < (l.length : Int) := by omega
      go_wp2
      go_ret
      exact ⟨rfl, hbel⟩
end Go.Proofs.YtbghdelpnodijaaDoor
