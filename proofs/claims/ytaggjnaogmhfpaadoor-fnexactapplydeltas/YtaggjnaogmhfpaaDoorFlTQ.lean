/- The contracts of the laws' helpers over lists of files (szFileS, toFileS, eqFileS). No statement is proved here. -/
import Derived.Test.YtaggjnaogmhfpaaDoorRows
import Derived.Test.YtaggjnaogmhfpaaDoorLemQ
import Derived.Test.YtaggjnaogmhfpaaDoorDTabQ
import Derived.Test.YtaggjnaogmhfpaaDoorFlLQ
import Derived.WalkKit
import Derived.ProofKit
import Derived.Below
import Derived.WalkSpells
import Derived.Deep.QuietTactic
import Derived.BigQuiet
import Derived.Deep.RegionWith
namespace Go.Proofs.YtaggjnaogmhfpaaDoor.Fl
open Go.ChangeShapes Go.WideShapes Go.ChangeAt Go.RowKit

set_option maxHeartbeats 1000000 in
theorem szFile (o : Ob) (n : Int) (w : World) (f1 : o.1.size ≤ 9223372036854775807) (f2 : o.2.2.size ≤ 9223372036854775807) (h0 : 0 ≤ n) (h1 : n ≤ 1048576) :
    Calls Tryd.prog 23 #[.agg #[.string o.1, .int .i64 o.2.1, .string o.2.2], .int .i64 n] w fun e w' => e = .returned (.int .i64 (left1 n o)) ∧ Below w.heap.size w w' := by
  obtain ⟨s, k, t⟩ := o
  simp only [] at f1 f2 ⊢
  by_cases hn : n - s.size < 0
  · have hC : Hid (left1 n (s, k, t) = -1) := if_pos hn
    go_enter Tryd.func23, Tryd.ntmps23
    go_wp2
    go_ret
    exact ⟨ret_int hC.out.symm, allocBelow _ _⟩
  · by_cases hm : n - s.size - t.size < 0
    · have hC : Hid (left1 n (s, k, t) = -1) := by show _ = _; unfold left1; rw [if_neg hn, if_pos hm]
      go_enter Tryd.func23, Tryd.ntmps23
      go_wp2
      go_ret
      exact ⟨ret_int hC.out.symm, allocBelow _ _⟩
    · have hC : Hid (left1 n (s, k, t) = n - s.size - t.size) := by show _ = _; unfold left1; rw [if_neg hn, if_neg hm]
      go_enter Tryd.func23, Tryd.ntmps23
      go_wp2
      go_ret
      exact ⟨ret_int hC.out.symm, allocBelow _ _⟩

set_option maxRecDepth 20000 in
set_option maxHeartbeats 2000000 in
theorem szFileS (a : Option Addr) (c : Nat) (l : List Ob) (n : Int) (w : World) (h : OB w.heap.size w a l) (hf : FitsO l) (hn : l.length ≤ 9223372036854775807) (h0 : 0 ≤ n) (h1 : n ≤ 1048576) :
    Calls Tryd.prog 5 #[.slice a l.length c, .int .i64 n] w fun e w' => e = .returned (.int .i64 (leftO n l)) ∧ Below w.heap.size w w' := by
  by_cases hneg : n - l.length < 0
  · have hC : Hid (leftO n l = -1) := if_pos hneg
    go_enter Tryd.func5, Tryd.ntmps5
    go_wp2
    go_ret
    exact ⟨ret_int hC.out.symm, Below.refl _ _⟩
  have HF : Hid (leftO n l = leftOF (n - l.length) l) := if_neg hneg
  obtain ⟨V, hV⟩ : ∃ V, leftO n l = V := ⟨_, rfl⟩
  rw [hV] at HF ⊢
  clear hV
  have hlen : l.length ≤ 1048576 := by omega
  go_enter Tryd.func5, Tryd.ntmps5
  go_wp2
  go_loopw [1, 5] (fun t i wr => ∃ (k : Nat) (m : Int), k ≤ l.length ∧ i = .int .i64 k ∧ t = .int .i64 m ∧ 0 ≤ m ∧ m ≤ 1048576 ∧ Hid (leftOF m (l.drop k) = leftOF (n - l.length) l) ∧ Below w.heap.size w wr) (fun _ i _ => l.length - (intOf i).toNat)
  case atStart => exact ⟨0, n - l.length, Nat.zero_le _, rfl, rfl, by omega, by omega, rfl, Below.refl _ _⟩
  case round =>
    obtain ⟨k, m, hk, rfl, rfl, hm0, hm1, hL, hbel⟩ := hrel
    have hsz := hbel.size
    by_cases hlt : k < l.length
    · have q : (k : Int) < (l.length : Int) := by omega
      obtain ⟨g, off, e, hg, d0, d1, d2⟩ := h.below hbel k hlt
      subst e
      have hdr := ob_drop l k hlt
      have hsl := hf _ (ob_mem l k hlt)
      obtain ⟨C, hCe⟩ : ∃ C, l.getD k onil = C := ⟨_, rfl⟩
      rw [hCe] at d0 d1 d2 hdr hsl
      rw [hdr] at hL
      have hZ := szFile C m wr hsl.1 hsl.2 hm0 hm1
      have hST : left1 m C < 0 → Hid (leftOF (n - l.length) l = -1) := fun h1 => by show _ = _; rw [← hL.out, leftOF_stop h1]
      have hGO : ¬ left1 m C < 0 → Hid (leftOF (left1 m C) (l.drop (k + 1)) = leftOF (n - l.length) l) := fun h1 => by show _ = _; rw [← hL.out, leftOF_go h1]
      have hbd : ¬ left1 m C < 0 → left1 m C ≤ 1048576 := fun h1 => by
        have := left1_nums h1; omega
      obtain ⟨M, hM⟩ : ∃ M, left1 m C = M := ⟨_, rfl⟩
      rw [hM] at hZ hST hGO hbd
      clear hL hCe hdr hM hsl
      by_cases hneg2 : M < 0
      · have hC := hST hneg2
        clear hST hGO hbd
        go_wp2_with fail
        refine hZ.mono ?_; rintro e w2 ⟨rfl, b2⟩
        have HB := below_step hbel hsz b2
        clear b2 hZ
        go_wp2
        go_ret
        exact ⟨ret_int (hC.out.symm.trans HF.out.symm), HB⟩
      · have hC := hGO hneg2
        have hM1 := hbd hneg2
        clear hST hGO hbd
        go_wp2_with fail
        refine hZ.mono ?_; rintro e w2 ⟨rfl, b2⟩
        have HB := below_step hbel hsz b2
        clear b2 hZ
        go_wp2
        go_roundw
        case rel => exact ⟨k + 1, M, by omega, by first | rfl | go_num, rfl, by omega, hM1, hC, HB⟩
        case measure => first | (simp [intOf]; omega) | simp [intOf]
    · have q : ¬ (k : Int) < (l.length : Int) := by omega
      have hC : Hid (leftOF (n - l.length) l = m) := by
        show _ = _
        rw [← hL.out, List.drop_of_length_le (by omega)]; rfl
      clear hL
      go_wp2
      go_ret
      exact ⟨ret_int (hC.out.symm.trans HF.out.symm), hbel⟩

set_option maxHeartbeats 1000000 in
theorem toFile (s t : ByteArray) (k : Int) (w : World) :
    Calls Tryd.prog 27 #[.agg #[.string s, .int .i64 k, .string t]] w fun e w' => e = .returned (.agg #[.string s, .int .i64 k, .string t]) ∧ Below w.heap.size w w' := by
  go_enter Tryd.func27, Tryd.ntmps27
  go_wp2
  refine bodyPost_ret (v := .agg #[.string s, .int .i64 k, .string t]) (by simp [results, Tryd.results27, go_sem]) rfl ⟨rfl, ?_⟩
  exact (((Below.refl _ _).alloc (Nat.le_refl _) _).alloc (by simp) _).alloc (by simp; omega) _

set_option maxRecDepth 20000 in
set_option maxHeartbeats 2000000 in
theorem toFileS (a : Option Addr) (c : Nat) (l : List Ob) (w : World) (h : OB w.heap.size w a l) (hn : l.length ≤ 1048576) :
    Calls Tryd.prog 7 #[.slice a l.length c] w fun e w' => e = .returned (.slice (some ⟨w.heap.size, 0, none⟩) l.length l.length) ∧
      w'.ownsRow w.heap.size 52 3 (.slice (some ⟨w.heap.size, 0, none⟩) l.length l.length) l.length (ocells l) ∧ Below w.heap.size w w' := by
  obtain ⟨i0, hi, hz0, hz1, hz2⟩ := info_parts infoObj
  go_enter Tryd.func7, Tryd.ntmps7
  go_wp2_with (first | (at_make; refine wpList_make_full _ rfl (.tmp 6) (.tmp 6) 28 rfl w.heap.size 52 i0 (.agg #[.string ⟨#[]⟩, .int .i64 0, .string ⟨#[]⟩]) 3 Tryd.underlying28 hi hz0 hz1 .i64 .i64 _ _ l.length rfl rfl (by omega) (by omega) (by rw [hz2]; omega) (by unfold maxLen; omega) (Nat.le_refl _) ?_; intro w1 hown1 hg1))
  have hown : w1.ownsRow w.heap.size 52 3 (.slice (some ⟨w.heap.size, 0, none⟩) l.length l.length) l.length (rowG (mixO l 0) (l.length * 3)) := by
    rw [← mixO_zero]
    exact hown1
  have hbel : Below w.heap.size w w1 := (Below.refl _ _).grown hg1 (Nat.le_refl _) (by intro k h; cases h)
  clear hown1 hg1
  go_loopw [4] (fun i wr => ∃ (k : Nat), k ≤ l.length ∧ i = .int .i64 k ∧ wr.ownsRow w.heap.size 52 3 (.slice (some ⟨w.heap.size, 0, none⟩) l.length l.length) l.length (rowG (mixO l k) (l.length * 3)) ∧ Below w.heap.size w wr) (fun i _ => l.length - (intOf i).toNat)
  case atStart => exact ⟨0, Nat.zero_le _, rfl, hown, hbel⟩
  case round =>
    clear hown hbel
    obtain ⟨k, hk, rfl, howr, hbr⟩ := hrel
    have hsz := hbr.size
    by_cases hlt : k < l.length
    · have q : (k : Int) < (l.length : Int) := by omega
      obtain ⟨g, off, e, hg, d0, d1, d2⟩ := h.below hbr k hlt
      subst e
      have hset := mixO_set l k (l.length * 3)
      obtain ⟨C, hCe⟩ : ∃ C, l.getD k onil = C := ⟨_, rfl⟩
      obtain ⟨x0, x1, x2⟩ := C
      rw [hCe] at d0 d1 d2 hset
      simp only [] at d0 d1 d2 hset
      clear hCe
      go_wp2_with fail
      refine (toFile x0 x2 x1 _).mono ?_; rintro e w2 ⟨rfl, b2⟩
      have ho2 := howr.kept (grownOfBelow b2 none) (.inr (by simp [Value.ownBlock]))
      have hb2 : Below w.heap.size w w2 := below_step hbr hsz b2
      have hlen : (rowG (mixO l k) (l.length * 3)).length = l.length * 3 := ho2.1
      have hcell : ∀ j, j < 3 → ∃ u, w2.cell? ⟨w.heap.size, k * 3 + j, none⟩ = some u := fun j hj => by
        rw [ho2.cellAt (k * 3 + j) (by omega), List.getElem?_eq_getElem (by omega)]; exact ⟨_, rfl⟩
      obtain ⟨u0, e0⟩ := hcell 0 (by omega)
      obtain ⟨u1, e1⟩ := hcell 1 (by omega)
      obtain ⟨u2, e2⟩ := hcell 2 (by omega)
      rw [Nat.add_zero] at e0
      have f0 := ho2.frozenAt (k * 3)
      have f1 := ho2.frozenAt (k * 3 + 1)
      have f2 := ho2.frozenAt (k * 3 + 2)
      have s0 := ho2.stored (k * 3) (.string x0)
      have s1 := s0.1.stored (k * 3 + 1) (.int .i64 x1)
      have s2 := s1.1.stored (k * 3 + 2) (.string x2)
      have hs3 := s2.1
      rw [hset] at hs3
      have HS : Hid (World.ownsRow _ _ _ _ _ _ _) := hs3
      have HB : Hid (Below w.heap.size w (((w2.setCell ⟨w.heap.size, k * 3, none⟩ (.string x0)).setCell ⟨w.heap.size, k * 3 + 1, none⟩ (.int .i64 x1)).setCell ⟨w.heap.size, k * 3 + 2, none⟩ (.string x2))) :=
        ((hb2.setCell (p := ⟨w.heap.size, k * 3, none⟩) (Nat.le_refl _) _).setCell (p := ⟨w.heap.size, k * 3 + 1, none⟩) (Nat.le_refl _) _).setCell (p := ⟨w.heap.size, k * 3 + 2, none⟩) (Nat.le_refl _) _
      clear s0 s1 s2 hs3 hset hb2 ho2 howr hbr b2 hcell hlen d0 d1 d2
      go_wp2
      go_roundw
      case rel => exact ⟨k + 1, by omega, by go_num, HS.out, HB.out⟩
      case measure => first | (simp [intOf]; omega) | simp [intOf]
    · have q : ¬ (k : Int) < (l.length : Int) := by omega
      obtain rfl : k = l.length := by omega
      rw [mixO_full] at howr
      go_wp2
      go_ret
      exact ⟨rfl, howr, hbr⟩

theorem beqSelf (s : ByteArray) : (s.toList == s.toList) = true := beq_bytes_true rfl
set_option maxHeartbeats 1000000 in
theorem eqFile (s t : ByteArray) (k : Int) (w : World) :
    Calls Tryd.prog 33 #[.agg #[.string s, .int .i64 k, .string t], .agg #[.string s, .int .i64 k, .string t]] w fun e w' => e = .returned (.bool true) ∧ Below w.heap.size w w' := by
  have hb := beqSelf s
  have hc := beqSelf t
  go_enter Tryd.func33, Tryd.ntmps33
  go_wp2
  go_ret
  exact ⟨rfl, ((Below.refl _ _).alloc (Nat.le_refl _) _).alloc (by simp) _⟩
set_option maxRecDepth 20000 in
set_option maxHeartbeats 2000000 in
theorem eqFileS (a1 a2 : Option Addr) (c1 c2 : Nat) (l : List Ob) (w : World) (h1 : OB w.heap.size w a1 l) (h2 : OB w.heap.size w a2 l) (hn : l.length ≤ 1048576) :
    Calls Tryd.prog 10 #[.slice a1 l.length c1, .slice a2 l.length c2] w fun e w' => e = .returned (.bool true) ∧ Below w.heap.size w w' := by
  have hl : ((l.length : Int) != (l.length : Int)) = false := by simp
  go_enter Tryd.func10, Tryd.ntmps10
  go_wp2
  go_loopw [5] (fun i wr => ∃ k : Nat, k ≤ l.length ∧ i = .int .i64 k ∧ Below w.heap.size w wr) (fun i _ => l.length - (intOf i).toNat)
  case atStart => exact ⟨0, Nat.zero_le _, rfl, Below.refl _ _⟩
  case round =>
    obtain ⟨k, hk, rfl, hbel⟩ := hrel
    have hsz := hbel.size
    by_cases hlt : k < l.length
    · have q : (k : Int) < (l.length : Int) := by omega
      obtain ⟨g, off, e, _, d0, d1, d2⟩ := h1.below hbel k hlt
      obtain ⟨g', off', e', _, f0, f1, f2⟩ := h2.below hbel k hlt
      subst e e'
      obtain ⟨C, hCe⟩ : ∃ C, l.getD k onil = C := ⟨_, rfl⟩
      obtain ⟨x0, x1, x2⟩ := C
      rw [hCe] at d0 d1 d2 f0 f1 f2
      simp only [] at d0 d1 d2 f0 f1 f2
      clear hCe h1 h2
      go_wp2
      go_region_with (go_at_call 33; refine (eqFile x0 x2 x1 _).mono ?_; rintro e w' ⟨rfl, b⟩)
      all_goals
        have b' : Below wr.heap.size wr w' := (below_drew (Below.refl wr.heap.size wr)).trans b
        have HB : Hid (Below w.heap.size w w') := below_step hbel hsz b'
        clear d0 d1 d2 f0 f1 f2 b b' hbel
        go_wp2
        go_roundw
        case rel => exact ⟨k + 1, by omega, by go_num, by first | exact HB.out | exact below_drew HB.out | exact below_drewN' HB.out _⟩
        case measure => first | (simp [intOf]; omega) | simp [intOf]
    · have q : ¬ (k : Int) < (l.length : Int) := by omega
      go_wp2
      go_ret
      exact ⟨rfl, hbel⟩
end Go.Proofs.YtaggjnaogmhfpaaDoor.Fl
