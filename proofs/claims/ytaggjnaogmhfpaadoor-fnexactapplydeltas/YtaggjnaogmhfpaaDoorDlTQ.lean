/- The contracts of the laws' helpers over lists of deltas (szDeltaS, toDeltaS, ). No statement is proved here. -/
import Derived.Test.YtaggjnaogmhfpaaDoorRows
import Derived.Test.YtaggjnaogmhfpaaDoorLemQ
import Derived.Test.YtaggjnaogmhfpaaDoorDTabQ
import Derived.Test.YtaggjnaogmhfpaaDoorInQ
import Derived.Test.YtaggjnaogmhfpaaDoorFlLQ
import Derived.Test.YtaggjnaogmhfpaaDoorFlTQ
import Derived.Test.YtaggjnaogmhfpaaDoorDlLQ
import Derived.WalkKit
import Derived.ProofKit
import Derived.Below
import Derived.WalkSpells
import Derived.Deep.QuietTactic
import Derived.BigQuiet
import Derived.Deep.RegionWith
namespace Go.Proofs.YtaggjnaogmhfpaaDoor.Dl
open Go.ChangeShapes Go.WideShapes Go.ChangeAt Go.RowKit

set_option maxRecDepth 20000 in
set_option maxHeartbeats 4000000 in
theorem szDelta (o : Ob) (n : Int) (w : World) (hf : o.1.size ≤ 9223372036854775807 ∧ o.2.1.1.size ≤ 9223372036854775807 ∧ o.2.1.2.2.size ≤ 9223372036854775807 ∧ o.2.2.1.size ≤ 9223372036854775807 ∧ o.2.2.2.2.size ≤ 9223372036854775807) (h0 : 0 ≤ n) (h1 : n ≤ 1048576) :
    Calls Tryd.prog 36 #[.agg #[.string o.1, .string o.2.1.1, .int .i64 o.2.1.2.1, .string o.2.1.2.2, .string o.2.2.1, .int .i64 o.2.2.2.1, .string o.2.2.2.2], .int .i64 n] w fun e w' => e = .returned (.int .i64 (left1 n o)) ∧ Below w.heap.size w w' := by
  obtain ⟨x0, ⟨x1, x2, x3⟩, ⟨x4, x5, x6⟩⟩ := o
  simp only [] at hf ⊢
  obtain ⟨f0, f1, f2, f3, f4⟩ := hf
  by_cases hn : n - x0.size < 0
  · have hC : Hid (left1 n (x0, (x1, x2, x3), (x4, x5, x6)) = -1) := if_pos hn
    go_enter Tryd.func36, Tryd.ntmps36
    go_wp2
    go_ret
    exact ⟨ret_int hC.out.symm, allocBelow _ _⟩
  obtain ⟨A, hA⟩ : ∃ A, Fl.left1 (n - x0.size) (x1, x2, x3) = A := ⟨_, rfl⟩
  obtain ⟨B, hB⟩ : ∃ B, Fl.left1 A (x4, x5, x6) = B := ⟨_, rfl⟩
  have hL : left1 n (x0, (x1, x2, x3), (x4, x5, x6)) = if A < 0 then -1 else if B < 0 then -1 else B := by
    unfold left1; rw [if_neg hn]; simp only [hA, hB]
  have zA := fun W => Fl.szFile (x1, x2, x3) (n - x0.size) W f1 f2 (by omega) (by omega)
  have zB := fun W (g0 : 0 ≤ A) (g1 : A ≤ 1048576) => Fl.szFile (x4, x5, x6) A W f3 f4 g0 g1
  have bA : ¬ A < 0 → A ≤ 1048576 := fun g => by
    have q := Fl.left1_nums (n := n - x0.size) (o := (x1, x2, x3)) (by rw [hA]; exact g)
    rw [hA] at q
    omega
  simp only [hA] at zA
  simp only [hB] at zB
  have HL : Hid (left1 n (x0, (x1, x2, x3), (x4, x5, x6)) = if A < 0 then -1 else if B < 0 then -1 else B) := hL
  clear hA hB hL
  obtain ⟨W1, hW1⟩ : ∃ W, w.alloc (.cells #[.string x0, .string x1, .int .i64 x2, .string x3, .string x4, .int .i64 x5, .string x6] 65) = W := ⟨_, rfl⟩
  have b1 : Below w.heap.size w W1 := by rw [← hW1]; exact allocBelow _ _
  have zW : w.heap.size < W1.heap.size := by rw [← hW1]; simp
  have r1 : Rf W1 w.heap.size [.string x0, .string x1, .int .i64 x2, .string x3, .string x4, .int .i64 x5, .string x6] := by rw [← hW1]; exact Rf.new _ _ _
  have c0 := r1.at_ 0 _ rfl
  have c1 := r1.at_ 1 _ rfl
  have c2 := r1.at_ 2 _ rfl
  have c3 := r1.at_ 3 _ rfl
  have c4 := r1.at_ 4 _ rfl
  have c5 := r1.at_ 5 _ rfl
  have c6 := r1.at_ 6 _ rfl
  go_enter Tryd.func36, Tryd.ntmps36
  go_wp2_with fail
  refine (zA _).mono ?_; rintro e w2 ⟨rfl, b2⟩
  have r2 := r1.below zW b2
  have B2 := b1.trans (b2.mono (Nat.le_of_lt zW))
  clear zA b1 b2 r1 c0 c1 c2 c3 c4 c5 c6
  have c4 := r2.at_ 4 _ rfl
  have c5 := r2.at_ 5 _ rfl
  have c6 := r2.at_ 6 _ rfl
  clear r2
  by_cases hA : A < 0
  · have HC : Hid (left1 n (x0, (x1, x2, x3), (x4, x5, x6)) = -1) := by show _ = _; rw [HL.out, if_pos hA]
    clear HL zB bA
    go_wp2
    go_ret
    exact ⟨ret_int HC.out.symm, B2⟩
  have zB2 := fun W => zB W (by omega) (bA (by omega))
  go_wp2_with fail
  refine (zB2 _).mono ?_; rintro e w3 ⟨rfl, b3⟩
  have B3 := B2.trans (b3.mono B2.size)
  clear zB zB2 B2 b3 c4 c5 c6
  by_cases hB : B < 0
  · have HC : Hid (left1 n (x0, (x1, x2, x3), (x4, x5, x6)) = -1) := by show _ = _; rw [HL.out, if_neg (show ¬ A < 0 by omega), if_pos hB]
    clear HL
    go_wp2
    go_ret
    exact ⟨ret_int HC.out.symm, B3⟩
  · have HC : Hid (left1 n (x0, (x1, x2, x3), (x4, x5, x6)) = B) := by show _ = _; rw [HL.out, if_neg (show ¬ A < 0 by omega), if_neg hB]
    clear HL
    go_wp2
    go_ret
    exact ⟨ret_int HC.out.symm, B3⟩
set_option maxRecDepth 20000 in
set_option maxHeartbeats 2000000 in
theorem szDeltaS (a : Option Addr) (c : Nat) (l : List Ob) (n : Int) (w : World) (h : OB w.heap.size w a l) (hf : FitsO l) (hn : l.length ≤ 9223372036854775807) (h0 : 0 ≤ n) (h1 : n ≤ 1048576) :
    Calls Tryd.prog 14 #[.slice a l.length c, .int .i64 n] w fun e w' => e = .returned (.int .i64 (leftO n l)) ∧ Below w.heap.size w w' := by
  by_cases hneg : n - l.length < 0
  · have hC : Hid (leftO n l = -1) := if_pos hneg
    go_enter Tryd.func14, Tryd.ntmps14
    go_wp2
    go_ret
    exact ⟨ret_int hC.out.symm, Below.refl _ _⟩
  have HF : Hid (leftO n l = leftOF (n - l.length) l) := if_neg hneg
  obtain ⟨V, hV⟩ : ∃ V, leftO n l = V := ⟨_, rfl⟩
  rw [hV] at HF ⊢
  clear hV
  have hlen : l.length ≤ 1048576 := by omega
  go_enter Tryd.func14, Tryd.ntmps14
  go_wp2
  go_loopw [1, 5] (fun t i wr => ∃ (k : Nat) (m : Int), k ≤ l.length ∧ i = .int .i64 k ∧ t = .int .i64 m ∧ 0 ≤ m ∧ m ≤ 1048576 ∧ Hid (leftOF m (l.drop k) = leftOF (n - l.length) l) ∧ Below w.heap.size w wr) (fun _ i _ => l.length - (intOf i).toNat)
  case atStart => exact ⟨0, n - l.length, Nat.zero_le _, rfl, rfl, by omega, by omega, rfl, Below.refl _ _⟩
  case round =>
    obtain ⟨k, m, hk, rfl, rfl, hm0, hm1, hL, hbel⟩ := hrel
    have hsz := hbel.size
    by_cases hlt : k < l.length
    · have q : (k : Int) < (l.length : Int) := by omega
      obtain ⟨g, off, e, hg, d0, d1, d2, d3, d4, d5, d6⟩ := h.below hbel k hlt
      subst e
      have hdr := ob_drop l k hlt
      have hsl := hf _ (ob_mem l k hlt)
      obtain ⟨C, hCe⟩ : ∃ C, l.getD k onil = C := ⟨_, rfl⟩
      rw [hCe] at d0 d1 d2 d3 d4 d5 d6 hdr hsl
      rw [hdr] at hL
      have hZ := szDelta C m wr hsl hm0 hm1
      have hST : left1 m C < 0 → Hid (leftOF (n - l.length) l = -1) := fun h1 => by show _ = _; rw [← hL.out, leftOF_stop h1]
      have hGO : ¬ left1 m C < 0 → Hid (leftOF (left1 m C) (l.drop (k + 1)) = leftOF (n - l.length) l) := fun h1 => by show _ = _; rw [← hL.out, leftOF_go h1]
      have hbd : ¬ left1 m C < 0 → left1 m C ≤ 1048576 := fun h1 => by
        have := left1_nums h1; omega
      obtain ⟨M, hM⟩ : ∃ M, left1 m C = M := ⟨_, rfl⟩
      rw [hM] at hZ hST hGO hbd
      clear hL hCe hdr hM hsl
      by_cases hneg2 : M < 0
      · have hC := hST hneg2
        clear hST hGO hbd
        go_wp2_with fail
        refine hZ.mono ?_; rintro e w2 ⟨rfl, b2⟩
        have HB := below_step hbel hsz b2
        clear b2 hZ
        go_wp2
        go_ret
        exact ⟨ret_int (hC.out.symm.trans HF.out.symm), HB⟩
      · have hC := hGO hneg2
        have hM1 := hbd hneg2
        clear hST hGO hbd
        go_wp2_with fail
        refine hZ.mono ?_; rintro e w2 ⟨rfl, b2⟩
        have HB := below_step hbel hsz b2
        clear b2 hZ
        go_wp2
        go_roundw
        case rel => exact ⟨k + 1, M, by omega, by first | rfl | go_num, rfl, by omega, hM1, hC, HB⟩
        case measure => first | (simp [intOf]; omega) | simp [intOf]
    · have q : ¬ (k : Int) < (l.length : Int) := by omega
      have hC : Hid (leftOF (n - l.length) l = m) := by
        show _ = _
        rw [← hL.out, List.drop_of_length_le (by omega)]; rfl
      clear hL
      go_wp2
      go_ret
      exact ⟨ret_int (hC.out.symm.trans HF.out.symm), hbel⟩

set_option maxRecDepth 20000 in
set_option maxHeartbeats 8000000 in
theorem toDelta (x0 x1 : ByteArray) (x2 : Int) (x3 x4 : ByteArray) (x5 : Int) (x6 : ByteArray) (w : World) :
    Calls Tryd.prog 39 #[.agg #[.string x0, .string x1, .int .i64 x2, .string x3, .string x4, .int .i64 x5, .string x6]] w fun e w' => e = .returned (.agg #[.string x0, .string x1, .int .i64 x2, .string x3, .string x4, .int .i64 x5, .string x6]) ∧ Below w.heap.size w w' := by
  obtain ⟨W1, hW1⟩ : ∃ W, w.alloc (.cells #[.string x0, .string x1, .int .i64 x2, .string x3, .string x4, .int .i64 x5, .string x6] 65) = W := ⟨_, rfl⟩
  have z1 : W1.heap.size = w.heap.size + 1 := by rw [← hW1]; simp
  have r1 : Rf W1 w.heap.size [.string x0, .string x1, .int .i64 x2, .string x3, .string x4, .int .i64 x5, .string x6] := by rw [← hW1]; exact Rf.new _ _ _
  have b1 : Below w.heap.size w W1 := by rw [← hW1]; exact allocBelow _ _
  obtain ⟨W2, hW2⟩ : ∃ W, W1.alloc (.cells #[.string ⟨#[]⟩, .string ⟨#[]⟩, .int .i64 0, .string ⟨#[]⟩, .string ⟨#[]⟩, .int .i64 0, .string ⟨#[]⟩] 55) = W := ⟨_, rfl⟩
  have z2 : W2.heap.size = w.heap.size + 2 := by rw [← hW2, World.size_alloc, z1]
  have b2 : Below W1.heap.size W1 W2 := by rw [← hW2]; exact allocBelow _ _
  have r2 : Rf W2 (w.heap.size + 1) [.string ⟨#[]⟩, .string ⟨#[]⟩, .int .i64 0, .string ⟨#[]⟩, .string ⟨#[]⟩, .int .i64 0, .string ⟨#[]⟩] := by rw [← hW2, ← z1]; exact Rf.new _ _ _
  obtain ⟨W3, hW3⟩ : ∃ W, W2.alloc (.cells #[.string ⟨#[]⟩, .string ⟨#[]⟩, .int .i64 0, .string ⟨#[]⟩, .string ⟨#[]⟩, .int .i64 0, .string ⟨#[]⟩] 55) = W := ⟨_, rfl⟩
  have z3 : W3.heap.size = w.heap.size + 3 := by rw [← hW3, World.size_alloc, z2]
  have b3 : Below W2.heap.size W2 W3 := by rw [← hW3]; exact allocBelow _ _
  have r3 : Rf W3 (w.heap.size + 2) [.string ⟨#[]⟩, .string ⟨#[]⟩, .int .i64 0, .string ⟨#[]⟩, .string ⟨#[]⟩, .int .i64 0, .string ⟨#[]⟩] := by rw [← hW3, ← z2]; exact Rf.new _ _ _
  have rB := (r1.below (by omega) b2).below (by omega) b3
  have rA := r2.below (by omega) b3
  have B3 : Below w.heap.size w W3 := (b1.trans (b2.mono (by omega))).trans (b3.mono (by omega))
  have B4 : Below w.heap.size w (W3.setCell ⟨w.heap.size + 2, 0, none⟩ (.string x0)) := (B3.setCell (p := ⟨w.heap.size + 2, 0, none⟩) (by simp <;> omega) (.string x0))
  have rB4 := (rB.other (b' := w.heap.size + 2) (o := 0) (by omega) (.string x0))
  have rA4 := (rA.other (b' := w.heap.size + 2) (o := 0) (by omega) (.string x0))
  have r34 := (r3.set (o := 0) (by simp) (.string x0))
  have z4 : ((W3.setCell ⟨w.heap.size + 2, 0, none⟩ (.string x0))).heap.size = w.heap.size + 3 := by simp [z3]
  obtain ⟨W4, hW4⟩ : ∃ W, (W3.setCell ⟨w.heap.size + 2, 0, none⟩ (.string x0)) = W := ⟨_, rfl⟩
  rw [hW4] at B4 rB4 rA4 r34 z4
  have k0 := r3.at_ 0 _ rfl
  have k1 := r3.fz 0
  have k2 := rB.at_ 0 _ rfl
  have m1 := rB4.at_ 1 _ rfl
  have m2 := rB4.at_ 2 _ rfl
  have m3 := rB4.at_ 3 _ rfl
  clear r1 r2 r3 rB rA b1 b2 b3 B3
  go_enter Tryd.func39, Tryd.ntmps39
  go_wp2_with fail
  refine (Fl.toFile x1 x3 x2 _).mono ?_; rintro e w5 ⟨rfl, b5⟩
  have rB5 := rB4.below (by omega) b5
  have rA5 := rA4.below (by omega) b5
  have r35 := r34.below (by omega) b5
  have B5 := B4.trans (b5.mono (by omega))
  have z5 : w.heap.size + 3 ≤ w5.heap.size := by have := b5.size; omega
  clear rB4 rA4 r34 B4 b5 k0 k1 k2 m1 m2 m3 hW1 hW2 hW3 hW4
  have k1 := r35.at_ 1 _ rfl
  have k2 := r35.at_ 2 _ rfl
  have k3 := r35.at_ 3 _ rfl
  have f1 := r35.fz 1
  have f2 := r35.fz 2
  have f3 := r35.fz 3
  have B6 : Below w.heap.size w ((((w5.setCell ⟨w.heap.size + 2, 1, none⟩ (.string x1)).setCell ⟨w.heap.size + 2, 2, none⟩ (.int .i64 x2)).setCell ⟨w.heap.size + 2, 3, none⟩ (.string x3))) := (((B5.setCell (p := ⟨w.heap.size + 2, 1, none⟩) (by simp <;> omega) (.string x1)).setCell (p := ⟨w.heap.size + 2, 2, none⟩) (by simp <;> omega) (.int .i64 x2)).setCell (p := ⟨w.heap.size + 2, 3, none⟩) (by simp <;> omega) (.string x3))
  have rB6 := (((rB5.other (b' := w.heap.size + 2) (o := 1) (by omega) (.string x1)).other (b' := w.heap.size + 2) (o := 2) (by omega) (.int .i64 x2)).other (b' := w.heap.size + 2) (o := 3) (by omega) (.string x3))
  have rA6 := (((rA5.other (b' := w.heap.size + 2) (o := 1) (by omega) (.string x1)).other (b' := w.heap.size + 2) (o := 2) (by omega) (.int .i64 x2)).other (b' := w.heap.size + 2) (o := 3) (by omega) (.string x3))
  have r36 := (((r35.set (o := 1) (by simp) (.string x1)).set (o := 2) (by simp) (.int .i64 x2)).set (o := 3) (by simp) (.string x3))
  have z6 : w.heap.size + 3 ≤ ((((w5.setCell ⟨w.heap.size + 2, 1, none⟩ (.string x1)).setCell ⟨w.heap.size + 2, 2, none⟩ (.int .i64 x2)).setCell ⟨w.heap.size + 2, 3, none⟩ (.string x3))).heap.size := by simp only [World.size_setCell]; exact z5
  obtain ⟨W6, hW6⟩ : ∃ W, (((w5.setCell ⟨w.heap.size + 2, 1, none⟩ (.string x1)).setCell ⟨w.heap.size + 2, 2, none⟩ (.int .i64 x2)).setCell ⟨w.heap.size + 2, 3, none⟩ (.string x3)) = W := ⟨_, rfl⟩
  rw [hW6] at B6 rB6 rA6 r36 z6
  have m4 := rB6.at_ 4 _ rfl
  have m5 := rB6.at_ 5 _ rfl
  have m6 := rB6.at_ 6 _ rfl
  clear rB5 rA5 r35 B5
  go_wp2_with fail
  refine (Fl.toFile x4 x6 x5 _).mono ?_; rintro e w7 ⟨rfl, b7⟩
  have rA7 := rA6.below (by omega) b7
  have r37 := r36.below (by omega) b7
  have B7 := B6.trans (b7.mono (by omega))
  have z7 : w.heap.size + 3 ≤ w7.heap.size := by have := b7.size; omega
  clear rB6 rA6 r36 B6 b7 k1 k2 k3 f1 f2 f3 m4 m5 m6 hW6
  have k4 := r37.at_ 4 _ rfl
  have k5 := r37.at_ 5 _ rfl
  have k6 := r37.at_ 6 _ rfl
  have f4 := r37.fz 4
  have f5 := r37.fz 5
  have f6 := r37.fz 6
  have B8 : Below w.heap.size w ((((w7.setCell ⟨w.heap.size + 2, 4, none⟩ (.string x4)).setCell ⟨w.heap.size + 2, 5, none⟩ (.int .i64 x5)).setCell ⟨w.heap.size + 2, 6, none⟩ (.string x6))) := (((B7.setCell (p := ⟨w.heap.size + 2, 4, none⟩) (by simp <;> omega) (.string x4)).setCell (p := ⟨w.heap.size + 2, 5, none⟩) (by simp <;> omega) (.int .i64 x5)).setCell (p := ⟨w.heap.size + 2, 6, none⟩) (by simp <;> omega) (.string x6))
  have rA8 := (((rA7.other (b' := w.heap.size + 2) (o := 4) (by omega) (.string x4)).other (b' := w.heap.size + 2) (o := 5) (by omega) (.int .i64 x5)).other (b' := w.heap.size + 2) (o := 6) (by omega) (.string x6))
  have r38 := (((r37.set (o := 4) (by simp) (.string x4)).set (o := 5) (by simp) (.int .i64 x5)).set (o := 6) (by simp) (.string x6))
  obtain ⟨W8, hW8⟩ : ∃ W, (((w7.setCell ⟨w.heap.size + 2, 4, none⟩ (.string x4)).setCell ⟨w.heap.size + 2, 5, none⟩ (.int .i64 x5)).setCell ⟨w.heap.size + 2, 6, none⟩ (.string x6)) = W := ⟨_, rfl⟩
  rw [hW8] at B8 rA8 r38
  have l0 := r38.at_ 0 _ rfl
  have n0 := rA8.at_ 0 _ rfl
  have g0 := rA8.fz 0
  have l1 := r38.at_ 1 _ rfl
  have n1 := rA8.at_ 1 _ rfl
  have g1 := rA8.fz 1
  have l2 := r38.at_ 2 _ rfl
  have n2 := rA8.at_ 2 _ rfl
  have g2 := rA8.fz 2
  have l3 := r38.at_ 3 _ rfl
  have n3 := rA8.at_ 3 _ rfl
  have g3 := rA8.fz 3
  have l4 := r38.at_ 4 _ rfl
  have n4 := rA8.at_ 4 _ rfl
  have g4 := rA8.fz 4
  have l5 := r38.at_ 5 _ rfl
  have n5 := rA8.at_ 5 _ rfl
  have g5 := rA8.fz 5
  have l6 := r38.at_ 6 _ rfl
  have n6 := rA8.at_ 6 _ rfl
  have g6 := rA8.fz 6
  have BV : Below w.heap.size w ((((((((W8.setCell ⟨w.heap.size + 1, 0, none⟩ (.string x0)).setCell ⟨w.heap.size + 1, 1, none⟩ (.string x1)).setCell ⟨w.heap.size + 1, 2, none⟩ (.int .i64 x2)).setCell ⟨w.heap.size + 1, 3, none⟩ (.string x3)).setCell ⟨w.heap.size + 1, 4, none⟩ (.string x4)).setCell ⟨w.heap.size + 1, 5, none⟩ (.int .i64 x5)).setCell ⟨w.heap.size + 1, 6, none⟩ (.string x6))) := (((((((B8.setCell (p := ⟨w.heap.size + 1, 0, none⟩) (by simp <;> omega) (.string x0)).setCell (p := ⟨w.heap.size + 1, 1, none⟩) (by simp <;> omega) (.string x1)).setCell (p := ⟨w.heap.size + 1, 2, none⟩) (by simp <;> omega) (.int .i64 x2)).setCell (p := ⟨w.heap.size + 1, 3, none⟩) (by simp <;> omega) (.string x3)).setCell (p := ⟨w.heap.size + 1, 4, none⟩) (by simp <;> omega) (.string x4)).setCell (p := ⟨w.heap.size + 1, 5, none⟩) (by simp <;> omega) (.int .i64 x5)).setCell (p := ⟨w.heap.size + 1, 6, none⟩) (by simp <;> omega) (.string x6))
  have RV := (((((((rA8.set (o := 0) (by simp) (.string x0)).set (o := 1) (by simp) (.string x1)).set (o := 2) (by simp) (.int .i64 x2)).set (o := 3) (by simp) (.string x3)).set (o := 4) (by simp) (.string x4)).set (o := 5) (by simp) (.int .i64 x5)).set (o := 6) (by simp) (.string x6))
  obtain ⟨V, hV⟩ : ∃ V, (((((((W8.setCell ⟨w.heap.size + 1, 0, none⟩ (.string x0)).setCell ⟨w.heap.size + 1, 1, none⟩ (.string x1)).setCell ⟨w.heap.size + 1, 2, none⟩ (.int .i64 x2)).setCell ⟨w.heap.size + 1, 3, none⟩ (.string x3)).setCell ⟨w.heap.size + 1, 4, none⟩ (.string x4)).setCell ⟨w.heap.size + 1, 5, none⟩ (.int .i64 x5)).setCell ⟨w.heap.size + 1, 6, none⟩ (.string x6)) = V := ⟨_, rfl⟩
  rw [hV] at BV RV
  have v0 := RV.at_ 0 _ rfl
  have v1 := RV.at_ 1 _ rfl
  have v2 := RV.at_ 2 _ rfl
  have v3 := RV.at_ 3 _ rfl
  have v4 := RV.at_ 4 _ rfl
  have v5 := RV.at_ 5 _ rfl
  have v6 := RV.at_ 6 _ rfl
  have HV : Hid (_ = V) := hV
  clear hV RV rA8 r38 B8 B7 rA7 r37
  go_wp2
  rw [HV.out]
  refine bodyPost_ret (v := .agg #[.string x0, .string x1, .int .i64 x2, .string x3, .string x4, .int .i64 x5, .string x6]) (by simp [results, Tryd.results39, go_sem, v0, v1, v2, v3, v4, v5, v6]) rfl ⟨rfl, BV⟩
set_option maxRecDepth 20000 in
set_option maxHeartbeats 8000000 in
theorem toDeltaS (a : Option Addr) (c : Nat) (l : List Ob) (w : World) (h : OB w.heap.size w a l) (hn : l.length ≤ 1048576) :
    Calls Tryd.prog 16 #[.slice a l.length c] w fun e w' => e = .returned (.slice (some ⟨w.heap.size, 0, none⟩) l.length l.length) ∧
      w'.ownsRow w.heap.size 55 7 (.slice (some ⟨w.heap.size, 0, none⟩) l.length l.length) l.length (ocells l) ∧ Below w.heap.size w w' := by
  obtain ⟨i0, hi, hz0, hz1, hz2⟩ := info_parts infoObj
  go_enter Tryd.func16, Tryd.ntmps16
  go_wp2_with (first | (at_make; refine wpList_make_full _ rfl (.tmp 6) (.tmp 6) 24 rfl w.heap.size 55 i0 (.agg #[.string ⟨#[]⟩, .string ⟨#[]⟩, .int .i64 0, .string ⟨#[]⟩, .string ⟨#[]⟩, .int .i64 0, .string ⟨#[]⟩]) 7 Tryd.underlying24 hi hz0 hz1 .i64 .i64 _ _ l.length rfl rfl (by omega) (by omega) (by rw [hz2]; omega) (by unfold maxLen; omega) (Nat.le_refl _) ?_; intro w1 hown1 hg1))
  have hown : w1.ownsRow w.heap.size 55 7 (.slice (some ⟨w.heap.size, 0, none⟩) l.length l.length) l.length (rowG (mixO l 0) (l.length * 7)) := by
    rw [← mixO_zero]
    exact hown1
  have hbel : Below w.heap.size w w1 := (Below.refl _ _).grown hg1 (Nat.le_refl _) (by intro k h; cases h)
  clear hown1 hg1
  go_loopw [4] (fun i wr => ∃ (k : Nat), k ≤ l.length ∧ i = .int .i64 k ∧ wr.ownsRow w.heap.size 55 7 (.slice (some ⟨w.heap.size, 0, none⟩) l.length l.length) l.length (rowG (mixO l k) (l.length * 7)) ∧ Below w.heap.size w wr) (fun i _ => l.length - (intOf i).toNat)
  case atStart => exact ⟨0, Nat.zero_le _, rfl, hown, hbel⟩
  case round =>
    clear hown hbel
    obtain ⟨k, hk, rfl, howr, hbr⟩ := hrel
    have hsz := hbr.size
    by_cases hlt : k < l.length
    · have q : (k : Int) < (l.length : Int) := by omega
      obtain ⟨g, off, e, hg, d0, d1, d2, d3, d4, d5, d6⟩ := h.below hbr k hlt
      subst e
      have hset := mixO_set l k (l.length * 7)
      obtain ⟨C, hCe⟩ : ∃ C, l.getD k onil = C := ⟨_, rfl⟩
      obtain ⟨x0, ⟨x1, x2, x3⟩, ⟨x4, x5, x6⟩⟩ := C
      rw [hCe] at d0 d1 d2 d3 d4 d5 d6 hset
      simp only [] at d0 d1 d2 d3 d4 d5 d6 hset
      clear hCe
      go_wp2_with fail
      refine (toDelta x0 x1 x2 x3 x4 x5 x6 _).mono ?_; rintro e w2 ⟨rfl, b2⟩
      have ho2 := howr.kept (grownOfBelow b2 none) (.inr (by simp [Value.ownBlock]))
      have hb2 : Below w.heap.size w w2 := below_step hbr hsz b2
      have hlen : (rowG (mixO l k) (l.length * 7)).length = l.length * 7 := ho2.1
      have hcell : ∀ j, j < 7 → ∃ u, w2.cell? ⟨w.heap.size, k * 7 + j, none⟩ = some u := fun j hj => by
        rw [ho2.cellAt (k * 7 + j) (by omega), List.getElem?_eq_getElem (by omega)]; exact ⟨_, rfl⟩
      obtain ⟨u0, e0⟩ := hcell 0 (by omega)
      obtain ⟨u1, e1⟩ := hcell 1 (by omega)
      obtain ⟨u2, e2⟩ := hcell 2 (by omega)
      obtain ⟨u3, e3⟩ := hcell 3 (by omega)
      obtain ⟨u4, e4⟩ := hcell 4 (by omega)
      obtain ⟨u5, e5⟩ := hcell 5 (by omega)
      obtain ⟨u6, e6⟩ := hcell 6 (by omega)
      rw [Nat.add_zero] at e0
      have f0 := ho2.frozenAt (k * 7)
      have f1 := ho2.frozenAt (k * 7 + 1)
      have f2 := ho2.frozenAt (k * 7 + 2)
      have f3 := ho2.frozenAt (k * 7 + 3)
      have f4 := ho2.frozenAt (k * 7 + 4)
      have f5 := ho2.frozenAt (k * 7 + 5)
      have f6 := ho2.frozenAt (k * 7 + 6)
      have s0 := ho2.stored (k * 7) (.string x0)
      have s1 := s0.1.stored (k * 7 + 1) (.string x1)
      have s2 := s1.1.stored (k * 7 + 2) (.int .i64 x2)
      have s3 := s2.1.stored (k * 7 + 3) (.string x3)
      have s4 := s3.1.stored (k * 7 + 4) (.string x4)
      have s5 := s4.1.stored (k * 7 + 5) (.int .i64 x5)
      have s6 := s5.1.stored (k * 7 + 6) (.string x6)
      have hs3 := s6.1
      rw [hset] at hs3
      have HS : Hid (World.ownsRow _ _ _ _ _ _ _) := hs3
      have HB : Hid (Below w.heap.size w (((((((w2.setCell ⟨w.heap.size, k * 7, none⟩ (.string x0)).setCell ⟨w.heap.size, k * 7 + 1, none⟩ (.string x1)).setCell ⟨w.heap.size, k * 7 + 2, none⟩ (.int .i64 x2)).setCell ⟨w.heap.size, k * 7 + 3, none⟩ (.string x3)).setCell ⟨w.heap.size, k * 7 + 4, none⟩ (.string x4)).setCell ⟨w.heap.size, k * 7 + 5, none⟩ (.int .i64 x5)).setCell ⟨w.heap.size, k * 7 + 6, none⟩ (.string x6))) :=
        (((((((hb2.setCell (p := ⟨w.heap.size, k * 7, none⟩) (Nat.le_refl _) (.string x0)).setCell (p := ⟨w.heap.size, k * 7 + 1, none⟩) (Nat.le_refl _) (.string x1)).setCell (p := ⟨w.heap.size, k * 7 + 2, none⟩) (Nat.le_refl _) (.int .i64 x2)).setCell (p := ⟨w.heap.size, k * 7 + 3, none⟩) (Nat.le_refl _) (.string x3)).setCell (p := ⟨w.heap.size, k * 7 + 4, none⟩) (Nat.le_refl _) (.string x4)).setCell (p := ⟨w.heap.size, k * 7 + 5, none⟩) (Nat.le_refl _) (.int .i64 x5)).setCell (p := ⟨w.heap.size, k * 7 + 6, none⟩) (Nat.le_refl _) (.string x6))
      clear s0 s1 s2 s3 s4 s5 s6 hs3 hset hb2 ho2 howr hbr b2 hcell hlen d0 d1 d2 d3 d4 d5 d6
      go_wp2
      go_roundw
      case rel => exact ⟨k + 1, by omega, by go_num, HS.out, HB.out⟩
      case measure => first | (simp [intOf]; omega) | simp [intOf]
    · have q : ¬ (k : Int) < (l.length : Int) := by omega
      obtain rfl : k = l.length := by omega
      rw [mixO_full] at howr
      go_wp2
      go_ret
      exact ⟨rfl, howr, hbr⟩

end Go.Proofs.YtaggjnaogmhfpaaDoor.Dl
