/- The contract of impl.HunksFault. No statement is proved here. -/
import Derived.Test.YtnkbjbbaoddfkaaGreatDoorRows
import Derived.Test.YtnkbjbbaoddfkaaGreatDoorLemQ
import Derived.Test.YtnkbjbbaoddfkaaGreatDoorLFLemQ
import Derived.Test.YtnkbjbbaoddfkaaGreatDoorHkTQ
import Derived.Test.YtnkbjbbaoddfkaaGreatDoorDTabQ
import Derived.Test.YtnkbjbbaoddfkaaGreatDoorHkLQ
import Derived.Test.YtnkbjbbaoddfkaaGreatDoorHkCQ
import Derived.Test.YtnkbjbbaoddfkaaGreatDoorHfCQ
import Derived.WalkKit
import Derived.ProofKit
import Derived.Below
import Derived.WalkSpells
import Derived.Deep.QuietTactic
import Derived.BigQuiet
namespace Go.Proofs.YtnkbjbbaoddfkaaGreatDoor
open Go.ChangeShapes Go.WideShapes Go.ChangeAt Go.RowKit

theorem szOwn {w : World} {base : Nat} {v : Value} {x y : Int} (h : w.ownsRow base 2 1 v 2 (intCells [x, y])) : ∃ g c, v = .slice (some ⟨g, 0, none⟩) 2 c ∧ w.cell? ⟨g, 0, none⟩ = some (.int .i64 x) ∧ w.cell? ⟨g, 1, none⟩ = some (.int .i64 y) ∧ g < w.heap.size := by
  rcases h.2 with ⟨_, h0⟩ | ⟨g, cap, cur, rfl, _, hh, _⟩
  · omega
  · exact ⟨g, cap, rfl, by rw [h.cellAt 0 (by omega)]; rfl, by rw [h.cellAt 1 (by omega)]; rfl, (Array.getElem?_eq_some_iff.1 hh).1⟩

set_option maxRecDepth 20000 in
set_option maxHeartbeats 4000000 in
theorem implHunksFault (a : Option Addr) (c : Nat) (l : List Hk) (w : World) (h : HB w.heap.size w a l) (hn : l.length ≤ 1048576) (hs : Shortly l) :
    Calls Tryz.prog 19 #[.slice a l.length c] w fun e w' => e = .returned (.int .i64 (hf l)) ∧ Below w.heap.size w w' := by
  by_cases hbig : 100 < (l.length : Int)
  · have hC : Hid (hf l = 2) := if_pos hbig
    go_enter Tryz.func19, Tryz.ntmps19
    go_wp2
    go_ret
    exact ⟨ret_int hC.out.symm, Below.refl _ _⟩
  have HF : Hid (hf l = hfF l 0 0) := if_neg hbig
  obtain ⟨V, hV⟩ : ∃ V, hf l = V := ⟨_, rfl⟩
  rw [hV] at HF ⊢
  clear hV
  go_enter Tryz.func19, Tryz.ntmps19
  go_wp2
  go_loopw [3, 4, 13] (fun p q i wr => ∃ (k : Nat) (ea eb : Int), k ≤ l.length ∧ i = .int .i64 k ∧ p = .int .i64 ea ∧ q = .int .i64 eb ∧ 0 ≤ ea ∧ ea ≤ 300 ∧ 0 ≤ eb ∧ eb ≤ 300 ∧ Hid (hfF (l.drop k) ea eb = hfF l 0 0) ∧ Below w.heap.size w wr) (fun _ _ i _ => l.length - (intOf i).toNat)
  case atStart => exact ⟨0, 0, 0, Nat.zero_le _, rfl, rfl, rfl, by omega, by omega, by omega, by omega, rfl, Below.refl _ _⟩
  case round =>
    obtain ⟨k, ea, eb, hk, rfl, rfl, rfl, hea0, hea1, heb0, heb1, hL, hbel⟩ := hrel
    have hsz := hbel.size
    by_cases hlt : k < l.length
    · have q : (k : Int) < (l.length : Int) := by omega
      obtain ⟨g, off, ak, ck, e, hg, d0, d1, d2, hSB⟩ := h.below hbel k hlt
      subst e
      have hdr := hk_drop l k hlt
      have hsl : (l.getD k (0, 0, [])).2.2.length ≤ 1048576 := hs _ (by rw [List.getD, List.getElem?_eq_getElem hlt]; exact List.getElem_mem hlt)
      obtain ⟨C, hCe⟩ : ∃ C, l.getD k (0, 0, []) = C := ⟨_, rfl⟩
      obtain ⟨x0, x1, ss⟩ := C
      rw [hCe] at d0 d1 d2 hSB hdr hsl
      simp only [] at d0 d1 d2 hSB hsl
      rw [hdr] at hL
      have hST : ∀ cc, hkC ea eb (x0, x1, ss) = cc → ¬ cc = 0 → Hid (hfF l 0 0 = cc) := fun cc h1 h2 => by show _ = _; rw [← hL.out, hfF_stop h1 h2]
      have hGO : hkC ea eb (x0, x1, ss) = 0 → Hid (hfF (l.drop (k + 1)) (x0 + oldN ss) (x1 + newN ss) = hfF l 0 0) := fun h1 => by show _ = _; rw [← hL.out, hfF_go h1]
      clear hL hCe hdr
      obtain ⟨W, hW⟩ : ∃ W, wr.alloc (.cells #[.int .i64 x0, .int .i64 x1, .slice ak ss.length ck] 35) = W := ⟨_, rfl⟩
      have hR : Rs W wr.heap.size [.int .i64 x0, .int .i64 x1, .slice ak ss.length ck] := by rw [← hW]; exact Rs.new _ _ _
      have bW : Below wr.heap.size wr W := by rw [← hW]; exact allocBelow _ _
      have zW : wr.heap.size < W.heap.size := by rw [← hW]; simp
      have hBW := below_step hbel hsz bW
      have hSW : SS W ak ss := ((hSB.below bW).mono (show w.heap.size ≤ W.heap.size by omega)).toSS (Nat.le_refl _)
      have r0 := hR 0 _ rfl
      have r1 := hR 1 _ rfl
      have r2 := hR 2 _ rfl
      have bo := oldN_bd ss
      have bn := newN_bd ss
      clear hSB
      by_cases c1 : 200 < (ss.length : Int)
      · have hC := (hST 2 (hkC_many c1) (by decide))
        clear hST hGO hSW hR bW
        go_wp2
        go_ret
        exact ⟨ret_int (hC.out.symm.trans HF.out.symm), hBW⟩
      have C1 : Hid ((ss.length : Int) ≤ 200) := Int.not_lt.1 c1
      have hZ := implSizesOf x0 x1 ak ck ss W hSW hsl
      cases c2 : ss.all okH with
      | false =>
        have hC := (hST 1 (hkC_line c1 c2) (by decide))
        rw [szC_no c2, szV_no c2] at hZ
        clear hST hGO hSW hR bW
        go_wp2_with fail
        refine hZ.mono ?_; rintro e w2 ⟨v, rfl, o2, b2⟩
        obtain ⟨ya, yc, ey⟩ : ∃ ya yc, v = .slice ya 0 yc := shapeS o2
        subst ey
        have hB2 := below_step hBW (by omega) b2
        obtain ⟨W3, hW3⟩ : ∃ W, w2.alloc (.cells #[.int .i64 1, .slice ya 0 yc] 39) = W := ⟨_, rfl⟩
        have hR3 : Rs W3 w2.heap.size [.int .i64 1, .slice ya 0 yc] := by rw [← hW3]; exact Rs.new _ _ _
        have hB3 := below_step hB2 hB2.size (show Below w2.heap.size w2 W3 by rw [← hW3]; exact allocBelow _ _)
        have s0 := hR3 0 _ rfl
        clear o2 b2 hZ hR3
        go_wp2
        go_ret
        exact ⟨ret_int (hC.out.symm.trans HF.out.symm), hB3⟩
      | true =>
      rw [szC_ok c2, szV_ok c2] at hZ
      go_wp2_with fail
      refine hZ.mono ?_; rintro e w2 ⟨v, rfl, o2, b2⟩
      obtain ⟨gv, cv, rfl, v0, v1, hgv⟩ := szOwn o2
      have hB2 := below_step hBW (by omega) b2
      obtain ⟨W3, hW3⟩ : ∃ W, w2.alloc (.cells #[.int .i64 0, .slice (some ⟨gv, 0, none⟩) 2 cv] 39) = W := ⟨_, rfl⟩
      have hR3 : Rs W3 w2.heap.size [.int .i64 0, .slice (some ⟨gv, 0, none⟩) 2 cv] := by rw [← hW3]; exact Rs.new _ _ _
      have b3 : Below w2.heap.size w2 W3 := by rw [← hW3]; exact allocBelow _ _
      have hB3 := below_step hB2 hB2.size b3
      have F3 : Fr 0 0 w2 W3 := Fr.ofBelow b3
      have F2 : Fr 0 0 W w2 := Fr.ofBelow b2
      have s0 := hR3 0 _ rfl
      have s1 := hR3 1 _ rfl
      have t0 := F3.cell v0 (.inr (Nat.zero_le _))
      have t1 := F3.cell v1 (.inr (Nat.zero_le _))
      have y0 := F3.cell (F2.cell r0 (.inr (Nat.zero_le _))) (.inr (Nat.zero_le _))
      have y1 := F3.cell (F2.cell r1 (.inr (Nat.zero_le _))) (.inr (Nat.zero_le _))
      have y2 := F3.cell (F2.cell r2 (.inr (Nat.zero_le _))) (.inr (Nat.zero_le _))
      have hS3 : SS W3 ak ss := (hSW.below b2).below b3
      have hCF := containsFunc ak ck ss W3 hS3 hsl c2
      clear hZ o2 b2 b3 F2 F3 hR3 hR v0 v1 r0 r1 r2 hSW hB2 hBW bW hS3
      cases c3 : anyCh ss with
      | false =>
        have hC := (hST 1 (hkC_none (Int.not_lt.2 C1.out) c2 c3) (by decide))
        rw [c3] at hCF
        clear hST hGO
        go_wp2_with fail
        refine hCF.mono ?_; rintro e w4 ⟨rfl, rfl⟩
        go_wp2
        go_ret
        exact ⟨ret_int (hC.out.symm.trans HF.out.symm), hB3⟩
      | true =>
      rw [c3] at hCF
      go_wp2_with fail
      refine hCF.mono ?_; rintro e w4 ⟨rfl, rfl⟩
      clear hCF
      have I0 := fun w => isPlace x0 w
      have I1 := fun w => isPlace x1 w
      cases c4 : inB x0 0 100 with
      | false =>
        have hC := (hST 3 (hkC_range (Int.not_lt.2 C1.out) c2 c3 (by rw [show inB (x0, x1, ss).1 0 100 = false from c4]; rfl)) (by decide))
        rw [c4] at I0
        clear hST hGO
        go_wp2_with fail
        refine (I0 _).mono ?_; rintro e w5 ⟨rfl, rfl⟩
        go_wp2
        go_ret
        exact ⟨ret_int (hC.out.symm.trans HF.out.symm), hB3⟩
      | true =>
      rw [c4] at I0
      go_wp2_with fail
      refine (I0 _).mono ?_; rintro e w5 ⟨rfl, rfl⟩
      cases c5 : inB x1 0 100 with
      | false =>
        have hC := (hST 3 (hkC_range (Int.not_lt.2 C1.out) c2 c3 (by rw [show inB (x0, x1, ss).1 0 100 = true from c4, show inB (x0, x1, ss).2.1 0 100 = false from c5]; rfl)) (by decide))
        rw [c5] at I1
        clear hST hGO
        go_wp2_with fail
        refine (I1 _).mono ?_; rintro e w6 ⟨rfl, rfl⟩
        go_wp2
        go_ret
        exact ⟨ret_int (hC.out.symm.trans HF.out.symm), hB3⟩
      | true =>
      rw [c5] at I1
      go_wp2_with fail
      refine (I1 _).mono ?_; rintro e w6 ⟨rfl, rfl⟩
      have u0 := inB_bd c4
      have u1 := inB_bd c5
      have c45 : (inB (x0, x1, ss).1 0 100 && inB (x0, x1, ss).2.1 0 100) = true := by rw [show inB (x0, x1, ss).1 0 100 = true from c4, show inB (x0, x1, ss).2.1 0 100 = true from c5]; rfl
      have hFM := fun h5 => hST 1 (hkC_form (Int.not_lt.2 C1.out) c2 c3 c45 h5) (by decide)
      have hOK := fun h5 => hGO (hkC_ok (Int.not_lt.2 C1.out) c2 c3 c45 h5)
      clear hST hGO I0 I1
      obtain ⟨u00, u01⟩ := u0
      obtain ⟨u10, u11⟩ := u1
      by_cases c6 : x0 < ea
      · have hC := hFM (.inl c6)
        clear hFM hOK
        go_wp2
        go_ret
        exact ⟨ret_int (hC.out.symm.trans HF.out.symm), hB3⟩
      by_cases c7 : x0 - ea = x1 - eb
      · have hC := hOK (by simp only []; omega)
        have c7' : (x0 - ea != x1 - eb) = false := by simp [c7]
        obtain ⟨A, hA⟩ : ∃ A, oldN ss = A := ⟨_, rfl⟩
        obtain ⟨D, hD⟩ : ∃ D, newN ss = D := ⟨_, rfl⟩
        rw [hA] at t0 hC bo
        rw [hD] at t1 hC bn
        have bA : 0 ≤ x0 + A ∧ x0 + A ≤ 300 := by omega
        have bD : 0 ≤ x1 + D ∧ x1 + D ≤ 300 := by omega
        obtain ⟨bA0, bA1⟩ := bA
        obtain ⟨bD0, bD1⟩ := bD
        obtain ⟨bo0, bo1⟩ := bo
        obtain ⟨bn0, bn1⟩ := bn
        clear hFM hOK hA hD c7
        go_wp2
        go_quiet (fail)
        go_wp2
        go_roundw
        case rel => exact ⟨k + 1, x0 + A, x1 + D, by omega, by first | rfl | go_num, rfl, rfl, bA0, bA1, bD0, bD1, hC, below_drewN' hB3 _⟩
        case measure => first | (simp [intOf]; omega) | simp [intOf]
      · have hC := hFM (.inr c7)
        have c7' : (x0 - ea != x1 - eb) = true := by simp [c7]
        clear hFM hOK c7
        go_wp2
        go_ret
        exact ⟨ret_int (hC.out.symm.trans HF.out.symm), hB3⟩
    · have q : ¬ (k : Int) < (l.length : Int) := by omega
      have hC : Hid (hfF l 0 0 = 0) := by
        show _ = _
        rw [← hL.out, List.drop_of_length_le (by omega)]; rfl
      clear hL
      go_wp2
      go_ret
      exact ⟨ret_int (hC.out.symm.trans HF.out.symm), hbel⟩
end Go.Proofs.YtnkbjbbaoddfkaaGreatDoor
/- The contract of spec.HunksFault. No statement is proved here. -/
namespace Go.Proofs.YtnkbjbbaoddfkaaGreatDoor
open Go.ChangeShapes Go.WideShapes Go.ChangeAt Go.RowKit

set_option maxRecDepth 20000 in
set_option maxHeartbeats 4000000 in
theorem l3Fault (a : Option Addr) (c : Nat) (l : List Hk) (w : World) (h : HB w.heap.size w a l) (hn : l.length ≤ 100) (hs : Shortly l) :
    Calls Tryz.prog 43 #[.slice a l.length c] w fun e w' => e = .returned (.int .i64 (hfF l 0 0)) ∧ Below w.heap.size w w' := by
  obtain ⟨V, hV⟩ : ∃ V, hfF l 0 0 = V := ⟨_, rfl⟩
  have HF : Hid (hfF l 0 0 = V) := hV
  rw [hV]
  clear hV
  go_enter Tryz.func43, Tryz.ntmps43
  go_wp2
  go_loopw [3, 4, 5] (fun p q i wr => ∃ (k : Nat) (ea eb : Int), k ≤ l.length ∧ i = .int .i64 k ∧ p = .int .i64 ea ∧ q = .int .i64 eb ∧ 0 ≤ ea ∧ ea ≤ 300 ∧ 0 ≤ eb ∧ eb ≤ 300 ∧ Hid (hfF (l.drop k) ea eb = hfF l 0 0) ∧ Below w.heap.size w wr) (fun _ _ i _ => l.length - (intOf i).toNat)
  case atStart => exact ⟨0, 0, 0, Nat.zero_le _, rfl, rfl, rfl, by omega, by omega, by omega, by omega, rfl, Below.refl _ _⟩
  case round =>
    obtain ⟨k, ea, eb, hk, rfl, rfl, rfl, hea0, hea1, heb0, heb1, hL, hbel⟩ := hrel
    have hsz := hbel.size
    by_cases hlt : k < l.length
    · have q : (k : Int) < (l.length : Int) := by omega
      obtain ⟨g, off, ak, ck, e, hg, d0, d1, d2, hSB⟩ := h.below hbel k hlt
      subst e
      have hdr := hk_drop l k hlt
      have hsl : (l.getD k (0, 0, [])).2.2.length ≤ 1048576 := hs _ (by rw [List.getD, List.getElem?_eq_getElem hlt]; exact List.getElem_mem hlt)
      obtain ⟨C, hCe⟩ : ∃ C, l.getD k (0, 0, []) = C := ⟨_, rfl⟩
      obtain ⟨x0, x1, ss⟩ := C
      rw [hCe] at d0 d1 d2 hSB hdr hsl
      simp only [] at d0 d1 d2 hSB hsl
      rw [hdr] at hL
      have hST : ∀ cc, hkC ea eb (x0, x1, ss) = cc → ¬ cc = 0 → Hid (hfF l 0 0 = cc) := fun cc h1 h2 => by show _ = _; rw [← hL.out, hfF_stop h1 h2]
      have hGO : hkC ea eb (x0, x1, ss) = 0 → Hid (hfF (l.drop (k + 1)) (x0 + oldN ss) (x1 + newN ss) = hfF l 0 0) := fun h1 => by show _ = _; rw [← hL.out, hfF_go h1]
      clear hL hCe hdr
      obtain ⟨W, hW⟩ : ∃ W, wr.alloc (.cells #[.int .i64 x0, .int .i64 x1, .slice ak ss.length ck] 35) = W := ⟨_, rfl⟩
      have hR : Rs W wr.heap.size [.int .i64 x0, .int .i64 x1, .slice ak ss.length ck] := by rw [← hW]; exact Rs.new _ _ _
      have bW : Below wr.heap.size wr W := by rw [← hW]; exact allocBelow _ _
      have zW : wr.heap.size < W.heap.size := by rw [← hW]; simp
      have hBW := below_step hbel hsz bW
      have hSW : SS W ak ss := ((hSB.below bW).mono (show w.heap.size ≤ W.heap.size by omega)).toSS (Nat.le_refl _)
      have r0 := hR 0 _ rfl
      have r1 := hR 1 _ rfl
      have r2 := hR 2 _ rfl
      have bo := oldN_bd ss
      have bn := newN_bd ss
      clear hSB
      by_cases c1 : 200 < (ss.length : Int)
      · have hC := (hST 2 (hkC_many c1) (by decide))
        clear hST hGO hSW hR bW
        go_wp2
        go_ret
        exact ⟨ret_int (hC.out.symm.trans HF.out), hBW⟩
      have C1 : Hid ((ss.length : Int) ≤ 200) := Int.not_lt.1 c1
      have hZ := l3Lines x0 x1 ak ck ss W hSW hsl
      cases c2 : ss.all okH with
      | false =>
        have hC := (hST 1 (hkC_line c1 c2) (by decide))
        rw [szC_no c2] at hZ
        clear hST hGO hSW hR bW
        go_wp2_with fail
        refine hZ.mono ?_; rintro e w2 ⟨rfl, b2⟩
        have hB2 := below_step hBW (by omega) b2
        clear b2 hZ
        go_wp2
        go_ret
        exact ⟨ret_int (hC.out.symm.trans HF.out), hB2⟩
      | true =>
      rw [szC_ok c2] at hZ
      go_wp2_with fail
      refine hZ.mono ?_; rintro e w2 ⟨rfl, b2⟩
      have hB2 := below_step hBW (by omega) b2
      have F2 : Fr 0 0 W w2 := Fr.ofBelow b2
      have s0 := F2.cell r0 (.inr (Nat.zero_le _))
      have s1 := F2.cell r1 (.inr (Nat.zero_le _))
      have s2 := F2.cell r2 (.inr (Nat.zero_le _))
      have hZ3 := l3Sizes x0 x1 ak ck ss w2 (hSW.below b2) hsl c2
      have hS2 := hSW.below b2
      clear hZ r0 r1 r2 hR hSW F2 b2 hBW bW
      go_wp2_with fail
      refine hZ3.mono ?_; rintro e w3 ⟨rfl, b3⟩
      have hB3 := below_step hB2 hB2.size b3
      have F3 : Fr 0 0 w2 w3 := Fr.ofBelow b3
      have y0 := F3.cell s0 (.inr (Nat.zero_le _))
      have y1 := F3.cell s1 (.inr (Nat.zero_le _))
      have y2 := F3.cell s2 (.inr (Nat.zero_le _))
      have hS3 := hS2.below b3
      obtain ⟨A, hA⟩ : ∃ A, oldN ss = A := ⟨_, rfl⟩
      obtain ⟨D, hD⟩ : ∃ D, newN ss = D := ⟨_, rfl⟩
      rw [hA] at bo hGO ⊢
      rw [hD] at bn hGO ⊢
      clear hZ3 s0 s1 s2 F3 b3 hB2 hS2 hA hD
      go_wp2
      go_loop [10, 11] (fun t m => ∃ j : Nat, j ≤ ss.length ∧ m = .int .i64 j ∧ t = .int .i64 (stays (ss.take j))) (fun _ m => ss.length - (intOf m).toNat)
      case atStart => exact ⟨0, Nat.zero_le _, rfl, by simp [stays]⟩
      case round =>
        obtain ⟨j, hj, rfl, rfl⟩ := hrel
        have bs := stays_bd (ss.take j)
        have hlj : (ss.take j).length ≤ 1048576 := by rw [List.length_take]; omega
        by_cases hjt : j < ss.length
        · have qj : (j : Int) < (ss.length : Int) := by omega
          obtain ⟨b, off', e', hb, hc⟩ := hS3.2 j hjt
          subst e'
          have es := stays_take ss j hjt
          have hp := okH_size (okTo_at c2 hjt)
          obtain ⟨s, hse⟩ : ∃ s, ss.getD j ByteArray.empty = s := ⟨_, rfl⟩
          rw [hse] at hc es hp
          unfold stay1 at es
          rw [mark0_eq s hp] at es
          have hz : (0 : Int) < (s.size : Int) := by omega
          obtain ⟨T, hT⟩ : ∃ T, stays (ss.take j) = T := ⟨_, rfl⟩
          rw [hT] at es bs ⊢
          by_cases hm : (s[0].toNat : Int) = 32
          · have hm' : ((s[0].toNat : Int) == 32) = true := by simp [hm]
            have ES : Hid (stays (ss.take (j + 1)) = T + 1) := by show _ = _; rw [es, if_pos hm]
            clear es hse hT hST hGO
            go_wp2
            go_round
            case rel => exact ⟨j + 1, by omega, by go_num, by rw [ES.out]⟩
            case measure => first | (simp [intOf]; omega) | simp [intOf]
          · have hm' : ((s[0].toNat : Int) == 32) = false := by simp [hm]
            have ES : Hid (stays (ss.take (j + 1)) = T) := by show _ = _; rw [es, if_neg hm]; omega
            clear es hse hT hST hGO
            go_wp2
            go_round
            case rel => exact ⟨j + 1, by omega, by go_num, by rw [ES.out]⟩
            case measure => first | (simp [intOf]; omega) | simp [intOf]
        · have qj : ¬ (j : Int) < (ss.length : Int) := by omega
          have ej : ss.take j = ss := List.take_of_length_le (by omega)
          have hst := stays_all ss
          rw [ej]
          rw [ej] at bs
          obtain ⟨T, hT⟩ : ∃ T, stays ss = T := ⟨_, rfl⟩
          rw [hT] at hst bs ⊢
          clear ej hlj hT
          cases c3 : anyCh ss with
          | false =>
            have hC := (hST 1 (hkC_none (Int.not_lt.2 C1.out) c2 c3) (by decide))
            have hTl : (T == (ss.length : Int)) = true := by
              rw [c3] at hst
              have : decide (T = (ss.length : Int)) = true := by simpa using hst.symm
              exact this
            clear hST hGO hst
            go_wp2
            go_ret
            exact ⟨ret_int (hC.out.symm.trans HF.out), hB3⟩
          | true =>
          have hTl : (T == (ss.length : Int)) = false := by
            rw [c3] at hst
            have : decide (T = (ss.length : Int)) = false := by simpa using hst.symm
            exact this
          clear hst
          have I0 := fun w => l1In x0 0 100 w
          have I1 := fun w => l1In x1 0 100 w
          cases c4 : inB x0 0 100 with
          | false =>
            have hC := (hST 3 (hkC_range (Int.not_lt.2 C1.out) c2 c3 (by rw [show inB (x0, x1, ss).1 0 100 = false from c4]; rfl)) (by decide))
            rw [c4] at I0
            clear hST hGO
            go_wp2_with fail
            refine (I0 _).mono ?_; rintro e w5 ⟨rfl, rfl⟩
            go_wp2
            go_ret
            exact ⟨ret_int (hC.out.symm.trans HF.out), hB3⟩
          | true =>
          rw [c4] at I0
          go_wp2_with fail
          refine (I0 _).mono ?_; rintro e w5 ⟨rfl, rfl⟩
          cases c5 : inB x1 0 100 with
          | false =>
            have hC := (hST 3 (hkC_range (Int.not_lt.2 C1.out) c2 c3 (by rw [show inB (x0, x1, ss).1 0 100 = true from c4, show inB (x0, x1, ss).2.1 0 100 = false from c5]; rfl)) (by decide))
            rw [c5] at I1
            clear hST hGO
            go_wp2_with fail
            refine (I1 _).mono ?_; rintro e w6 ⟨rfl, rfl⟩
            go_wp2
            go_ret
            exact ⟨ret_int (hC.out.symm.trans HF.out), hB3⟩
          | true =>
          rw [c5] at I1
          go_wp2_with fail
          refine (I1 _).mono ?_; rintro e w6 ⟨rfl, rfl⟩
          have u0 := inB_bd c4
          have u1 := inB_bd c5
          have c45 : (inB (x0, x1, ss).1 0 100 && inB (x0, x1, ss).2.1 0 100) = true := by rw [show inB (x0, x1, ss).1 0 100 = true from c4, show inB (x0, x1, ss).2.1 0 100 = true from c5]; rfl
          have hFM := fun h5 => hST 1 (hkC_form (Int.not_lt.2 C1.out) c2 c3 c45 h5) (by decide)
          have hOK := fun h5 => hGO (hkC_ok (Int.not_lt.2 C1.out) c2 c3 c45 h5)
          clear hST hGO I0 I1
          obtain ⟨u00, u01⟩ := u0
          obtain ⟨u10, u11⟩ := u1
          by_cases c6 : x0 < ea
          · have hC := hFM (.inl c6)
            clear hFM hOK
            go_wp2
            go_ret
            exact ⟨ret_int (hC.out.symm.trans HF.out), hB3⟩
          by_cases c7 : x0 - ea = x1 - eb
          · have hC := hOK (by simp only []; omega)
            have c7' : (x0 - ea != x1 - eb) = false := by simp [c7]
            have bA : 0 ≤ x0 + A ∧ x0 + A ≤ 300 := by omega
            have bD : 0 ≤ x1 + D ∧ x1 + D ≤ 300 := by omega
            obtain ⟨bA0, bA1⟩ := bA
            obtain ⟨bD0, bD1⟩ := bD
            obtain ⟨bo0, bo1⟩ := bo
            obtain ⟨bn0, bn1⟩ := bn
            clear hFM hOK c7
            go_wp2
            go_roundw
            case rel => exact ⟨k + 1, x0 + A, x1 + D, by omega, by first | rfl | go_num, rfl, rfl, bA0, bA1, bD0, bD1, hC, hB3⟩
            case measure => first | (simp [intOf]; omega) | simp [intOf]
          · have hC := hFM (.inr c7)
            have c7' : (x0 - ea != x1 - eb) = true := by simp [c7]
            clear hFM hOK c7
            go_wp2
            go_ret
            exact ⟨ret_int (hC.out.symm.trans HF.out), hB3⟩
    · have q : ¬ (k : Int) < (l.length : Int) := by omega
      have hC : Hid (hfF l 0 0 = 0) := by
        show _ = _
        rw [← hL.out, List.drop_of_length_le (by omega)]; rfl
      clear hL
      go_wp2
      go_ret
      exact ⟨ret_int (hC.out.symm.trans HF.out), hbel⟩

theorem specHunksFault (a : Option Addr) (c : Nat) (l : List Hk) (w : World) (h : HB w.heap.size w a l) (hn : l.length ≤ 1048576) (hs : Shortly l) :
    Calls Tryz.prog 22 #[.slice a l.length c] w fun e w' => e = .returned (.int .i64 (hf l)) ∧ Below w.heap.size w w' := by
  by_cases hbig : 100 < (l.length : Int)
  · have hC : Hid (hf l = 2) := if_pos hbig
    go_enter Tryz.func22, Tryz.ntmps22
    go_wp2
    go_ret
    exact ⟨ret_int hC.out.symm, Below.refl _ _⟩
  have HF : Hid (hf l = hfF l 0 0) := if_neg hbig
  have hL := l3Fault a c l w h (by omega) hs
  go_enter Tryz.func22, Tryz.ntmps22
  go_wp2_with fail
  refine hL.mono ?_; rintro e w1 ⟨rfl, b1⟩
  go_wp2
  go_ret
  exact ⟨ret_int HF.out.symm, b1⟩
end Go.Proofs.YtnkbjbbaoddfkaaGreatDoor
