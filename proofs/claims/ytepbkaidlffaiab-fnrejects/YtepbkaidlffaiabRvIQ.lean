/- The contract of impl.ReverseHunks. No statement is proved here. -/
import Derived.Test.YtepbkaidlffaiabRows
import Derived.Test.YtepbkaidlffaiabLemQ
import Derived.Test.YtepbkaidlffaiabStrsQ
import Derived.Test.YtepbkaidlffaiabLFLemQ
import Derived.Test.YtepbkaidlffaiabLFQ
import Derived.Test.YtepbkaidlffaiabDTabQ
import Derived.Test.YtepbkaidlffaiabOwnQ
import Derived.Test.YtepbkaidlffaiabFrQ
import Derived.Test.YtepbkaidlffaiabInQ
import Derived.Test.YtepbkaidlffaiabHkLQ
import Derived.Test.YtepbkaidlffaiabHkCQ
import Derived.Test.YtepbkaidlffaiabHkTQ
import Derived.Test.YtepbkaidlffaiabHfCQ
import Derived.Test.YtepbkaidlffaiabHfIQ
import Derived.Test.YtepbkaidlffaiabHfSQ
import Derived.Test.YtepbkaidlffaiabHnLQ
import Derived.Test.YtepbkaidlffaiabHrRQ
import Derived.Test.YtepbkaidlffaiabRvLQ
import Derived.WalkKit
import Derived.ProofKit
import Derived.Below
import Derived.WalkSpells
import Derived.Maps.AppendAt
import Derived.Deep.RegionLaw
import Derived.Laws.Concat
namespace Go.Proofs.Ytepbkaidlffaiab
open Go.ChangeShapes Go.WideShapes Go.ChangeAt Go.RowKit

set_option maxRecDepth 20000 in
set_option maxHeartbeats 4000000 in
theorem implReverse (a : Option Addr) (c : Nat) (l : List Hk) (w : World) (h : HB w.heap.size w a l) (hn : l.length ≤ 1048576) (hs : Shortly l) (hz : ∀ h ∈ l, ∀ s ∈ h.2.2, s.size ≤ 1048576) (hok : ∀ h ∈ l, h.2.2.all okH = true) (h0 : Go.Proofs.Ytepbkaidlffaiab.hf l = 0) :
    Calls Try.prog 13 #[.slice a l.length c] w fun e w' => HP 0 0 (l.map revH) w e w' := by
  obtain ⟨i0, hi, hz0, hz1, hz2⟩ := info_parts infoString
  obtain ⟨i1, hi', hy0, hy1, hy2⟩ := info_parts infoHunk
  have hA := fun w h => implHunksFault a c l w h hn hs
  rw [h0] at hA
  obtain ⟨W1, hW1⟩ : ∃ W1, w.alloc (.cells #[.int .i64 0, .int .i64 0, .slice none 0 0] 32) = W1 := ⟨_, rfl⟩
  have b1 : Below w.heap.size w W1 := by rw [← hW1]; exact allocBelow _ _
  have zW : w.heap.size < W1.heap.size := by rw [← hW1]; simp
  have r1 : Rf W1 w.heap.size [.int .i64 0, .int .i64 0, .slice none 0 0] := by rw [← hW1]; exact Rf.new _ _ _
  have A1 := h.below b1
  go_enter Try.func13, Try.ntmps13
  go_wp2_with fail
  refine (hA _ (A1.mono (by omega))).mono ?_; rintro e w2 ⟨rfl, b2⟩
  have A2 := A1.below b2
  have r2 := r1.below zW b2
  have BB := b1.trans (b2.mono b1.size)
  have zz2 := b2.size
  have z2 : w.heap.size < w2.heap.size := by omega
  clear A1 r1 b1 b2 hA hW1 h h0
  go_wp2
  go_loopw [4, 18] (fun v i wr => ∃ (k : Nat) (sl : Nat → Value), k ≤ l.length ∧ i = .int .i64 k ∧ HO w2.heap.size wr v ((l.take k).map revH) sl ∧ Below w2.heap.size w2 wr) (fun _ i _ => l.length - (intOf i).toNat)
  case atStart => exact ⟨0, fun _ => .slice none 0 0, Nat.zero_le _, rfl, HO.nil _ _ _, Below.refl _ _⟩
  case round =>
    obtain ⟨k, sl, hk, rfl, hO, hbel⟩ := hrel
    obtain ⟨WO, hWO⟩ : ∃ W, W = wr := ⟨_, rfl⟩
    subst hWO
    have hsz := hbel.size
    by_cases hlt : k < l.length
    · have q : (k : Int) < (l.length : Int) := by omega
      obtain ⟨g, off, ak, ck, e, hg, d0, d1, d2, hSB⟩ := A2.below hbel k hlt
      subst e
      have hmem := getD_mem l k hlt
      have hsl := hs _ hmem
      have hzl := hz _ hmem
      have hol := hok _ hmem
      have hrt := revH_take l k hlt
      obtain ⟨C, hCe⟩ : ∃ C, l.getD k (0, 0, []) = C := ⟨_, rfl⟩
      obtain ⟨x0, x1, ss⟩ := C
      rw [hCe] at d0 d1 d2 hSB hsl hzl hol hrt
      simp only [] at d0 d1 d2 hSB hsl hzl hol
      have HRT : Hid ((l.take (k + 1)).map revH = (l.take k).map revH ++ [revH (x0, x1, ss)]) := hrt
      clear hmem hCe hrt
      obtain ⟨W3, hW3⟩ : ∃ W, WO.alloc (.cells #[.int .i64 x0, .int .i64 x1, .slice ak ss.length ck] 79) = W := ⟨_, rfl⟩
      have R3 : Rs W3 WO.heap.size [.int .i64 x0, .int .i64 x1, .slice ak ss.length ck] := by rw [← hW3]; exact Rs.new _ _ _
      have b3 : Below WO.heap.size WO W3 := by rw [← hW3]; exact allocBelow _ _
      have zz3 : W3.heap.size = WO.heap.size + 1 := by rw [← hW3]; simp
      obtain ⟨W4, hW4⟩ : ∃ W, W3.alloc (.cells #[.int .i64 x1, .int .i64 x0, .slice none 0 0] 79) = W := ⟨_, rfl⟩
      have R4 : Rf W4 W3.heap.size [.int .i64 x1, .int .i64 x0, .slice none 0 0] := by rw [← hW4]; exact Rf.new _ _ _
      have b4 : Below W3.heap.size W3 W4 := by rw [← hW4]; exact allocBelow _ _
      have zz4 : W4.heap.size = W3.heap.size + 1 := by rw [← hW4]; simp
      have R34 : Rs W4 WO.heap.size [.int .i64 x0, .int .i64 x1, .slice ak ss.length ck] := (Fr.ofBelow (lo := 0) (hi := 0) b4).rs R3 (.inr (Nat.zero_le _))
      have b34 : Below WO.heap.size WO W4 := b3.trans (b4.mono (by omega))
      have d3 := R3 0 _ rfl
      have d4 := R3 1 _ rfl
      have d5 := R34 2 _ rfl
      have S4 := hSB.below b34
      obtain ⟨p, hp⟩ : ∃ p, W3.heap.size = p := ⟨_, rfl⟩
      have hpw : WO.heap.size < p := by omega
      have hp4 : W4.heap.size = p + 1 := by omega
      have HP4 : Hid (W4.heap.size = p + 1) := hp4
      rw [hp] at R4
      have HW4 : Hid (W3.alloc (.cells #[.int .i64 x1, .int .i64 x0, .slice none 0 0] 79) = W4) := hW4
      clear R3 b3 b4 hSB R34 zz3 zz4 hp4 hW4
      have D5 : Hid (W4.cell? ⟨WO.heap.size, 2, none⟩ = some (.slice ak ss.length ck)) := d5
      have d6 := d5
      rw [← HW4.out] at d6
      clear d5
      go_wp2
      rw [HW4.out]
      have d5 := D5.out
      clear hW3 d6
      go_loopw [30] (fun i wx => ∃ (j : Nat) (u : Value), j ≤ ss.length ∧ i = .int .i64 j ∧ Rf wx p [.int .i64 x1, .int .i64 x0, u] ∧ wx.ownsRow (p + 1) 9 1 u j (((ss.take j).map turnL).map Value.string) ∧ Below p W4 wx) (fun i _ => ss.length - (intOf i).toNat)
      case atStart => exact ⟨0, .slice none 0 0, Nat.zero_le _, rfl, R4, ⟨rfl, .inl ⟨rfl, rfl⟩⟩, Below.refl _ _⟩
      case round =>
        obtain ⟨j, u, hj, rfl, hR, hu, hbx⟩ := hrel
        have zx := hbx.size
        have hp4 := HP4.out
        by_cases hjt : j < ss.length
        · have qj : (j : Int) < (ss.length : Int) := by omega
          obtain ⟨b, off', e', hb, hc0⟩ := S4.2 j hjt
          subst e'
          have hc := (hbx.cell (p := ⟨b, off' + j, none⟩) (show b < p by omega)).trans hc0
          have htk := turnL_take ss j hjt
          have hzj : (ss.getD j ByteArray.empty).size ≤ 1048576 := hzl _ (by rw [getD_at ss j hjt]; exact List.getElem_mem hjt)
          have hoj := okTo_at hol hjt
          obtain ⟨s, hse⟩ : ∃ s, ss.getD j ByteArray.empty = s := ⟨_, rfl⟩
          rw [hse] at hc htk hzj hoj
          have hpos := okH_size hoj
          have hmk : mark0 s = 32 ∨ mark0 s = 45 ∨ mark0 s = 43 := of_decide_eq_true (okH_mk hoj)
          obtain ⟨ua, uc, eu⟩ := shapeS hu
          subst eu
          have m2 := hR.at_ 2 _ rfl
          have y2 := hR.fz 2
          have hzs : (0 : Int) < (s.size : Int) := by omega
          have h1s : (1 : Int) ≤ (s.size : Int) := by omega
          have hub : ∀ i, (Value.slice ua j uc).ownBlock = some i → p + 1 ≤ i ∧ i < wr.heap.size := fun i hi => hu.lt i hi
          have hpx : p < wr.heap.size := by omega
          have hRA : ∀ o, Rf ((wr.alloc o).drew) p [.int .i64 x1, .int .i64 x0, .slice ua j uc] := fun o => (hR.below hpx (allocBelow wr o)).drew
          have hltA : ∀ o, p < ((wr.alloc o).drew).heap.size := fun o => by show p < (wr.alloc o).heap.size; simp; omega
          have hneA : some p ≠ (Value.slice ua j uc).ownBlock := fun e => by have := hub p e.symm; omega
          have hBA : ∀ o, Below p W4 ((wr.alloc o).drew) := fun o => (hbx.alloc (by omega) o).drew
          clear hc0 hse hoj
          rcases hmk with hm | hm | hm
          · have hT : turnL s = (⟨#[32]⟩ : ByteArray) ++ s.extract 1 s.size := by unfold turnL turnM; rw [hm]; rfl
            rw [mark0_eq s hpos] at hm
            have hys := turnL_size s
            have hen : Utf8.encode 32 = (⟨#[32]⟩ : ByteArray) := by decide
            obtain ⟨y, hy⟩ : ∃ y, (⟨#[32]⟩ : ByteArray) ++ s.extract 1 s.size = y := ⟨_, rfl⟩
            rw [hT, hy] at htk
            have hcs : ¬ 9223372036854775807 < 1 + (s.size - 1) := by omega
            have HTK : Hid (((ss.take (j + 1)).map turnL).map Value.string = ((ss.take j).map turnL).map Value.string ++ [.string y]) := htk
            clear htk hT hys
            go_wp2
            go_region_law (first | (refine step_turned rfl (.tmp 37) 5 rfl 32 32 rfl rfl ?_) | (refine step_append_at rfl (.tmp 35) (.tmp 43) 24 rfl (p + 1) 9 i0 (.string ByteArray.empty) 1 16 Try.underlying24 hi hz0 hz1 hz2 rfl (by decide) _ _ _ rfl ((hu.alloc _).drew) ⟨wr.heap.size, 0, none⟩ 1 1 [.string y] rfl rfl (cell_one_new wr _ _) (by simp [Value.oneCell']) (by unfold maxLen; omega) (by omega) (by show _ ≤ (wr.alloc _).heap.size; simp; omega) ?_; intro v' W5 p5 g5 k5; have R5 := Rf.grown (hRA _) g5 hneA (hltA _); have m5 := R5.at_ 2 _ rfl; have y5 := R5.fz 2; obtain ⟨va, vc, ev⟩ := shapeS p5; subst ev))
            all_goals
              have R6 : Rf (W5.setCell ⟨p, 2, none⟩ (.slice va (j + 1) vc)) p [.int .i64 x1, .int .i64 x0, .slice va (j + 1) vc] := R5.set (by simp) _
              have o6 := p5.kept (grownSet W5 p 2 (.slice va (j + 1) vc)) (blockCases _ _ fun i c1 c2 => by
                have e2 : p = i := by simpa using c2
                have := (p5.lt i c1).1
                omega)
              have B6 : Below p W4 (W5.setCell ⟨p, 2, none⟩ (.slice va (j + 1) vc)) := ((hBA _).grown g5 (Nat.le_of_lt (hltA _)) (fun i hi => by have := hub i hi; omega)).setCell (p := ⟨p, 2, none⟩) (Nat.le_refl _) _
              rw [← HTK.out] at o6
              have O6 : Hid (World.ownsRow _ _ _ _ _ _ _) := o6
              clear m5 y5 R5 p5 g5 k5 o6 hRA hltA hneA hBA hu hR hbx hub m2 y2
              go_wp2
              go_roundw
              case rel => exact ⟨j + 1, _, by omega, by first | rfl | go_num, R6, O6.out, B6⟩
              case measure => first | (simp [intOf]; omega) | simp [intOf]
          · have hT : turnL s = (⟨#[43]⟩ : ByteArray) ++ s.extract 1 s.size := by unfold turnL turnM; rw [hm]; rfl
            rw [mark0_eq s hpos] at hm
            have hys := turnL_size s
            have hen : Utf8.encode 43 = (⟨#[43]⟩ : ByteArray) := by decide
            obtain ⟨y, hy⟩ : ∃ y, (⟨#[43]⟩ : ByteArray) ++ s.extract 1 s.size = y := ⟨_, rfl⟩
            rw [hT, hy] at htk
            have hcs : ¬ 9223372036854775807 < 1 + (s.size - 1) := by omega
            have HTK : Hid (((ss.take (j + 1)).map turnL).map Value.string = ((ss.take j).map turnL).map Value.string ++ [.string y]) := htk
            clear htk hT hys
            go_wp2
            go_region_law (first | (refine step_turned rfl (.tmp 37) 5 rfl 45 43 rfl rfl ?_) | (refine step_append_at rfl (.tmp 35) (.tmp 43) 24 rfl (p + 1) 9 i0 (.string ByteArray.empty) 1 16 Try.underlying24 hi hz0 hz1 hz2 rfl (by decide) _ _ _ rfl ((hu.alloc _).drew) ⟨wr.heap.size, 0, none⟩ 1 1 [.string y] rfl rfl (cell_one_new wr _ _) (by simp [Value.oneCell']) (by unfold maxLen; omega) (by omega) (by show _ ≤ (wr.alloc _).heap.size; simp; omega) ?_; intro v' W5 p5 g5 k5; have R5 := Rf.grown (hRA _) g5 hneA (hltA _); have m5 := R5.at_ 2 _ rfl; have y5 := R5.fz 2; obtain ⟨va, vc, ev⟩ := shapeS p5; subst ev))
            all_goals
              have R6 : Rf (W5.setCell ⟨p, 2, none⟩ (.slice va (j + 1) vc)) p [.int .i64 x1, .int .i64 x0, .slice va (j + 1) vc] := R5.set (by simp) _
              have o6 := p5.kept (grownSet W5 p 2 (.slice va (j + 1) vc)) (blockCases _ _ fun i c1 c2 => by
                have e2 : p = i := by simpa using c2
                have := (p5.lt i c1).1
                omega)
              have B6 : Below p W4 (W5.setCell ⟨p, 2, none⟩ (.slice va (j + 1) vc)) := ((hBA _).grown g5 (Nat.le_of_lt (hltA _)) (fun i hi => by have := hub i hi; omega)).setCell (p := ⟨p, 2, none⟩) (Nat.le_refl _) _
              rw [← HTK.out] at o6
              have O6 : Hid (World.ownsRow _ _ _ _ _ _ _) := o6
              clear m5 y5 R5 p5 g5 k5 o6 hRA hltA hneA hBA hu hR hbx hub m2 y2
              go_wp2
              go_roundw
              case rel => exact ⟨j + 1, _, by omega, by first | rfl | go_num, R6, O6.out, B6⟩
              case measure => first | (simp [intOf]; omega) | simp [intOf]
          · have hT : turnL s = (⟨#[45]⟩ : ByteArray) ++ s.extract 1 s.size := by unfold turnL turnM; rw [hm]; rfl
            rw [mark0_eq s hpos] at hm
            have hys := turnL_size s
            have hen : Utf8.encode 45 = (⟨#[45]⟩ : ByteArray) := by decide
            obtain ⟨y, hy⟩ : ∃ y, (⟨#[45]⟩ : ByteArray) ++ s.extract 1 s.size = y := ⟨_, rfl⟩
            rw [hT, hy] at htk
            have hcs : ¬ 9223372036854775807 < 1 + (s.size - 1) := by omega
            have HTK : Hid (((ss.take (j + 1)).map turnL).map Value.string = ((ss.take j).map turnL).map Value.string ++ [.string y]) := htk
            clear htk hT hys
            go_wp2
            go_region_law (first | (refine step_turned rfl (.tmp 37) 5 rfl 43 45 rfl rfl ?_) | (refine step_append_at rfl (.tmp 35) (.tmp 43) 24 rfl (p + 1) 9 i0 (.string ByteArray.empty) 1 16 Try.underlying24 hi hz0 hz1 hz2 rfl (by decide) _ _ _ rfl ((hu.alloc _).drew) ⟨wr.heap.size, 0, none⟩ 1 1 [.string y] rfl rfl (cell_one_new wr _ _) (by simp [Value.oneCell']) (by unfold maxLen; omega) (by omega) (by show _ ≤ (wr.alloc _).heap.size; simp; omega) ?_; intro v' W5 p5 g5 k5; have R5 := Rf.grown (hRA _) g5 hneA (hltA _); have m5 := R5.at_ 2 _ rfl; have y5 := R5.fz 2; obtain ⟨va, vc, ev⟩ := shapeS p5; subst ev))
            all_goals
              have R6 : Rf (W5.setCell ⟨p, 2, none⟩ (.slice va (j + 1) vc)) p [.int .i64 x1, .int .i64 x0, .slice va (j + 1) vc] := R5.set (by simp) _
              have o6 := p5.kept (grownSet W5 p 2 (.slice va (j + 1) vc)) (blockCases _ _ fun i c1 c2 => by
                have e2 : p = i := by simpa using c2
                have := (p5.lt i c1).1
                omega)
              have B6 : Below p W4 (W5.setCell ⟨p, 2, none⟩ (.slice va (j + 1) vc)) := ((hBA _).grown g5 (Nat.le_of_lt (hltA _)) (fun i hi => by have := hub i hi; omega)).setCell (p := ⟨p, 2, none⟩) (Nat.le_refl _) _
              rw [← HTK.out] at o6
              have O6 : Hid (World.ownsRow _ _ _ _ _ _ _) := o6
              clear m5 y5 R5 p5 g5 k5 o6 hRA hltA hneA hBA hu hR hbx hub m2 y2
              go_wp2
              go_roundw
              case rel => exact ⟨j + 1, _, by omega, by first | rfl | go_num, R6, O6.out, B6⟩
              case measure => first | (simp [intOf]; omega) | simp [intOf]
        · have qj : ¬ (j : Int) < (ss.length : Int) := by omega
          obtain rfl : j = ss.length := by omega
          rw [List.take_length] at hu
          have Bx : Below WO.heap.size WO wr := b34.trans (hbx.mono (by omega))
          have hOx := hO.below Bx
          have hul : ∀ i, u.ownBlock = some i → p + 1 ≤ i := fun i hi => (hu.lt i hi).1
          have hvl : ∀ i, u4.ownBlock = some i → i < WO.heap.size := fun i hi => (hO.row.lt i hi).2
          have hel : ∀ n, n < ((l.take k).map revH).length → ∀ i, (sl n).ownBlock = some i → i < WO.heap.size := fun n hn i hi => ((hO.each n hn).lt i hi).2
          have hu' : wr.ownsRow w2.heap.size 9 1 u (revH (x0, x1, ss)).2.2.length ((revH (x0, x1, ss)).2.2.map Value.string) := by
            show wr.ownsRow w2.heap.size 9 1 u (ss.map turnL).length ((ss.map turnL).map Value.string)
            rw [List.length_map]; exact ownMono hu (by omega)
          obtain ⟨ua, uc, eu⟩ := shapeS hu
          have eu' : u = .slice ua ss.length uc := eu
          obtain ⟨va, vc, ev⟩ := shape3 hOx.row
          have m0 := hR.at_ 0 _ rfl
          have m1 := hR.at_ 1 _ rfl
          have m2 := hR.at_ 2 _ rfl
          have hPU := fun (W5 : World) (v' : Value) o p5 g5 k5 => HO.push (w6 := W5) (v' := v') (o := o) (h := revH (x0, x1, ss)) hOx hu' (fun i c1 c2 => by have := hul i c1; have := hvl i c2; omega) (fun n hn i c1 c2 => by have := hul i c1; have := hel n hn i c2; omega) p5 g5 k5
          have hrow := hOx.row
          have hLl : ((l.take k).map revH).length ≤ 1048576 := by rw [List.length_map, List.length_take]; omega
          obtain ⟨L, hLe⟩ : ∃ L, (l.take k).map revH = L := ⟨_, rfl⟩
          have HRT2 : Hid ((l.take (k + 1)).map revH = L ++ [revH (x0, x1, ss)]) := by show _ = _; rw [HRT.out, hLe]
          rw [hLe] at hPU hrow hLl ev
          have hBw := below_step hbel hsz Bx
          have zwr : w2.heap.size ≤ wr.heap.size := by have := Bx.size; omega
          subst eu' ev
          clear eu hOx hO hu hu' hul hel HRT hLe Bx
          go_wp2_with ((at_builtin; refine wpList_append_own_at _ rfl (.tmp 47) (.tmp 49) 25 rfl w2.heap.size 79 i1 (.agg #[.int .i64 0, .int .i64 0, .slice none 0 0]) 3 40 Try.underlying25 hi' hy0 hy1 hy2 rfl (by decide) _ _ _ rfl (hrow.alloc _) ⟨wr.heap.size, 0, none⟩ 1 1 [.int .i64 x1, .int .i64 x0, .slice ua ss.length uc] rfl rfl (newsRow wr #[.int .i64 x1, .int .i64 x0, .slice ua ss.length uc] 79) (by simp [Value.oneCell']) (by unfold maxLen; omega) (by omega) (by simp; omega) ?_; intro v' W5 p5 g5 _ k5))
          have HH := hPU W5 v' _ p5 g5 k5
          rw [← HRT2.out] at HH
          have B5 : Below w2.heap.size w2 W5 := (hBw.alloc zwr _).grown g5 (by simp; omega) (fun i hi => (hrow.lt i hi).1)
          have H5 : Hid (HO _ _ _ _ _) := HH
          clear hPU HH p5 g5 k5 hrow hR hbx m0 m1 m2
          go_roundw
          case rel => exact ⟨k + 1, _, by omega, by first | rfl | go_num, H5.out, B5⟩
          case measure => first | (simp [intOf]; omega) | simp [intOf]
    · have q : ¬ (k : Int) < (l.length : Int) := by omega
      obtain rfl : k = l.length := by omega
      rw [List.take_length] at hO
      obtain ⟨va, vc, e⟩ := shape3 hO.row
      subst e
      have r3 := r2.below (by omega) hbel
      have HB := below_set3 (BB.trans (hbel.mono (by omega))) (Nat.le_refl w.heap.size) (.int .i64 0) (.int .i64 0) (.slice va (l.map revH).length vc)
      have HH : Hid (HO w.heap.size (((WO.setCell ⟨w.heap.size, 0, none⟩ (.int .i64 0)).setCell ⟨w.heap.size, 1, none⟩ (.int .i64 0)).setCell ⟨w.heap.size, 2, none⟩ (.slice va (l.map revH).length vc)) (.slice va (l.map revH).length vc) (l.map revH) sl) :=
        (hO.grown (grownSet3 WO w.heap.size _ _ _) z2).mono (by omega)
      have e0 := r3.at_ 0 _ rfl
      have e1 := r3.at_ 1 _ rfl
      have e2 := r3.at_ 2 _ rfl
      have f0 := r3.fz 0
      have f1 := r3.fz 1
      have f2 := r3.fz 2
      have hll : (l.map revH).length = l.length := by simp
      obtain ⟨N, hN⟩ : ∃ N, (l.map revH).length = N := ⟨_, rfl⟩
      rw [hN] at HH HB ⊢
      clear hO r3 r2 hbel hll
      go_wp2
      refine bodyPost_ret (v := .agg #[.int .i64 0, .int .i64 0, .slice va N vc]) (by simp [results, Try.results13, go_sem, e0, e1, e2]) rfl ?_
      exact ⟨_, sl, rfl, HH.out, HB⟩

theorem hfF_ok : ∀ (l : List Hk) (i j : Int), hfF l i j = 0 → ∀ h ∈ l, h.2.2.all okH = true := by
  intro l
  induction l with
  | nil => intro i j _ h hh; cases hh
  | cons x t ih =>
    intro i j e h hh
    by_cases hc : hkC i j x = 0
    · rw [hfF_go hc] at e
      rcases List.mem_cons.1 hh with rfl | hh
      · exact (hkC_zero hc).2.1
      · exact ih _ _ e h hh
    · rw [hfF_stop rfl hc] at e; exact absurd e hc
theorem hf_ok {l : List Hk} (h : hf l = 0) : ∀ x ∈ l, x.2.2.all okH = true := by
  unfold hf at h
  split at h
  · exact absurd h (by decide)
  · exact hfF_ok l 0 0 h
/-- The hunks that ReverseHunks tells. -/
def rvL (l : List Hk) : List Hk := if hf l = 0 then l.map revH else []
theorem rvL_ok {l : List Hk} (h : hf l = 0) : rvL l = l.map revH := if_pos h
theorem rvL_no {l : List Hk} (h : ¬ hf l = 0) : rvL l = [] := if_neg h

set_option maxHeartbeats 2000000 in
theorem implReverseHunks (a : Option Addr) (c : Nat) (l : List Hk) (w : World) (h : HB w.heap.size w a l) (hn : l.length ≤ 1048576) (hs : Shortly l) (hz : ∀ h ∈ l, ∀ s ∈ h.2.2, s.size ≤ 1048576) :
    Calls Try.prog 13 #[.slice a l.length c] w fun e w' => HP (hf l) 0 (rvL l) w e w' := by
  by_cases h0 : hf l = 0
  · rw [rvL_ok h0, h0]
    exact implReverse a c l w h hn hs hz (hf_ok h0) h0
  · rw [rvL_no h0]
    have hA := fun w h => implHunksFault a c l w h hn hs
    have hb := ne_beq h0
    obtain ⟨v, hv⟩ : ∃ v, hf l = v := ⟨_, rfl⟩
    rw [hv] at hA hb ⊢
    clear h0 hv
    obtain ⟨W1, hW1⟩ : ∃ W1, w.alloc (.cells #[.int .i64 0, .int .i64 0, .slice none 0 0] 32) = W1 := ⟨_, rfl⟩
    have b1 : Below w.heap.size w W1 := by rw [← hW1]; exact allocBelow _ _
    have zW : w.heap.size < W1.heap.size := by rw [← hW1]; simp
    have r1 : Rf W1 w.heap.size [.int .i64 0, .int .i64 0, .slice none 0 0] := by rw [← hW1]; exact Rf.new _ _ _
    have A1 := h.below b1
    go_enter Try.func13, Try.ntmps13
    go_wp2_with fail
    refine (hA _ (A1.mono (by omega))).mono ?_; rintro e w2 ⟨rfl, b2⟩
    have r2 := r1.below zW b2
    have BB := b1.trans (b2.mono b1.size)
    have HB := below_set3 BB (Nat.le_refl w.heap.size) (.int .i64 v) (.int .i64 0) (.slice none 0 0)
    have e0 := r2.at_ 0 _ rfl
    have e1 := r2.at_ 1 _ rfl
    have e2 := r2.at_ 2 _ rfl
    have f0 := r2.fz 0
    have f1 := r2.fz 1
    have f2 := r2.fz 2
    clear r1 r2 A1 b1 b2 hA BB hW1
    go_wp2
    refine bodyPost_ret (v := .agg #[.int .i64 v, .int .i64 0, .slice none 0 0]) (by simp [results, Try.results13, go_sem, e0, e1, e2]) rfl ?_
    exact ⟨_, fun _ => .slice none 0 0, rfl, HO.nil _ _ _, HB⟩
end Go.Proofs.Ytepbkaidlffaiab
