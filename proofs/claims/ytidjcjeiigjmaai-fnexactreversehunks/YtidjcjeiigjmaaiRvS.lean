/- The contract of spec.ReverseHunks. No statement is proved here. -/
import Derived.Test.YtidjcjeiigjmaaiRows
import Derived.Test.YtidjcjeiigjmaaiLem
import Derived.Test.YtidjcjeiigjmaaiStrs
import Derived.Test.YtidjcjeiigjmaaiLFLem
import Derived.Test.YtidjcjeiigjmaaiLF
import Derived.Test.YtidjcjeiigjmaaiDTab
import Derived.Test.YtidjcjeiigjmaaiOwn
import Derived.Test.YtidjcjeiigjmaaiFr
import Derived.Test.YtidjcjeiigjmaaiIn
import Derived.Test.YtidjcjeiigjmaaiHkL
import Derived.Test.YtidjcjeiigjmaaiHkC
import Derived.Test.YtidjcjeiigjmaaiHkS
import Derived.Test.YtidjcjeiigjmaaiHkT
import Derived.Test.YtidjcjeiigjmaaiHfL
import Derived.Test.YtidjcjeiigjmaaiHfC
import Derived.Test.YtidjcjeiigjmaaiHfI
import Derived.Test.YtidjcjeiigjmaaiHfS
import Derived.Test.YtidjcjeiigjmaaiHnL
import Derived.Test.YtidjcjeiigjmaaiRvL
import Derived.Test.YtidjcjeiigjmaaiRvI
import Derived.WalkKit
import Derived.ProofKit
import Derived.Below
import Derived.WalkSpells
import Derived.Maps.AppendAt
import Derived.Deep.RegionLaw
import Derived.Laws.Concat
namespace Go.Proofs.Ytidjcjeiigjmaai
open Go.ChangeShapes Go.WideShapes Go.ChangeAt Go.RowKit

theorem HB.belowQ {B Q : Nat} {w w' : World} {a : Option Addr} {l : List Hk} (h : HB B w a l) (hb : Below Q w w') (hB : B ≤ Q) : HB B w' a l := fun k hk => by
  obtain ⟨g, off, ak, ck, e, hg, h0, h1, h2, h3⟩ := h k hk
  refine ⟨g, off, ak, ck, e, hg, (hb.cell (p := ⟨g, off + k * 3, none⟩) (show g < Q by omega)).trans h0, (hb.cell (p := ⟨g, off + k * 3 + 1, none⟩) (show g < Q by omega)).trans h1, (hb.cell (p := ⟨g, off + k * 3 + 2, none⟩) (show g < Q by omega)).trans h2, h3.1, fun j hj => ?_⟩
  obtain ⟨b, o, e', hb', hc⟩ := h3.2 j hj
  exact ⟨b, o, e', hb', (hb.cell (p := ⟨b, o + j, none⟩) (show b < Q by omega)).trans hc⟩
theorem SSB.belowQ {B Q : Nat} {w w' : World} {a : Option Addr} {ss : List ByteArray} (h : SSB B w a ss) (hb : Below Q w w') (hB : B ≤ Q) : SSB B w' a ss := ⟨h.1, fun j hj => by
  obtain ⟨b, o, e', hb', hc⟩ := h.2 j hj
  exact ⟨b, o, e', hb', (hb.cell (p := ⟨b, o + j, none⟩) (show b < Q by omega)).trans hc⟩⟩

set_option maxRecDepth 20000 in
set_option maxHeartbeats 8000000 in
theorem specReverse (a : Option Addr) (c : Nat) (l : List Hk) (w : World) (h : HB w.heap.size w a l) (hn : l.length ≤ 1048576) (hs : Shortly l) (hz : ∀ h ∈ l, ∀ s ∈ h.2.2, s.size ≤ 1048576) (hok : ∀ h ∈ l, h.2.2.all okH = true) (h0 : Go.Proofs.Ytidjcjeiigjmaai.hf l = 0) :
    Calls Try.prog 19 #[.slice a l.length c] w fun e w' => HP 0 0 (l.map revH) w e w' := by
  obtain ⟨i0, hi, hz0, hz1, hz2⟩ := info_parts infoString
  obtain ⟨i1, hi', hy0, hy1, hy2⟩ := info_parts infoHunk
  have hA := fun w h => specHunksFault a c l w h hn hs
  rw [h0] at hA
  obtain ⟨W1, hW1⟩ : ∃ W1, w.alloc (.cells #[.int .i64 0, .int .i64 0, .slice none 0 0] 39) = W1 := ⟨_, rfl⟩
  have b1 : Below w.heap.size w W1 := by rw [← hW1]; exact allocBelow _ _
  have zW : w.heap.size < W1.heap.size := by rw [← hW1]; simp
  have r1 : Rf W1 w.heap.size [.int .i64 0, .int .i64 0, .slice none 0 0] := by rw [← hW1]; exact Rf.new _ _ _
  have A1 := h.below b1
  go_enter Try.func19, Try.ntmps19
  go_wp2_with fail
  refine (hA _ (A1.mono (by omega))).mono ?_; rintro e w2 ⟨rfl, b2⟩
  have A2 := A1.below b2
  have r2 := r1.below zW b2
  have BB := b1.trans (b2.mono b1.size)
  have zz2 := b2.size
  have z2 : w.heap.size < w2.heap.size := by omega
  clear A1 r1 b1 b2 hA hW1 h h0
  go_wp2
  obtain ⟨WQ, hWQ⟩ : ∃ W, w2.alloc (.cells #[.int .i64 0, .int .i64 0, .slice none 0 0] 39) = W := ⟨_, rfl⟩
  have rq : Rf WQ w2.heap.size [.int .i64 0, .int .i64 0, .slice none 0 0] := by rw [← hWQ]; exact Rf.new _ _ _
  have bq : Below w2.heap.size w2 WQ := by rw [← hWQ]; exact allocBelow _ _
  have zq : WQ.heap.size = w2.heap.size + 1 := by rw [← hWQ]; simp
  have HZQ : Hid (WQ.heap.size = w2.heap.size + 1) := zq
  rw [hWQ]
  replace A2 := A2.below bq
  replace r2 := r2.below z2 bq
  replace BB := BB.trans (bq.mono (by omega))
  obtain ⟨Q, hQ⟩ : ∃ Q, w2.heap.size = Q := ⟨_, rfl⟩
  rw [hQ] at rq z2 HZQ ⊢
  clear hWQ bq zq zz2 hQ
  go_loopw [5] (fun i wr => ∃ (k : Nat) (sl : Nat → Value) (v : Value), k ≤ l.length ∧ i = .int .i64 k ∧ Rf wr Q [.int .i64 0, .int .i64 0, v] ∧ HO (Q + 1) wr v ((l.take k).map revH) sl ∧ Below Q WQ wr) (fun i _ => l.length - (intOf i).toNat)
  case atStart => exact ⟨0, fun _ => .slice none 0 0, .slice none 0 0, Nat.zero_le _, rfl, rq, HO.nil _ _ _, Below.refl _ _⟩
  case round =>
    obtain ⟨k, sl, vO, hk, rfl, hRQ, hO, hbel⟩ := hrel
    obtain ⟨WO, hWO⟩ : ∃ W, W = wr := ⟨_, rfl⟩
    subst hWO
    have hsz := hbel.size
    have hzQ := HZQ.out
    by_cases hlt : k < l.length
    · have q : (k : Int) < (l.length : Int) := by omega
      obtain ⟨g, off, ak, ck, e, hg, d0, d1, d2, hSB⟩ := (A2.belowQ hbel (by omega)) k hlt
      subst e
      have hmem := getD_mem l k hlt
      have hsl := hs _ hmem
      have hzl := hz _ hmem
      have hol := hok _ hmem
      have hrt := revH_take l k hlt
      obtain ⟨C, hCe⟩ : ∃ C, l.getD k (0, 0, []) = C := ⟨_, rfl⟩
      obtain ⟨x0, x1, ss⟩ := C
      rw [hCe] at d0 d1 d2 hSB hsl hzl hol hrt
      simp only [] at d0 d1 d2 hSB hsl hzl hol
      have HRT : Hid ((l.take (k + 1)).map revH = (l.take k).map revH ++ [revH (x0, x1, ss)]) := hrt
      clear hmem hCe hrt
      have da0 := fun o => (Fr.ofAlloc (lo := 0) (hi := 0) WO o).cell d0 (.inr (Nat.zero_le _))
      have da1 := fun o => (Fr.ofAlloc (lo := 0) (hi := 0) WO o).cell d1 (.inr (Nat.zero_le _))
      go_wp2
      go_region
      clear da0 da1
      obtain ⟨W4, hW4⟩ : ∃ W, (WO.alloc (.cells #[.int .i64 x1, .int .i64 x0, .slice none 0 0] 51)).drew = W := ⟨_, rfl⟩
      have R4 : Rf W4 WO.heap.size [.int .i64 x1, .int .i64 x0, .slice none 0 0] := by rw [← hW4]; exact (Rf.new _ _ _).drew
      have b34 : Below WO.heap.size WO W4 := by rw [← hW4]; exact (allocBelow _ _).drew
      have zz4 : W4.heap.size = WO.heap.size + 1 := by rw [← hW4]; show (WO.alloc _).heap.size = _; simp
      rw [hW4]
      have S4 := hSB.below b34
      have e2' := (Fr.ofBelow (lo := 0) (hi := 0) b34).cell d2 (.inr (Nat.zero_le _))
      obtain ⟨p, hp⟩ : ∃ p, WO.heap.size = p := ⟨_, rfl⟩
      have hpw : Q + 1 ≤ p := by omega
      have HP4 : Hid (W4.heap.size = p + 1) := by show _ = _; omega
      have HPO : Hid (WO.heap.size = p) := hp
      rw [hp] at R4 ⊢
      have D2 : Hid (W4.cell? ⟨g, off + k * 3 + 2, none⟩ = some (.slice ak ss.length ck)) := e2'
      clear hW4 zz4 hp hSB d0 d1 d2
      go_wp2
      clear e2'
      go_loopw [7] (fun i wx => ∃ (j : Nat) (u : Value), j ≤ ss.length ∧ i = .int .i64 j ∧ Rf wx p [.int .i64 x1, .int .i64 x0, u] ∧ wx.ownsRow (p + 1) 9 1 u j (((ss.take j).map turnL).map Value.string) ∧ Below p W4 wx) (fun i _ => ss.length - (intOf i).toNat)
      case atStart => exact ⟨0, .slice none 0 0, Nat.zero_le _, rfl, R4, ⟨rfl, .inl ⟨rfl, rfl⟩⟩, Below.refl _ _⟩
      case round =>
        obtain ⟨j, u, hj, rfl, hR, hu, hbx⟩ := hrel
        have zx := hbx.size
        have hp4 := HP4.out
        have hpO := HPO.out
        have dd2 := (hbx.cell (p := ⟨g, off + k * 3 + 2, none⟩) (show g < p by omega)).trans D2.out
        by_cases hjt : j < ss.length
        · have qj : (j : Int) < (ss.length : Int) := by omega
          obtain ⟨b, off', e', hb, hc0⟩ := S4.2 j hjt
          subst e'
          have hc := (hbx.cell (p := ⟨b, off' + j, none⟩) (show b < p by omega)).trans hc0
          have htk := turnL_take ss j hjt
          have hzj : (ss.getD j ByteArray.empty).size ≤ 1048576 := hzl _ (by rw [getD_at ss j hjt]; exact List.getElem_mem hjt)
          have hoj := okTo_at hol hjt
          obtain ⟨s, hse⟩ : ∃ s, ss.getD j ByteArray.empty = s := ⟨_, rfl⟩
          rw [hse] at hc htk hzj hoj
          have hpos := okH_size hoj
          have hmk : mark0 s = 32 ∨ mark0 s = 45 ∨ mark0 s = 43 := of_decide_eq_true (okH_mk hoj)
          obtain ⟨ua, uc, eu⟩ := shapeS hu
          subst eu
          have m2 := hR.at_ 2 _ rfl
          have y2 := hR.fz 2
          have hzs : (0 : Int) < (s.size : Int) := by omega
          have h1s : (1 : Int) ≤ (s.size : Int) := by omega
          have hub : ∀ i, (Value.slice ua j uc).ownBlock = some i → p + 1 ≤ i ∧ i < wr.heap.size := fun i hi => hu.lt i hi
          have hpx : p < wr.heap.size := by omega
          have hRA : ∀ o, Rf ((wr.alloc o).drew) p [.int .i64 x1, .int .i64 x0, .slice ua j uc] := fun o => (hR.below hpx (allocBelow wr o)).drew
          have hltA : ∀ o, p < ((wr.alloc o).drew).heap.size := fun o => by show p < (wr.alloc o).heap.size; simp; omega
          have hneA : some p ≠ (Value.slice ua j uc).ownBlock := fun e => by have := hub p e.symm; omega
          have hBA : ∀ o, Below p W4 ((wr.alloc o).drew) := fun o => (hbx.alloc (by omega) o).drew
          have da2 := fun o => (Fr.ofAlloc (lo := 0) (hi := 0) wr o).cell m2 (.inr (Nat.zero_le _))
          clear hc0 hse hoj hpO
          rcases hmk with hm | hm | hm
          · have hT : turnL s = (⟨#[32]⟩ : ByteArray) ++ s.extract 1 s.size := by unfold turnL turnM; rw [hm]; rfl
            rw [mark0_eq s hpos] at hm
            obtain ⟨y, hy⟩ : ∃ y, (⟨#[32]⟩ : ByteArray) ++ s.extract 1 s.size = y := ⟨_, rfl⟩
            rw [hT, hy] at htk
            have hcs : ¬ 9223372036854775807 < 1 + (s.size - 1) := by omega
            have HTK : Hid (((ss.take (j + 1)).map turnL).map Value.string = ((ss.take j).map turnL).map Value.string ++ [.string y]) := htk
            clear htk hT
            go_wp2
            go_region_law (refine step_append_at rfl (.tmp 59) (.tmp 64) 22 rfl (p + 1) 9 i0 (.string ByteArray.empty) 1 16 Try.underlying22 hi hz0 hz1 hz2 rfl (by decide) _ _ _ rfl ((hu.alloc _).drew) ⟨wr.heap.size, 0, none⟩ 1 1 [.string y] rfl rfl (cell_one_new wr _ _) (by simp [Value.oneCell']) (by unfold maxLen; omega) (by omega) (by show _ ≤ (wr.alloc _).heap.size; simp; omega) ?_; intro v' W5 p5 g5 k5; have R5 := Rf.grown (hRA _) g5 hneA (hltA _); have m5 := R5.at_ 2 _ rfl; have y5 := R5.fz 2; obtain ⟨va, vc, ev⟩ := shapeS p5; subst ev)
            all_goals
              have R6 : Rf (W5.setCell ⟨p, 2, none⟩ (.slice va (j + 1) vc)) p [.int .i64 x1, .int .i64 x0, .slice va (j + 1) vc] := R5.set (by simp) _
              have o6 := p5.kept (grownSet W5 p 2 (.slice va (j + 1) vc)) (blockCases _ _ fun i c1 c2 => by
                have e2 : p = i := by simpa using c2
                have := (p5.lt i c1).1
                omega)
              have B6 : Below p W4 (W5.setCell ⟨p, 2, none⟩ (.slice va (j + 1) vc)) := ((hBA _).grown g5 (Nat.le_of_lt (hltA _)) (fun i hi => by have := hub i hi; omega)).setCell (p := ⟨p, 2, none⟩) (Nat.le_refl _) _
              rw [← HTK.out] at o6
              have O6 : Hid (World.ownsRow _ _ _ _ _ _ _) := o6
              clear m5 y5 R5 p5 g5 k5 o6 hRA hltA hneA hBA hu hR hbx hub m2 y2 da2
              go_wp2
              go_roundw
              case rel => exact ⟨j + 1, _, by omega, by first | rfl | go_num, R6, O6.out, B6⟩
              case measure => first | (simp [intOf]; omega) | simp [intOf]
          · have hT : turnL s = (⟨#[43]⟩ : ByteArray) ++ s.extract 1 s.size := by unfold turnL turnM; rw [hm]; rfl
            rw [mark0_eq s hpos] at hm
            obtain ⟨y, hy⟩ : ∃ y, (⟨#[43]⟩ : ByteArray) ++ s.extract 1 s.size = y := ⟨_, rfl⟩
            rw [hT, hy] at htk
            have hcs : ¬ 9223372036854775807 < 1 + (s.size - 1) := by omega
            have HTK : Hid (((ss.take (j + 1)).map turnL).map Value.string = ((ss.take j).map turnL).map Value.string ++ [.string y]) := htk
            clear htk hT
            go_wp2
            go_region_law (refine step_append_at rfl (.tmp 59) (.tmp 64) 22 rfl (p + 1) 9 i0 (.string ByteArray.empty) 1 16 Try.underlying22 hi hz0 hz1 hz2 rfl (by decide) _ _ _ rfl ((hu.alloc _).drew) ⟨wr.heap.size, 0, none⟩ 1 1 [.string y] rfl rfl (cell_one_new wr _ _) (by simp [Value.oneCell']) (by unfold maxLen; omega) (by omega) (by show _ ≤ (wr.alloc _).heap.size; simp; omega) ?_; intro v' W5 p5 g5 k5; have R5 := Rf.grown (hRA _) g5 hneA (hltA _); have m5 := R5.at_ 2 _ rfl; have y5 := R5.fz 2; obtain ⟨va, vc, ev⟩ := shapeS p5; subst ev)
            all_goals
              have R6 : Rf (W5.setCell ⟨p, 2, none⟩ (.slice va (j + 1) vc)) p [.int .i64 x1, .int .i64 x0, .slice va (j + 1) vc] := R5.set (by simp) _
              have o6 := p5.kept (grownSet W5 p 2 (.slice va (j + 1) vc)) (blockCases _ _ fun i c1 c2 => by
                have e2 : p = i := by simpa using c2
                have := (p5.lt i c1).1
                omega)
              have B6 : Below p W4 (W5.setCell ⟨p, 2, none⟩ (.slice va (j + 1) vc)) := ((hBA _).grown g5 (Nat.le_of_lt (hltA _)) (fun i hi => by have := hub i hi; omega)).setCell (p := ⟨p, 2, none⟩) (Nat.le_refl _) _
              rw [← HTK.out] at o6
              have O6 : Hid (World.ownsRow _ _ _ _ _ _ _) := o6
              clear m5 y5 R5 p5 g5 k5 o6 hRA hltA hneA hBA hu hR hbx hub m2 y2 da2
              go_wp2
              go_roundw
              case rel => exact ⟨j + 1, _, by omega, by first | rfl | go_num, R6, O6.out, B6⟩
              case measure => first | (simp [intOf]; omega) | simp [intOf]
          · have hT : turnL s = (⟨#[45]⟩ : ByteArray) ++ s.extract 1 s.size := by unfold turnL turnM; rw [hm]; rfl
            rw [mark0_eq s hpos] at hm
            obtain ⟨y, hy⟩ : ∃ y, (⟨#[45]⟩ : ByteArray) ++ s.extract 1 s.size = y := ⟨_, rfl⟩
            rw [hT, hy] at htk
            have hcs : ¬ 9223372036854775807 < 1 + (s.size - 1) := by omega
            have HTK : Hid (((ss.take (j + 1)).map turnL).map Value.string = ((ss.take j).map turnL).map Value.string ++ [.string y]) := htk
            clear htk hT
            go_wp2
            go_region_law (refine step_append_at rfl (.tmp 59) (.tmp 64) 22 rfl (p + 1) 9 i0 (.string ByteArray.empty) 1 16 Try.underlying22 hi hz0 hz1 hz2 rfl (by decide) _ _ _ rfl ((hu.alloc _).drew) ⟨wr.heap.size, 0, none⟩ 1 1 [.string y] rfl rfl (cell_one_new wr _ _) (by simp [Value.oneCell']) (by unfold maxLen; omega) (by omega) (by show _ ≤ (wr.alloc _).heap.size; simp; omega) ?_; intro v' W5 p5 g5 k5; have R5 := Rf.grown (hRA _) g5 hneA (hltA _); have m5 := R5.at_ 2 _ rfl; have y5 := R5.fz 2; obtain ⟨va, vc, ev⟩ := shapeS p5; subst ev)
            all_goals
              have R6 : Rf (W5.setCell ⟨p, 2, none⟩ (.slice va (j + 1) vc)) p [.int .i64 x1, .int .i64 x0, .slice va (j + 1) vc] := R5.set (by simp) _
              have o6 := p5.kept (grownSet W5 p 2 (.slice va (j + 1) vc)) (blockCases _ _ fun i c1 c2 => by
                have e2 : p = i := by simpa using c2
                have := (p5.lt i c1).1
                omega)
              have B6 : Below p W4 (W5.setCell ⟨p, 2, none⟩ (.slice va (j + 1) vc)) := ((hBA _).grown g5 (Nat.le_of_lt (hltA _)) (fun i hi => by have := hub i hi; omega)).setCell (p := ⟨p, 2, none⟩) (Nat.le_refl _) _
              rw [← HTK.out] at o6
              have O6 : Hid (World.ownsRow _ _ _ _ _ _ _) := o6
              clear m5 y5 R5 p5 g5 k5 o6 hRA hltA hneA hBA hu hR hbx hub m2 y2 da2
              go_wp2
              go_roundw
              case rel => exact ⟨j + 1, _, by omega, by first | rfl | go_num, R6, O6.out, B6⟩
              case measure => first | (simp [intOf]; omega) | simp [intOf]
        · have qj : ¬ (j : Int) < (ss.length : Int) := by omega
          obtain rfl : j = ss.length := by omega
          rw [List.take_length] at hu
          have Bx : Below WO.heap.size WO wr := b34.trans (hbx.mono (by omega))
          have hOx := hO.below Bx
          have hRx := hRQ.below (show Q < WO.heap.size by omega) Bx
          have hul : ∀ i, u.ownBlock = some i → p + 1 ≤ i := fun i hi => (hu.lt i hi).1
          have hvl : ∀ i, vO.ownBlock = some i → i < p := fun i hi => by have := (hO.row.lt i hi).2; omega
          have hvb : ∀ i, vO.ownBlock = some i → Q + 1 ≤ i := fun i hi => (hO.row.lt i hi).1
          have hel : ∀ n, n < ((l.take k).map revH).length → ∀ i, (sl n).ownBlock = some i → i < p := fun n hn i hi => by have := ((hO.each n hn).lt i hi).2; omega
          have hu' : wr.ownsRow (Q + 1) 9 1 u (revH (x0, x1, ss)).2.2.length ((revH (x0, x1, ss)).2.2.map Value.string) := by
            show wr.ownsRow (Q + 1) 9 1 u (ss.map turnL).length ((ss.map turnL).map Value.string)
            rw [List.length_map]; exact ownMono hu (by omega)
          obtain ⟨ua, uc, eu⟩ := shapeS hu
          obtain ⟨va, vc, ev⟩ := shape3 hOx.row
          have m0 := hR.at_ 0 _ rfl
          have m1 := hR.at_ 1 _ rfl
          have m2 := hR.at_ 2 _ rfl
          have hPU := fun (W5 : World) (v' : Value) o p5 g5 k5 => HO.push (w6 := W5) (v' := v') (o := o) (h := revH (x0, x1, ss)) hOx hu' (fun i c1 c2 => by have := hul i c1; have := hvl i c2; omega) (fun n hn i c1 c2 => by have := hul i c1; have := hel n hn i c2; omega) p5 g5 k5
          have hrow := hOx.row
          have hLl : ((l.take k).map revH).length ≤ 1048576 := by rw [List.length_map, List.length_take]; omega
          obtain ⟨L, hLe⟩ : ∃ L, (l.take k).map revH = L := ⟨_, rfl⟩
          have HRT2 : Hid ((l.take (k + 1)).map revH = L ++ [revH (x0, x1, ss)]) := by show _ = _; rw [HRT.out, hLe]
          rw [hLe] at hPU hrow hLl ev
          have hBw : Below Q WQ wr := hbel.trans (Bx.mono (by omega))
          have hQx : Q < wr.heap.size := by have := Bx.size; omega
          have hRQA : ∀ o, Rf (wr.alloc o) Q [.int .i64 0, .int .i64 0, vO] := fun o => hRx.below hQx (allocBelow wr o)
          have hltQ : ∀ o, Q < (wr.alloc o).heap.size := fun o => by simp; omega
          have hneQ : some Q ≠ vO.ownBlock := fun e => by have := hvb Q e.symm; omega
          have t2 := hRx.at_ 2 _ rfl
          subst eu ev
          clear hOx hO hu hu' hul hel HRT hLe Bx hRx hvl hpO
          go_wp2_with ((at_builtin; refine wpList_append_own_at _ rfl (.tmp 68) (.tmp 70) 30 rfl (Q + 1) 51 i1 (.agg #[.int .i64 0, .int .i64 0, .slice none 0 0]) 3 40 Try.underlying30 hi' hy0 hy1 hy2 rfl (by decide) _ _ _ rfl (hrow.alloc _) ⟨wr.heap.size, 0, none⟩ 1 1 [.int .i64 x1, .int .i64 x0, .slice ua ss.length uc] rfl rfl (newsRow wr #[.int .i64 x1, .int .i64 x0, .slice ua ss.length uc] 51) (by simp [Value.oneCell']) (by unfold maxLen; omega) (by omega) (by simp; omega) ?_; intro v' W5 p5 g5 _ k5; have R5 := Rf.grown (hRQA _) g5 hneQ (hltQ _); have m5 := R5.at_ 2 _ rfl; have y5 := R5.fz 2; have HH := hPU W5 v' _ p5 g5 k5; obtain ⟨xa, xc, ex⟩ := shape3 p5; subst ex))
          rw [← HRT2.out] at HH
          have R6 : Rf (W5.setCell ⟨Q, 2, none⟩ (.slice xa (L.length + 1) xc)) Q [.int .i64 0, .int .i64 0, .slice xa (L.length + 1) xc] := R5.set (by simp) _
          have H6 : Hid (HO _ _ _ _ _) := HH.grown (grownSet W5 Q 2 (.slice xa (L.length + 1) xc)) (by omega)
          have B5 : Below Q WQ (W5.setCell ⟨Q, 2, none⟩ (.slice xa (L.length + 1) xc)) := ((hBw.alloc (by omega) _).grown g5 (by simp; omega) (fun i hi => by have := hvb i hi; omega)).setCell (p := ⟨Q, 2, none⟩) (Nat.le_refl _) _
          clear hPU HH p5 g5 k5 hrow hR hbx m0 m1 m2 R5 m5 y5 t2
          go_roundw
          case rel => exact ⟨k + 1, _, _, by omega, by first | rfl | go_num, R6, H6.out, B5⟩
          case measure => first | (simp [intOf]; omega) | simp [intOf]
    · have q : ¬ (k : Int) < (l.length : Int) := by omega
      obtain rfl : k = l.length := by omega
      rw [List.take_length] at hO
      obtain ⟨va, vc, e⟩ := shape3 hO.row
      subst e
      have r3 : Rf WO w.heap.size [.int .i64 0, .int .i64 0, .slice none 0 0] := ⟨fun k v hk => (hbel.cell (p := ⟨w.heap.size, k, none⟩) z2).trans (r2.at_ k v hk), fun k => (hbel.frozen (p := ⟨w.heap.size, k, none⟩) z2).trans (r2.fz k)⟩
      have HB := below_set3 (BB.trans (hbel.mono (by omega))) (Nat.le_refl w.heap.size) (.int .i64 0) (.int .i64 0) (.slice va (l.map revH).length vc)
      have HH : Hid (HO w.heap.size (((WO.setCell ⟨w.heap.size, 0, none⟩ (.int .i64 0)).setCell ⟨w.heap.size, 1, none⟩ (.int .i64 0)).setCell ⟨w.heap.size, 2, none⟩ (.slice va (l.map revH).length vc)) (.slice va (l.map revH).length vc) (l.map revH) sl) :=
        (hO.grown (grownSet3 WO w.heap.size _ _ _) (by omega)).mono (by omega)
      have e0 := r3.at_ 0 _ rfl
      have e1 := r3.at_ 1 _ rfl
      have e2 := r3.at_ 2 _ rfl
      have f0 := r3.fz 0
      have f1 := r3.fz 1
      have f2 := r3.fz 2
      have t0 := hRQ.at_ 0 _ rfl
      have t1 := hRQ.at_ 1 _ rfl
      have t2 := hRQ.at_ 2 _ rfl
      obtain ⟨N, hN⟩ : ∃ N, (l.map revH).length = N := ⟨_, rfl⟩
      rw [hN] at HH HB t2
      clear hO r3 r2 hbel hRQ
      go_wp2
      refine bodyPost_ret (v := .agg #[.int .i64 0, .int .i64 0, .slice va N vc]) (by simp [results, Try.results19, go_sem, e0, e1, e2]) rfl ?_
      exact ⟨_, sl, rfl, HH.out, HB⟩

set_option maxHeartbeats 2000000 in
theorem specReverseHunks (a : Option Addr) (c : Nat) (l : List Hk) (w : World) (h : HB w.heap.size w a l) (hn : l.length ≤ 1048576) (hs : Shortly l) (hz : ∀ h ∈ l, ∀ s ∈ h.2.2, s.size ≤ 1048576) :
    Calls Try.prog 19 #[.slice a l.length c] w fun e w' => HP (hf l) 0 (rvL l) w e w' := by
  by_cases h0 : hf l = 0
  · rw [rvL_ok h0, h0]
    exact specReverse a c l w h hn hs hz (hf_ok h0) h0
  · rw [rvL_no h0]
    have hA := fun w h => specHunksFault a c l w h hn hs
    have hb := ne_beq h0
    obtain ⟨v, hv⟩ : ∃ v, hf l = v := ⟨_, rfl⟩
    rw [hv] at hA hb ⊢
    clear h0 hv
    obtain ⟨W1, hW1⟩ : ∃ W1, w.alloc (.cells #[.int .i64 0, .int .i64 0, .slice none 0 0] 39) = W1 := ⟨_, rfl⟩
    have b1 : Below w.heap.size w W1 := by rw [← hW1]; exact allocBelow _ _
    have zW : w.heap.size < W1.heap.size := by rw [← hW1]; simp
    have r1 : Rf W1 w.heap.size [.int .i64 0, .int .i64 0, .slice none 0 0] := by rw [← hW1]; exact Rf.new _ _ _
    have A1 := h.below b1
    go_enter Try.func19, Try.ntmps19
    go_wp2_with fail
    refine (hA _ (A1.mono (by omega))).mono ?_; rintro e w2 ⟨rfl, b2⟩
    have r2 := r1.below zW b2
    have BB := b1.trans (b2.mono b1.size)
    have HB := below_set3 BB (Nat.le_refl w.heap.size) (.int .i64 v) (.int .i64 0) (.slice none 0 0)
    have e0 := r2.at_ 0 _ rfl
    have e1 := r2.at_ 1 _ rfl
    have e2 := r2.at_ 2 _ rfl
    have f0 := r2.fz 0
    have f1 := r2.fz 1
    have f2 := r2.fz 2
    clear r1 r2 A1 b1 b2 hA BB hW1
    go_wp2
    refine bodyPost_ret (v := .agg #[.int .i64 v, .int .i64 0, .slice none 0 0]) (by simp [results, Try.results19, go_sem, e0, e1, e2]) rfl ?_
    exact ⟨_, fun _ => .slice none 0 0, rfl, HO.nil _ _ _, HB⟩
end Go.Proofs.Ytidjcjeiigjmaai
