/- The contract of spec.l7Sort. No statement is proved here. -/
import Derived.Test.YtkgcpndnlefkoaaGreatDoorRows
import Derived.Test.YtkgcpndnlefkoaaGreatDoorLemQ
import Derived.Test.YtkgcpndnlefkoaaGreatDoorDTabQ
import Derived.Test.YtkgcpndnlefkoaaGreatDoorInQ
import Derived.Test.YtkgcpndnlefkoaaGreatDoorLFLemQ
import Derived.Test.YtkgcpndnlefkoaaGreatDoorFfCQ
import Derived.Test.YtkgcpndnlefkoaaGreatDoorDfMQ
import Derived.Test.YtkgcpndnlefkoaaGreatDoorDfBQ
import Derived.WalkKit
import Derived.ProofKit
import Derived.Below
import Derived.WalkSpells
import Derived.Deep.QuietTactic
import Derived.BigQuiet
import Derived.Deep.RegionWith
import Derived.Deep.RegionHeld
import Derived.Deep.RegionLaw
import Derived.Deep.CutRange
import Derived.Maps.AppendAt
import Derived.Laws.BitsLemmas
import Derived.Laws.Cover1
set_option linter.unusedVariables false
namespace Go.Proofs.YtkgcpndnlefkoaaGreatDoor.Fl
open Go.ChangeShapes Go.WideShapes Go.ChangeAt Go.RowKit
/-- Files sorted. -/
def SP (l : List Ob) (w : World) (e : Ending) (w' : World) : Prop := ∃ (L : List Ob) (g c : Nat), e = .returned (.slice (some ⟨g, 0, none⟩) L.length c) ∧ w'.ownsRow w.heap.size 42 3 (.slice (some ⟨g, 0, none⟩) L.length c) L.length (ocells L) ∧ Below w.heap.size w w' ∧ Sd L ∧ L.Perm l
theorem capE {w : World} {base g c n : Nat} {xs : List Value} (h : w.ownsRow base 42 3 (.slice (some ⟨g, 0, none⟩) n c) n xs) : n ≤ c ∧ base ≤ g ∧ g < w.heap.size := ⟨rowCap h, h.lt g rfl⟩
set_option maxRecDepth 20000 in
set_option maxHeartbeats 16000000 in
theorem l7SortC (a : Option Addr) (c0 : Nat) (l : List Ob) (w : World) (h : OB w.heap.size w a l) (hn : l.length ≤ 1048576) :
    Calls Tryz.prog 37 #[.slice a l.length c0] w fun e w' => SP l w e w' := by
  go_enter Tryz.func37, Tryz.ntmps37
  go_wp2
  go_loopw [3, 4, 5] (fun v i _t wr => ∃ (k : Nat) (T : List Ob) (g c : Nat), k ≤ l.length ∧ i = .int .i64 k ∧ v = .slice (some ⟨g, 0, none⟩) T.length c ∧ wr.ownsRow w.heap.size 42 3 (.slice (some ⟨g, 0, none⟩) T.length c) T.length (ocells T) ∧ Below w.heap.size w wr ∧ Sd T ∧ T.Perm (l.take k)) (fun _ i _ _ => l.length - (intOf i).toNat)
  case atStart => exact ⟨0, [], w.heap.size, 0, Nat.zero_le _, rfl, rfl, litE w, allocBelow _ _, List.Pairwise.nil, by simp⟩
  case round =>
    obtain ⟨kk, T, g, c, hkk, rfl, rfl, hown, hbel, hSd', hPm'⟩ := hrel
    have hSd : Hid (Sd T) := hSd'
    have hPm : Hid (T.Perm (l.take kk)) := hPm'
    clear hSd' hPm'
    by_cases hlt : kk < l.length
    rotate_left
    · have q : ¬ (kk : Int) < (l.length : Int) := by omega
      have HS : Hid (SP l w (.returned (.slice (some ⟨g, 0, none⟩) T.length c)) wr) := ⟨T, g, c, rfl, hown, hbel, hSd.out, by have := hPm.out; rwa [List.take_of_length_le (by omega)] at this⟩
      clear hown hbel hSd hPm
      go_wp2
      go_ret
      exact HS.out
    have hlt2 : Hid (kk < l.length) := hlt
    have q : (kk : Int) < (l.length : Int) := by omega
    have hTl : T.length = kk := by have := hPm.out.length_eq; rw [List.length_take] at this; omega
    obtain ⟨qa, qo, e, hqa, d0, d1, d2⟩ := (h.below hbel) kk hlt
    subst e
    have hgo := capE hown
    have hn2 : T.length ≤ 1048575 := by omega
    have O1 : OB wr.heap.size wr (some ⟨g, 0, none⟩) T := OB.of hown
    have HT2 : Hid (∀ m f, f = l.getD kk onil → (insL T m f).Perm (l.take (kk + 1))) := fun m f hf => by
      rw [ob_take l kk hlt, hf]
      exact (perm_ins T m _).trans (hPm.out.append_right _)
    have hsz0 := hbel.size
    obtain ⟨C, hC⟩ : ∃ C, l.getD kk onil = C := ⟨_, rfl⟩
    obtain ⟨x0, x1, x2⟩ := C
    rw [hC] at d0 d1 d2 HT2
    simp only [] at d0 d1 d2
    have HT3 : Hid (∀ m, (insL T m (x0, x1, x2)).Perm (l.take (kk + 1))) := fun m => HT2.out m _ rfl
    have hpl : Hid (∀ m, m ≤ T.length → (∀ j, m ≤ j → j < T.length → plt x0 (T.getD j onil).1) → (0 < m → ¬ plt x0 (T.getD (m - 1) onil).1) → Sd (insL T m (x0, x1, x2))) := fun m hm h1 h2 => sd_ins hSd.out hm h1 h2
    obtain ⟨oo, hoo⟩ : ∃ o, qo + kk * 3 = o := ⟨_, rfl⟩
    rw [hoo] at d0 d1 d2
    obtain ⟨tl, htl⟩ : ∃ n, T.length = n := ⟨_, rfl⟩
    have HTl : Hid (T.length = kk) := hTl
    clear HT2 hC hSd hPm hown hTl htl
    go_wp2
    obtain ⟨Wo, rfl⟩ : ∃ W, W = wr := ⟨_, rfl⟩
    go_loopw [5] (fun i wr => ∃ k : Nat, k ≤ T.length ∧ i = .int .i64 k ∧ Below Wo.heap.size Wo wr ∧ Hid (∀ j, k ≤ j → j < T.length → plt x0 (T.getD j onil).1)) (fun i _ => (intOf i).toNat)
    case atStart => exact ⟨T.length, Nat.le_refl _, rfl, Below.refl _ _, fun j h1 h2 => absurd h2 (by omega)⟩
    case round =>
      obtain ⟨k, hkl, rfl, hbx, hup⟩ := hrel
      have hsz := hbx.size
      have y0 := zS hbx d0
      have y1 := zS hbx d1
      have y2 := zS hbx d2
      have O4 : OB Wo.heap.size wr (some ⟨g, 0, none⟩) T := O1.below hbx
      obtain ⟨Gb, hGb⟩ : ∃ G, (decide (0 < k) && Op.bytesLess x0.toList (T.getD (k - 1) onil).1.toList) = G := ⟨_, rfl⟩
      have HG : Hid ((decide (0 < k) && Op.bytesLess x0.toList (T.getD (k - 1) onil).1.toList) = Gb) := hGb
      clear hGb
      go_wp2_with fail
      go_cut [30] from 15 to 31 (fun s wy => s = .bool Gb ∧ Below wr.heap.size wr wy)
      case first =>
        have BN : ∀ n, Below wr.heap.size wr (wr.drewN n) := fun n => ⟨rfl, rfl, rfl, Nat.le_refl _, fun _ _ => rfl⟩
        clear hpl hup d0 d1 d2 hbx y1 y2 O1 HT3
        rcases Nat.eq_zero_or_pos k with rfl | hpos
        · have hG0 : Gb = false := by rw [← HG.out]; rfl
          subst hG0
          clear O4 HG
          go_quiet (fail)
          all_goals (go_wp2_with fail; go_meet; exact ⟨rfl, BN _⟩)
        · obtain ⟨m, rfl⟩ : ∃ m, k = m + 1 := ⟨k - 1, by omega⟩
          obtain ⟨g', off', e, _, e0, _, _⟩ := O4 m (by omega)
          simp only [Option.some.injEq, Addr.mk.injEq, and_true] at e
          obtain ⟨rfl, rfl⟩ := e
          rw [Nat.zero_add] at e0
          have hG1 := HG.out
          rw [Nat.add_sub_cancel] at hG1
          have i1 : (0 : Int) < (m : Int) + 1 := by omega
          have i2 : IntKind.i64.wrap ((m : Int) + 1 - 1) = (m : Int) := by rw [IntKind.wrap_i64]; omega
          have i3 : IntKind.i64.wrap (m : Int) = (m : Int) := by rw [IntKind.wrap_i64]; omega
          have i4 : (m : Int) < (T.length : Int) := by omega
          have i5 : ¬ (m : Int) < 0 := by omega
          obtain ⟨C, hC⟩ : ∃ C, T.getD m onil = C := ⟨_, rfl⟩
          obtain ⟨a0, a1, a2⟩ := C
          rw [hC] at e0 hG1
          simp only [] at e0
          clear hC O4 HG
          by_cases b1 : plt x0 a0
          · have hG2 : Gb = true := by rw [← hG1, plt_less.2 b1, decide_eq_true hpos]; rfl
            subst hG2
            have hgt := gtF a0 x0 b1
            clear hG1
            go_quiet (fail)
            all_goals (go_wp2_with fail; go_meet; exact ⟨rfl, BN _⟩)
          · have hG2 : Gb = false := by rw [← hG1, plt_no.2 b1, Bool.and_false]
            subst hG2
            have hgt := gtN a0 x0 b1
            clear hG1
            go_quiet (fail)
            all_goals (go_wp2_with fail; go_meet; exact ⟨rfl, BN _⟩)
      case rest =>
      obtain ⟨rfl, hbC⟩ := hcut
      have B9 := hbx.trans (hbC.mono hsz)
      have HGo := HG.out
      cases Gb with
      | true =>
        have hgo2 : 0 < k ∧ plt x0 (T.getD (k - 1) onil).1 := ⟨of_decide_eq_true (Bool.and_eq_true_iff.1 HGo).1, plt_less.1 (Bool.and_eq_true_iff.1 HGo).2⟩
        obtain ⟨m, rfl⟩ : ∃ m, k = m + 1 := ⟨k - 1, by omega⟩
        have i2 : IntKind.i64.wrap ((m : Int) + 1 - 1) = (m : Int) := by rw [IntKind.wrap_i64]; omega
        have i3 : IntKind.i64.wrap (m : Int) = (m : Int) := by rw [IntKind.wrap_i64]; omega
        have HU : Hid (∀ j, m ≤ j → j < T.length → plt x0 (T.getD j onil).1) := fun j q1 q2 => by
          by_cases e : j = m
          · rw [e]; have h9 := hgo2.2; rw [Nat.add_sub_cancel] at h9; exact h9
          · exact hup.out j (by omega) q2
        have HBB : Hid (Below Wo.heap.size Wo wc) := B9
        clear HGo HG hgo2 hup hpl d0 d1 d2 y0 y1 y2 O4 O1 hbx hbC B9 HT3
        go_wp2
        go_roundw
        case rel => exact ⟨m, by omega, by go_num, HBB.out, HU⟩
        case measure => first | (simp [intOf]; omega) | simp [intOf]
      | false =>
        have HSd : Hid (Sd (insL T k (x0, x1, x2))) := hpl.out k hkl hup.out (fun q1 q2 => by rw [plt_less.2 q2, decide_eq_true q1] at HGo; cases HGo)
        have HPm : Hid ((insL T k (x0, x1, x2)).Perm (l.take (kk + 1))) := HT3.out k
        have OC := O4.below hbC
        have y0 := zS hbC y0
        have y1 := zS hbC y1
        have y2 := zS hbC y2
        obtain ⟨bw, hbw⟩ : ∃ b, w.heap.size = b := ⟨_, rfl⟩
        rw [hbw] at hbel hgo hqa hsz0
        have BW : Below bw w wc := hbel.trans (B9.mono hsz0)
        have zq : bw ≤ wc.heap.size := by have := hbC.size; omega
        have hg : g < wc.heap.size := by have := hbC.size; omega
        have hc := hgo.1
        clear HGo HG hup hpl d0 d1 d2 O4 O1 hbx hbC B9 HT3 hbel
        have qkc : (k : Int) ≤ (c : Int) := by omega
        have qkl : (k : Int) ≤ (T.length : Int) := by omega
        have qn0 : (0 : Int) ≤ (k : Int) := by omega
        obtain ⟨i0, hi, hz0, hz1, hz2⟩ := info_parts infoObj
        obtain ⟨z, hzz⟩ : ∃ z, wc.heap.size = z := ⟨_, rfl⟩
        have hbz : bw ≤ z := by omega
        have hqz : qa < z := by omega
        have hgz : g < z := by omega
        have neX : ∀ {W : World} {v : Value} {n : Nat} {xs : List Value} (h : W.ownsRow z 42 3 v n xs), some g ≠ v.ownBlock := fun h e => by have := (h.lt g e.symm).1; omega
        have neQ : ∀ {W : World} {v : Value} {n : Nat} {xs : List Value} (h : W.ownsRow z 42 3 v n xs), some qa ≠ v.ownBlock := fun h e => by have := (h.lt qa e.symm).1; omega
        have bA := allocBelow wc (.cells #[] 42)
        have bAB := allocBelow (wc.alloc (.cells #[] 42)) (.cells #[.string x0, .int .i64 x1, .string x2] 42)
        have bC := allocBelow wc (.cells #[.string x0, .int .i64 x1, .string x2] 42)
        have bBA := allocBelow (wc.alloc (.cells #[.string x0, .int .i64 x1, .string x2] 42)) (.cells #[] 42)
        have bA2 : Below wc.heap.size wc ((wc.alloc (.cells #[] 42)).alloc (.cells #[.string x0, .int .i64 x1, .string x2] 42)) := bA.trans (bAB.mono bA.size)
        have bC2 : Below wc.heap.size wc ((wc.alloc (.cells #[.string x0, .int .i64 x1, .string x2] 42)).alloc (.cells #[] 42)) := bC.trans (bBA.mono bC.size)
        have oA0 : (wc.alloc (.cells #[] 42)).ownsRow z 42 3 (.slice (some ⟨z, 0, none⟩) 0 0) 0 [] := by rw [← hzz]; exact World.ownsRow_made wc #[] 0 (Nat.le_refl _) (by unfold maxLen; omega) rfl
        have oA : (wc.alloc (.cells #[] 42)).drew.ownsRow z 42 3 (.slice (some ⟨z, 0, none⟩) 0 0) 0 [] := oA0.drew
        have oAB : ((wc.alloc (.cells #[] 42)).alloc (.cells #[.string x0, .int .i64 x1, .string x2] 42)).drew.ownsRow z 42 3 (.slice (some ⟨z, 0, none⟩) 0 0) 0 [] := (oA0.kept (grownOfBelow bAB none) (blockCases _ _ fun b c1 c2 => by cases c2)).drew
        have oBA : ((wc.alloc (.cells #[.string x0, .int .i64 x1, .string x2] 42)).alloc (.cells #[] 42)).drew.ownsRow z 42 3 (.slice (some ⟨z + 1, 0, none⟩) 0 0) 0 [] := by
          have h9 := World.ownsRow_made (base := z + 1) (e := 42) (size := 3) (wc.alloc (.cells #[.string x0, .int .i64 x1, .string x2] 42)) #[] 0 (by rw [World.size_alloc, hzz]; exact Nat.le_refl _) (by unfold maxLen; omega) rfl
          rw [World.size_alloc, hzz] at h9
          exact (ownMonoF h9 (by omega)).drew
        have zA : z ≤ (wc.alloc (.cells #[] 42)).drew.heap.size := by rw [← hzz]; exact bA.size
        have zAB : z ≤ ((wc.alloc (.cells #[] 42)).alloc (.cells #[.string x0, .int .i64 x1, .string x2] 42)).drew.heap.size := by rw [← hzz]; exact bA2.size
        have zBA : z ≤ ((wc.alloc (.cells #[.string x0, .int .i64 x1, .string x2] 42)).alloc (.cells #[] 42)).drew.heap.size := by rw [← hzz]; exact bC2.size
        have BA : Below bw w (wc.alloc (.cells #[] 42)).drew := (BW.trans (bA.mono (by omega))).drew
        have BAB : Below bw w ((wc.alloc (.cells #[] 42)).alloc (.cells #[.string x0, .int .i64 x1, .string x2] 42)).drew := (BW.trans (bA2.mono (by omega))).drew
        have BBA : Below bw w ((wc.alloc (.cells #[.string x0, .int .i64 x1, .string x2] 42)).alloc (.cells #[] 42)).drew := (BW.trans (bC2.mono (by omega))).drew
        have y0A : (wc.alloc (.cells #[] 42)).drew.cell? ⟨qa, oo, none⟩ = some (.string x0) := zS bA.drew y0
        have y1A : (wc.alloc (.cells #[] 42)).drew.cell? ⟨qa, oo + 1, none⟩ = some (.int .i64 x1) := zS bA.drew y1
        have y2A : (wc.alloc (.cells #[] 42)).drew.cell? ⟨qa, oo + 2, none⟩ = some (.string x2) := zS bA.drew y2
        have yD0 : wc.drew.cell? ⟨qa, oo, none⟩ = some (.string x0) := y0
        have yD1 : wc.drew.cell? ⟨qa, oo + 1, none⟩ = some (.int .i64 x1) := y1
        have yD2 : wc.drew.cell? ⟨qa, oo + 2, none⟩ = some (.string x2) := y2
        have nA := newsTakeE (OC.below bA.drew) k hkl
        have nAB := newsTakeE (OC.below bA2.drew) k hkl
        have nBA := newsTakeE (OC.below bC2.drew) k hkl
        have cAB : ∀ j u, (ocells [(x0, x1, x2)])[j]? = some u → ((wc.alloc (.cells #[] 42)).alloc (.cells #[.string x0, .int .i64 x1, .string x2] 42)).drew.cell? ((⟨z + 1, 0, none⟩ : Addr).add j) = some u := by
          have h9 := newE (wc.alloc (.cells #[] 42)) (x0, x1, x2)
          rw [World.size_alloc, hzz] at h9
          exact h9
        have cBA : ∀ j u, (ocells [(x0, x1, x2)])[j]? = some u → ((wc.alloc (.cells #[.string x0, .int .i64 x1, .string x2] 42)).alloc (.cells #[] 42)).drew.cell? ((⟨z, 0, none⟩ : Addr).add j) = some u := by
          have h9 := newE wc (x0, x1, x2)
          rw [hzz] at h9
          exact newsBelowE bBA.drew h9
        have hlt : (ocells (T.take k)).length = k * 3 := by rw [ocells_length, List.length_take]; omega
        have hld : (ocells (T.drop k)).length = (T.length - k) * 3 := by rw [ocells_length, List.length_drop]
        by_cases hcc : k = c
        · have e0 : T.drop k = [] := List.drop_eq_nil_of_le (by omega)
          have nD : ∀ (W : World) i u, (ocells (T.drop k))[i]? = some u → W.cell? ((⟨g, 0, none⟩ : Addr).add i) = some u := fun W i u hu => by
            have := ocells_ltE hu
            rw [e0] at this
            simp at this
          have hld0 : (ocells (T.drop k)).length = 0 * 3 := by rw [e0]; rfl
          have nDA := nD (wc.alloc (.cells #[] 42)).drew
          have nDB := nD ((wc.alloc (.cells #[] 42)).alloc (.cells #[.string x0, .int .i64 x1, .string x2] 42)).drew
          have nDC := nD ((wc.alloc (.cells #[.string x0, .int .i64 x1, .string x2] 42)).alloc (.cells #[] 42)).drew
          subst hcc
          clear nD e0 bA bAB bC bBA bA2 bC2 oA0 OC BW
          go_wp2_with fail
          go_region_law (first
              | (have gd := p5; clear gd; refine stepApp rfl (.tmp 43) (.tmp 46) 24 rfl z 42 i0 (.agg #[.string ⟨#[]⟩, .int .i64 0, .string ⟨#[]⟩]) 3 40 Tryz.underlying24 hi hz0 hz1 hz2 rfl (by decide) (.slice ua (k + 1) uc) _ _ rfl p5 ⟨g, 0, none⟩ 0 _ (ocells (T.drop k)) rfl hld0 D5 (oneE _) (by unfold maxLen; omega) (by omega) z5 ?_; intro v7 w7 p7 g7 _; have B7 := B5.grown g7 (Nat.le_trans hbz z5) (fun i hi => Nat.le_trans hbz (p5.lt i hi).1))
              | (have gd := mkA; clear gd; refine stepApp rfl (.tmp 37) (.tmp 42) 24 rfl z 42 i0 (.agg #[.string ⟨#[]⟩, .int .i64 0, .string ⟨#[]⟩]) 3 40 Tryz.underlying24 hi hz0 hz1 hz2 rfl (by decide) (.slice va k vc) _ _ rfl pB ⟨w3.heap.size, 0, none⟩ 1 _ (ocells [(x0, x1, x2)]) rfl (ocells_length _) nB (oneE _) (by unfold maxLen; omega) (by omega) zB ?_; intro v5 w5 p5 g5 _; obtain ⟨ua, uc, rfl⟩ := shapeK3 p5; have z5 := Nat.le_trans zB g5.size; have B5 := B4.grown g5 (Nat.le_trans hbz zB) (fun i hi => Nat.le_trans hbz (pB.lt i hi).1); have D5 := newsKeepE g5 (neX pB) D4)
              | (have gd := mkB; clear gd; refine stepApp rfl (.tmp 37) (.tmp 42) 24 rfl z 42 i0 (.agg #[.string ⟨#[]⟩, .int .i64 0, .string ⟨#[]⟩]) 3 40 Tryz.underlying24 hi hz0 hz1 hz2 rfl (by decide) (.slice va k vc) _ _ rfl p3 ⟨z + 1, 0, none⟩ 1 _ (ocells [(x0, x1, x2)]) rfl (ocells_length _) nC (oneE _) (by unfold maxLen; omega) (by omega) zC ?_; intro v5 w5 p5 g5 _; obtain ⟨ua, uc, rfl⟩ := shapeK3 p5; have z5 := Nat.le_trans zC g5.size; have B5 := B3.grown g5 (Nat.le_trans hbz zC) (fun i hi => Nat.le_trans hbz (p3.lt i hi).1); have D5 := newsKeepE g5 (neX p3) D3)
              | (have gd := mkC; clear gd; refine stepApp rfl (.tmp 37) (.tmp 42) 24 rfl z 42 i0 (.agg #[.string ⟨#[]⟩, .int .i64 0, .string ⟨#[]⟩]) 3 40 Tryz.underlying24 hi hz0 hz1 hz2 rfl (by decide) (.slice va k vc) _ _ rfl p3 ⟨z, 0, none⟩ 1 _ (ocells [(x0, x1, x2)]) rfl (ocells_length _) nE (oneE _) (by unfold maxLen; omega) (by omega) zE ?_; intro v5 w5 p5 g5 _; obtain ⟨ua, uc, rfl⟩ := shapeK3 p5; have z5 := Nat.le_trans zE g5.size; have B5 := B3.grown g5 (Nat.le_trans hbz zE) (fun i hi => Nat.le_trans hbz (p3.lt i hi).1); have D5 := newsKeepE g5 (neX p3) D3)
              | (refine stepApp rfl (.tmp 33) (.tmp 36) 24 rfl z 42 i0 (.agg #[.string ⟨#[]⟩, .int .i64 0, .string ⟨#[]⟩]) 3 40 Tryz.underlying24 hi hz0 hz1 hz2 rfl (by decide) (.slice (some ⟨z, 0, none⟩) 0 0) _ _ rfl oA ⟨g, 0, none⟩ k _ (ocells (T.take k)) rfl hlt nA (oneE _) (by unfold maxLen; omega) (by omega) zA ?_; intro v3 w3 p3 g3' _; replace p3 := zaddE p3; obtain ⟨va, vc, rfl⟩ := shapeK3 p3; have mkA := p3; have zz3 := g3'.size; have B3 := BA.grown g3' (Nat.le_trans hbz zA) (fun i hi => Nat.le_trans hbz (oA.lt i hi).1); have D3 := newsKeepE g3' (neX oA) nDA; have y0 := g3'.cell y0A (neQ oA); have y1 := g3'.cell y1A (neQ oA); have y2 := g3'.cell y2A (neQ oA); have pB := p3.kept (grownOfBelow (allocBelow w3 (.cells #[.string x0, .int .i64 x1, .string x2] 42)) none) (blockCases _ _ fun b c1 c2 => by cases c2); have nB := newE w3 (x0, x1, x2); have zB : z ≤ (w3.alloc (.cells #[.string x0, .int .i64 x1, .string x2] 42)).heap.size := Nat.le_trans (Nat.le_trans zA zz3) (allocBelow w3 (.cells #[.string x0, .int .i64 x1, .string x2] 42)).size; have B4 := B3.trans ((allocBelow w3 (.cells #[.string x0, .int .i64 x1, .string x2] 42)).mono (Nat.le_trans hbz (Nat.le_trans zA zz3))); have D4 := newsBelowE (allocBelow w3 (.cells #[.string x0, .int .i64 x1, .string x2] 42)) D3)
              | (refine stepApp rfl (.tmp 33) (.tmp 36) 24 rfl z 42 i0 (.agg #[.string ⟨#[]⟩, .int .i64 0, .string ⟨#[]⟩]) 3 40 Tryz.underlying24 hi hz0 hz1 hz2 rfl (by decide) (.slice (some ⟨z, 0, none⟩) 0 0) _ _ rfl oAB ⟨g, 0, none⟩ k _ (ocells (T.take k)) rfl hlt nAB (oneE _) (by unfold maxLen; omega) (by omega) zAB ?_; intro v3 w3 p3 g3' _; replace p3 := zaddE p3; obtain ⟨va, vc, rfl⟩ := shapeK3 p3; have mkB := p3; have zz3 := g3'.size; have B3 := BAB.grown g3' (Nat.le_trans hbz zAB) (fun i hi => Nat.le_trans hbz (oAB.lt i hi).1); have D3 := newsKeepE g3' (neX oAB) nDB; have nC := newsKeepE (o := 0) g3' (neSE z) cAB; have zC := Nat.le_trans zAB zz3)
              | (refine stepApp rfl (.tmp 33) (.tmp 36) 24 rfl z 42 i0 (.agg #[.string ⟨#[]⟩, .int .i64 0, .string ⟨#[]⟩]) 3 40 Tryz.underlying24 hi hz0 hz1 hz2 rfl (by decide) (.slice (some ⟨z + 1, 0, none⟩) 0 0) _ _ rfl oBA ⟨g, 0, none⟩ k _ (ocells (T.take k)) rfl hlt nBA (oneE _) (by unfold maxLen; omega) (by omega) zBA ?_; intro v3 w3 p3 g3' _; replace p3 := zaddE p3; obtain ⟨va, vc, rfl⟩ := shapeK3 p3; have mkC := p3; have zz3 := g3'.size; have B3 := BBA.grown g3' (Nat.le_trans hbz zBA) (fun i hi => Nat.le_trans hbz (oBA.lt i hi).1); have D3 := newsKeepE g3' (neX oBA) nDC; have nE := newsKeepE (o := 0) g3' (neTE z) cBA; have zE := Nat.le_trans zBA zz3))
          all_goals
            replace p7 : w7.ownsRow z 42 3 v7 (k + 1) _ := p7
            have hpos : 0 < k + 1 := by omega
            obtain ⟨tg, tc, rfl⟩ : ∃ tg tc, v7 = .slice (some ⟨tg, 0, none⟩) (k + 1) tc := by
              rcases p7.2 with ⟨_, h0⟩ | ⟨tg, tc, cur, e, _⟩
              · omega
              · exact ⟨tg, tc, e⟩
            have eL : (insL T k (x0, x1, x2)).length = k + 1 := by rw [insL_length T k (x0, x1, x2) hkl]; omega
            have e2 : ocells (insL T k (x0, x1, x2)) = ocells (T.take k) ++ ocells [(x0, x1, x2)] ++ ocells (T.drop k) := by unfold insL; rw [ocells_app, ocells_app, List.append_assoc]
            have HI : Hid (w7.ownsRow bw 42 3 (.slice (some ⟨tg, 0, none⟩) (insL T k (x0, x1, x2)).length tc) (insL T k (x0, x1, x2)).length (ocells (insL T k (x0, x1, x2)))) := by
              show World.ownsRow _ _ _ _ _ _ _
              rw [eL, e2]
              exact ownMonoF p7 (by omega)
            have HB : Hid (Below bw w w7) := B7
            clear p7 g7 p5 g5 p3 g3' B7 B5 B3 e2
            subst hbw
            go_wp2
            first
              | exact ⟨⟨kk + 1, hlt2.out, (by first | rfl | go_num | omega), insL T k (x0, x1, x2), tg, tc, ⟨rfl, eL.symm, rfl⟩, HI.out, HB.out, HSd.out, HPm.out⟩, by first | (simp [intOf]; omega) | simp [intOf]⟩
              | (go_roundw; (case rel => exact ⟨kk + 1, insL T k (x0, x1, x2), tg, tc, hlt2.out, (by go_num), (by rw [eL]), HI.out, HB.out, HSd.out, HPm.out⟩); (case measure => first | (simp [intOf]; omega) | simp [intOf]))
        · have qcc : ¬ (c : Int) = (k : Int) := by omega
          have qcn : ¬ c = k := fun e => hcc e.symm
          have nDA := newsDropE (OC.below bA.drew) k hkl
          have nDB := newsDropE (OC.below bA2.drew) k hkl
          have nDC := newsDropE (OC.below bC2.drew) k hkl
          clear bA bAB bC bBA bA2 bC2 oA0 OC BW
          go_wp2_with fail
          go_region_law (first
              | (have gd := p5; clear gd; refine stepApp rfl (.tmp 43) (.tmp 46) 24 rfl z 42 i0 (.agg #[.string ⟨#[]⟩, .int .i64 0, .string ⟨#[]⟩]) 3 40 Tryz.underlying24 hi hz0 hz1 hz2 rfl (by decide) (.slice ua (k + 1) uc) _ _ rfl p5 ⟨g, k * 3, none⟩ (T.length - k) _ (ocells (T.drop k)) rfl hld D5 (oneE _) (by unfold maxLen; omega) (by omega) z5 ?_; intro v7 w7 p7 g7 _; have B7 := B5.grown g7 (Nat.le_trans hbz z5) (fun i hi => Nat.le_trans hbz (p5.lt i hi).1))
              | (have gd := mkA; clear gd; refine stepApp rfl (.tmp 37) (.tmp 42) 24 rfl z 42 i0 (.agg #[.string ⟨#[]⟩, .int .i64 0, .string ⟨#[]⟩]) 3 40 Tryz.underlying24 hi hz0 hz1 hz2 rfl (by decide) (.slice va k vc) _ _ rfl pB ⟨w3.heap.size, 0, none⟩ 1 _ (ocells [(x0, x1, x2)]) rfl (ocells_length _) nB (oneE _) (by unfold maxLen; omega) (by omega) zB ?_; intro v5 w5 p5 g5 _; obtain ⟨ua, uc, rfl⟩ := shapeK3 p5; have z5 := Nat.le_trans zB g5.size; have B5 := B4.grown g5 (Nat.le_trans hbz zB) (fun i hi => Nat.le_trans hbz (pB.lt i hi).1); have D5 := newsKeepE g5 (neX pB) D4)
              | (have gd := mkB; clear gd; refine stepApp rfl (.tmp 37) (.tmp 42) 24 rfl z 42 i0 (.agg #[.string ⟨#[]⟩, .int .i64 0, .string ⟨#[]⟩]) 3 40 Tryz.underlying24 hi hz0 hz1 hz2 rfl (by decide) (.slice va k vc) _ _ rfl p3 ⟨z + 1, 0, none⟩ 1 _ (ocells [(x0, x1, x2)]) rfl (ocells_length _) nC (oneE _) (by unfold maxLen; omega) (by omega) zC ?_; intro v5 w5 p5 g5 _; obtain ⟨ua, uc, rfl⟩ := shapeK3 p5; have z5 := Nat.le_trans zC g5.size; have B5 := B3.grown g5 (Nat.le_trans hbz zC) (fun i hi => Nat.le_trans hbz (p3.lt i hi).1); have D5 := newsKeepE g5 (neX p3) D3)
              | (have gd := mkC; clear gd; refine stepApp rfl (.tmp 37) (.tmp 42) 24 rfl z 42 i0 (.agg #[.string ⟨#[]⟩, .int .i64 0, .string ⟨#[]⟩]) 3 40 Tryz.underlying24 hi hz0 hz1 hz2 rfl (by decide) (.slice va k vc) _ _ rfl p3 ⟨z, 0, none⟩ 1 _ (ocells [(x0, x1, x2)]) rfl (ocells_length _) nE (oneE _) (by unfold maxLen; omega) (by omega) zE ?_; intro v5 w5 p5 g5 _; obtain ⟨ua, uc, rfl⟩ := shapeK3 p5; have z5 := Nat.le_trans zE g5.size; have B5 := B3.grown g5 (Nat.le_trans hbz zE) (fun i hi => Nat.le_trans hbz (p3.lt i hi).1); have D5 := newsKeepE g5 (neX p3) D3)
              | (refine stepApp rfl (.tmp 33) (.tmp 36) 24 rfl z 42 i0 (.agg #[.string ⟨#[]⟩, .int .i64 0, .string ⟨#[]⟩]) 3 40 Tryz.underlying24 hi hz0 hz1 hz2 rfl (by decide) (.slice (some ⟨z, 0, none⟩) 0 0) _ _ rfl oA ⟨g, 0, none⟩ k _ (ocells (T.take k)) rfl hlt nA (oneE _) (by unfold maxLen; omega) (by omega) zA ?_; intro v3 w3 p3 g3' _; replace p3 := zaddE p3; obtain ⟨va, vc, rfl⟩ := shapeK3 p3; have mkA := p3; have zz3 := g3'.size; have B3 := BA.grown g3' (Nat.le_trans hbz zA) (fun i hi => Nat.le_trans hbz (oA.lt i hi).1); have D3 := newsKeepE g3' (neX oA) nDA; have y0 := g3'.cell y0A (neQ oA); have y1 := g3'.cell y1A (neQ oA); have y2 := g3'.cell y2A (neQ oA); have pB := p3.kept (grownOfBelow (allocBelow w3 (.cells #[.string x0, .int .i64 x1, .string x2] 42)) none) (blockCases _ _ fun b c1 c2 => by cases c2); have nB := newE w3 (x0, x1, x2); have zB : z ≤ (w3.alloc (.cells #[.string x0, .int .i64 x1, .string x2] 42)).heap.size := Nat.le_trans (Nat.le_trans zA zz3) (allocBelow w3 (.cells #[.string x0, .int .i64 x1, .string x2] 42)).size; have B4 := B3.trans ((allocBelow w3 (.cells #[.string x0, .int .i64 x1, .string x2] 42)).mono (Nat.le_trans hbz (Nat.le_trans zA zz3))); have D4 := newsBelowE (allocBelow w3 (.cells #[.string x0, .int .i64 x1, .string x2] 42)) D3)
              | (refine stepApp rfl (.tmp 33) (.tmp 36) 24 rfl z 42 i0 (.agg #[.string ⟨#[]⟩, .int .i64 0, .string ⟨#[]⟩]) 3 40 Tryz.underlying24 hi hz0 hz1 hz2 rfl (by decide) (.slice (some ⟨z, 0, none⟩) 0 0) _ _ rfl oAB ⟨g, 0, none⟩ k _ (ocells (T.take k)) rfl hlt nAB (oneE _) (by unfold maxLen; omega) (by omega) zAB ?_; intro v3 w3 p3 g3' _; replace p3 := zaddE p3; obtain ⟨va, vc, rfl⟩ := shapeK3 p3; have mkB := p3; have zz3 := g3'.size; have B3 := BAB.grown g3' (Nat.le_trans hbz zAB) (fun i hi => Nat.le_trans hbz (oAB.lt i hi).1); have D3 := newsKeepE g3' (neX oAB) nDB; have nC := newsKeepE (o := 0) g3' (neSE z) cAB; have zC := Nat.le_trans zAB zz3)
              | (refine stepApp rfl (.tmp 33) (.tmp 36) 24 rfl z 42 i0 (.agg #[.string ⟨#[]⟩, .int .i64 0, .string ⟨#[]⟩]) 3 40 Tryz.underlying24 hi hz0 hz1 hz2 rfl (by decide) (.slice (some ⟨z + 1, 0, none⟩) 0 0) _ _ rfl oBA ⟨g, 0, none⟩ k _ (ocells (T.take k)) rfl hlt nBA (oneE _) (by unfold maxLen; omega) (by omega) zBA ?_; intro v3 w3 p3 g3' _; replace p3 := zaddE p3; obtain ⟨va, vc, rfl⟩ := shapeK3 p3; have mkC := p3; have zz3 := g3'.size; have B3 := BBA.grown g3' (Nat.le_trans hbz zBA) (fun i hi => Nat.le_trans hbz (oBA.lt i hi).1); have D3 := newsKeepE g3' (neX oBA) nDC; have nE := newsKeepE (o := 0) g3' (neTE z) cBA; have zE := Nat.le_trans zBA zz3))
          all_goals
            replace p7 : w7.ownsRow z 42 3 v7 (k + 1 + (T.length - k)) _ := p7
            have hpos : 0 < k + 1 + (T.length - k) := by omega
            obtain ⟨tg, tc, rfl⟩ : ∃ tg tc, v7 = .slice (some ⟨tg, 0, none⟩) (k + 1 + (T.length - k)) tc := by
              rcases p7.2 with ⟨_, h0⟩ | ⟨tg, tc, cur, e, _⟩
              · omega
              · exact ⟨tg, tc, e⟩
            have eL : (insL T k (x0, x1, x2)).length = k + 1 + (T.length - k) := by rw [insL_length T k (x0, x1, x2) hkl]; omega
            have e2 : ocells (insL T k (x0, x1, x2)) = ocells (T.take k) ++ ocells [(x0, x1, x2)] ++ ocells (T.drop k) := by unfold insL; rw [ocells_app, ocells_app, List.append_assoc]
            have HI : Hid (w7.ownsRow bw 42 3 (.slice (some ⟨tg, 0, none⟩) (insL T k (x0, x1, x2)).length tc) (insL T k (x0, x1, x2)).length (ocells (insL T k (x0, x1, x2)))) := by
              show World.ownsRow _ _ _ _ _ _ _
              rw [eL, e2]
              exact ownMonoF p7 (by omega)
            have HB : Hid (Below bw w w7) := B7
            clear p7 g7 p5 g5 p3 g3' B7 B5 B3 e2
            subst hbw
            go_wp2
            first
              | exact ⟨⟨kk + 1, hlt2.out, (by first | rfl | go_num | omega), insL T k (x0, x1, x2), tg, tc, ⟨rfl, eL.symm, rfl⟩, HI.out, HB.out, HSd.out, HPm.out⟩, by first | (simp [intOf]; omega) | simp [intOf]⟩
              | (go_roundw; (case rel => exact ⟨kk + 1, insL T k (x0, x1, x2), tg, tc, hlt2.out, (by go_num), (by rw [eL]), HI.out, HB.out, HSd.out, HPm.out⟩); (case measure => first | (simp [intOf]; omega) | simp [intOf]))
end Go.Proofs.YtkgcpndnlefkoaaGreatDoor.Fl
