/- SwapStages of the specification: the loop, and the answer. No statement is proved here. -/
import Derived.Test.YtfklefdliakemaaDoorRows
import Derived.Test.YtfklefdliakemaaDoorLemQ
import Derived.Test.YtfklefdliakemaaDoorDTabQ
import Derived.Test.YtfklefdliakemaaDoorHkTQ
import Derived.Test.YtfklefdliakemaaDoorEnLQ
import Derived.Test.YtfklefdliakemaaDoorIxMQ
import Derived.Test.YtfklefdliakemaaDoorIxNQ
import Derived.Test.YtfklefdliakemaaDoorIxSQ
import Derived.Test.YtfklefdliakemaaDoorSgCQ
import Derived.Test.YtfklefdliakemaaDoorSgDQ
import Derived.Test.YtfklefdliakemaaDoorSlBQ
import Derived.Test.YtfklefdliakemaaDoorSlCQ
import Derived.Test.YtfklefdliakemaaDoorSlDQ
import Derived.Test.YtfklefdliakemaaDoorFxCQ
import Derived.Test.YtfklefdliakemaaDoorCpKQ
import Derived.Test.YtfklefdliakemaaDoorInEQ
import Derived.Test.YtfklefdliakemaaDoorSlEQ
import Derived.Test.YtfklefdliakemaaDoorSwMQ
import Derived.Test.YtfklefdliakemaaDoorSwCQ
import Derived.Test.YtfklefdliakemaaDoorSwSQ
import Derived.WalkKit
import Derived.ProofKit
import Derived.Below
import Derived.WalkSpells
import Derived.Laws.BitsLemmas
set_option linter.unusedVariables false
namespace Go.Proofs.YtfklefdliakemaaDoor.En
open Go.ChangeShapes Go.WideShapes Go.ChangeAt Go.RowKit
theorem swI_hi {s : Int} (h1 : 1 < s) (h3 : s ≤ 3) : swI s = 5 - s := by
  unfold swI
  split
  · omega
  · split
    · omega
    · omega
theorem swI_lo {s : Int} (h1 : ¬ 1 < s) : swI s = s := by
  unfold swI
  rw [if_neg (by omega), if_neg (by omega)]
set_option maxRecDepth 20000 in
set_option maxHeartbeats 4000000 in
theorem l10SwapC (a : Option Addr) (c : Nat) (l : List Ob) (w : World) (h : OB w.heap.size w a l) (h0 : ixf l = 0) :
    Calls Tryd.prog 37 #[.slice a l.length c] w fun e w' => PutP (swK l l.length) w e w' := by
  obtain ⟨hn, hst⟩ := ixf_zero h0
  have hRi : Hid (∀ k, k < l.length → Rise (swK l k) ∧ Apart (swK l k) (sw1 (l.getD k onil)) ∧ 0 ≤ (l.getD k onil).2.1 ∧ (l.getD k onil).2.1 ≤ 3) := fun k hk => ⟨sw_rise h0 k (by omega), sw_apart h0 hk, ix_stage (hst k hk)⟩
  obtain ⟨q, hq⟩ : ∃ q, w.heap.size = q := ⟨_, rfl⟩
  obtain ⟨W0, hW0⟩ : ∃ W, w.alloc (.cells #[] 46) = W := ⟨_, rfl⟩
  have b0 : Below q w W0 := by rw [← hW0, ← hq]; exact allocBelow _ _
  have o0 : W0.ownsRow q 46 4 (.slice (some ⟨q, 0, none⟩) (swK l 0).length 0) (swK l 0).length (ocells (swK l 0)) := by rw [← hW0, ← hq]; exact World.ownsRow_made w #[] 0 (Nat.le_refl _) (by unfold maxLen; omega) rfl
  clear h0 hst
  go_enter Tryd.func37, Tryd.ntmps37
  go_wp2
  clear hW0
  go_loopw [3, 4, 5] (fun o i _e wr => ∃ (k tg tc : Nat), k ≤ l.length ∧ i = .int .i64 k ∧ o = .slice (some ⟨tg, 0, none⟩) (swK l k).length tc ∧ wr.ownsRow q 46 4 (.slice (some ⟨tg, 0, none⟩) (swK l k).length tc) (swK l k).length (ocells (swK l k)) ∧ Below q w wr) (fun _ i _ _ => l.length - (intOf i).toNat)
  case atStart => exact ⟨0, q, 0, Nat.zero_le _, rfl, rfl, o0, b0⟩
  case round =>
    obtain ⟨k, tg, tc, hk, rfl, rfl, ho, hbel⟩ := hrel
    have hsz := hbel.size
    by_cases hlt : k < l.length
    · have qk : (k : Int) < (l.length : Int) := by omega
      obtain ⟨g, off, e, hg, d0, d1, d2, d3⟩ := (h.below (by rw [hq]; exact hbel)) k hlt
      subst e
      obtain ⟨hr1, ha1, hs0, hs3⟩ := hRi.out k hlt
      have hT : swK l (k + 1) = insL (swK l k) (pe (swK l k) (sw1 (l.getD k onil))) (sw1 (l.getD k onil)) := rfl
      have hln := swK_len l k
      obtain ⟨C, hCe⟩ : ∃ C, l.getD k onil = C := ⟨_, rfl⟩
      obtain ⟨x0, x1, x2, x3⟩ := C
      rw [hCe] at d0 d1 d2 d3 ha1 hT hs0 hs3
      simp only [] at d0 d1 d2 d3 hs0 hs3
      obtain ⟨T, hTe⟩ : ∃ T, swK l k = T := ⟨_, rfl⟩
      rw [hTe] at ho hr1 ha1 hT hln ⊢
      have hgt := ho.lt tg rfl
      have hcap : T.length ≤ tc := by
        rcases ho.2 with ⟨h', _⟩ | ⟨g', c', cur, h', hb, hh, h1, h2, h3, h4⟩
        · cases h'
        · simp only [Value.slice.injEq] at h'; omega
      obtain ⟨W, hW⟩ : ∃ W, wr.alloc (.cells #[.string x0, .int .i64 x1, .int .i64 x2, .string x3] 46) = W := ⟨_, rfl⟩
      have bW : Below wr.heap.size wr W := by rw [← hW]; exact allocBelow _ _
      have oW : Rf W wr.heap.size [.string x0, .int .i64 x1, .int .i64 x2, .string x3] := by rw [← hW]; exact Rf.new _ _ _
      obtain ⟨p, hp⟩ : ∃ p, wr.heap.size = p := ⟨_, rfl⟩
      rw [hp] at oW
      have hzW : wr.heap.size < W.heap.size := by rw [← hW]; simp
      have oT := ho.kept (grownOfBelow bW none) (blockCases _ _ fun b c1 c2 => by cases c2)
      have BW : Below q w W := hbel.trans (bW.mono (by omega))
      obtain ⟨L2, hL2⟩ : ∃ L, swK l (k + 1) = L := ⟨_, rfl⟩
      rw [hL2] at hT
      have HL2 : Hid (swK l (k + 1) = L2) := hL2
      have hT9 : T.length ≤ 1048575 := by omega
      clear hL2 hCe hTe hbel bW ho hln
      by_cases hx : 1 < x1
      · have es := swI_hi hx hs3
        have R1 : Rf (W.setCell ⟨p, 1, none⟩ (.int .i64 (5 - x1))) p [.string x0, .int .i64 (5 - x1), .int .i64 x2, .string x3] := oW.set (o := 1) (by simp) _
        have oT1 := oT.kept (grownSet W p 1 (.int .i64 (5 - x1))) (blockCases _ _ fun b c1 c2 => by cases c2; have h9 : tg = p := Option.some.inj c1; omega)
        have B1 : Below q w (W.setCell ⟨p, 1, none⟩ (.int .i64 (5 - x1))) := BW.setCell (p := ⟨p, 1, none⟩) (by show q ≤ p; omega) _
        have m0 := oW.at_ 0 _ rfl
        have m1 := oW.at_ 1 _ rfl
        have m2 := oW.at_ 2 _ rfl
        have m3 := oW.at_ 3 _ rfl
        have f1 := oW.fz 1
        have hw5 : IntKind.i64.wrap (5 - x1) = 5 - x1 := by rw [IntKind.wrap_i64]; omega
        have hP := l10PutC tg tc T (sw1 (x0, x1, x2, x3)) (W.setCell ⟨p, 1, none⟩ (.int .i64 (5 - x1))) (OB.of oT1) (by rw [World.size_setCell]; omega) hcap hT9 hr1 ha1
        rw [← hT] at hP
        simp only [sw1, es] at hP
        clear R1 oW oT hr1 ha1 hT es
        go_wp2_with fail
        refine hP.mono ?_; rintro e w6 ⟨ug, uc, rfl, o6, b6⟩
        have B6 : Below q w w6 := B1.trans (b6.mono (by rw [World.size_setCell]; omega))
        have O6 := ownMonoF o6 (b := q) (by rw [World.size_setCell]; omega)
        clear hP o6 b6 B1 oT1 m0 m1 m2 m3 f1 hW
        go_wp2
        go_roundw
        case rel => exact ⟨k + 1, ug, uc, by omega, by go_num, by rw [HL2.out], by rw [HL2.out]; exact O6, B6⟩
        case measure => first | (simp [intOf]; omega) | simp [intOf]
      · have es := swI_lo hx
        have m0 := oW.at_ 0 _ rfl
        have m1 := oW.at_ 1 _ rfl
        have m2 := oW.at_ 2 _ rfl
        have m3 := oW.at_ 3 _ rfl
        have hP := l10PutC tg tc T (sw1 (x0, x1, x2, x3)) W (OB.of oT) (by omega) hcap hT9 hr1 ha1
        rw [← hT] at hP
        simp only [sw1, es] at hP
        clear oW hr1 ha1 hT es
        go_wp2_with fail
        refine hP.mono ?_; rintro e w6 ⟨ug, uc, rfl, o6, b6⟩
        have B6 : Below q w w6 := BW.trans (b6.mono (by omega))
        have O6 := ownMonoF o6 (b := q) (by omega)
        clear hP o6 b6 BW oT m0 m1 m2 m3 hW
        go_wp2
        go_roundw
        case rel => exact ⟨k + 1, ug, uc, by omega, by go_num, by rw [HL2.out], by rw [HL2.out]; exact O6, B6⟩
        case measure => first | (simp [intOf]; omega) | simp [intOf]
    · have qk : ¬ (k : Int) < (l.length : Int) := by omega
      have ek : k = l.length := by omega
      subst ek
      have HQ : Hid (PutP (swK l l.length) w (.returned (.slice (some ⟨tg, 0, none⟩) (swK l l.length).length tc)) wr) := ⟨tg, tc, rfl, by rw [hq]; exact ho, by rw [hq]; exact hbel⟩
      clear ho hbel
      go_wp2
      go_ret
      exact HQ.out
set_option maxRecDepth 20000 in
set_option maxHeartbeats 4000000 in
theorem specSwapStages (a : Option Addr) (c : Nat) (l : List Ob) (w : World) (h : OB w.heap.size w a l) (hs : SmallO l) (hn : l.length ≤ 1048576) :
    Calls Tryd.prog 14 #[.slice a l.length c] w fun e w' => EP (swR l) 0 (swL l) w e w' := by
  have hA := fun w h => specIndexFault a c l w h hs (by omega)
  have hFF : ¬ ixf l = 0 → Hid (swR l = ixf l ∧ swL l = []) := fun e => ⟨rfl, if_neg e⟩
  have hOK : ixf l = 0 → Hid (swR l = 0 ∧ swL l = swK l l.length) := fun e => ⟨e, if_pos e⟩
  have hRi : ixf l = 0 → ∀ W, OB W.heap.size W a l → Calls Tryd.prog 37 #[.slice a l.length c] W fun e w' => PutP (swK l l.length) W e w' := fun e W x => l10SwapC a c l W x e
  obtain ⟨R, hR⟩ : ∃ R, swR l = R := ⟨_, rfl⟩
  obtain ⟨L, hL⟩ : ∃ L, swL l = L := ⟨_, rfl⟩
  rw [hR, hL] at hFF hOK ⊢
  obtain ⟨F, hF⟩ : ∃ F, ixf l = F := ⟨_, rfl⟩
  rw [hF] at hA hFF hOK hRi
  clear hF hR hL
  obtain ⟨W1, hW1⟩ : ∃ W1, w.alloc (.cells #[.int .i64 0, .int .i64 0, .slice none 0 0] 26) = W1 := ⟨_, rfl⟩
  have b1 : Below w.heap.size w W1 := by rw [← hW1]; exact allocBelow _ _
  have zW : w.heap.size < W1.heap.size := by rw [← hW1]; simp
  have r1 : Rf W1 w.heap.size [.int .i64 0, .int .i64 0, .slice none 0 0] := by rw [← hW1]; exact Rf.new _ _ _
  have A1 := h.below b1
  go_enter Tryd.func14, Tryd.ntmps14
  go_wp2_with fail
  refine (hA _ (A1.mono (by omega))).mono ?_; rintro e w2 ⟨rfl, b2⟩
  have A2 := A1.below b2
  have r2 := r1.below zW b2
  have B2 := b1.trans (b2.mono b1.size)
  have z2 : w.heap.size < w2.heap.size := Nat.lt_of_lt_of_le zW b2.size
  clear A1 r1 b1 b2 hA hW1 h zW
  by_cases e0 : F = 0
  · replace hOK := hOK e0
    replace hRi := hRi e0
    subst e0
    clear hFF
    have hS2 := hRi w2 (A2.mono (by omega))
    clear hRi
    go_wp2_with fail
    refine hS2.mono ?_; rintro e wr ⟨tg, tc, rfl, sv, b3⟩
    have r4 := r2.below z2 b3
    have B4 := B2.trans (b3.mono (by omega))
    have c0 := r4.at_ 0 _ rfl
    have c1 := r4.at_ 1 _ rfl
    have c2 := r4.at_ 2 _ rfl
    have f0 := r4.fz 0
    have f1 := r4.fz 1
    have f2 := r4.fz 2
    obtain ⟨n, hnn⟩ : ∃ n, (swK l l.length).length = n := ⟨_, rfl⟩
    rw [hnn] at sv ⊢
    have RV := ((r4.set (o := 0) (by simp) (.int .i64 0)).set (o := 1) (by simp) (.int .i64 0)).set (o := 2) (by simp) (.slice (some ⟨tg, 0, none⟩) n tc)
    have BV := ((B4.setCell (p := ⟨w.heap.size, 0, none⟩) (Nat.le_refl _) (.int .i64 0)).setCell (p := ⟨w.heap.size, 1, none⟩) (Nat.le_refl _) (.int .i64 0)).setCell (p := ⟨w.heap.size, 2, none⟩) (Nat.le_refl _) (.slice (some ⟨tg, 0, none⟩) n tc)
    have oV := (ownMonoF sv (b := w.heap.size) (by omega)).kept (grownTrans (grownTrans (grownSet _ w.heap.size 0 (.int .i64 0)) (grownSet _ w.heap.size 1 (.int .i64 0))) (grownSet _ w.heap.size 2 (.slice (some ⟨tg, 0, none⟩) n tc))) (blockCases _ _ fun j q1 q2 => by cases q2; have := (sv.lt _ q1).1; omega)
    obtain ⟨V, hV⟩ : ∃ V, ((wr.setCell ⟨w.heap.size, 0, none⟩ (.int .i64 0)).setCell ⟨w.heap.size, 1, none⟩ (.int .i64 0)).setCell ⟨w.heap.size, 2, none⟩ (.slice (some ⟨tg, 0, none⟩) n tc) = V := ⟨_, rfl⟩
    rw [hV] at RV BV oV
    have HV : Hid (_ = V) := hV
    have v0 := RV.at_ 0 _ rfl
    have v1 := RV.at_ 1 _ rfl
    have v2 := RV.at_ 2 _ rfl
    clear hV sv r4 B4 RV A2 r2 B2 b3
    go_wp2
    rw [HV.out]
    refine bodyPost_ret (v := .agg #[.int .i64 0, .int .i64 0, .slice (some ⟨tg, 0, none⟩) n tc]) (by simp [results, Tryd.results14, go_sem, v0, v1, v2]) rfl ?_
    exact ⟨_, ret_agg3 (by rw [hOK.out.1]) rfl rfl, by rw [hOK.out.2, hnn]; exact oV, BV⟩
  · have hC := hFF e0
    have qn : (F != 0) = true := ne_beq e0
    have c0 := r2.at_ 0 _ rfl
    have c1 := r2.at_ 1 _ rfl
    have c2 := r2.at_ 2 _ rfl
    have f0 := r2.fz 0
    have f1 := r2.fz 1
    have f2 := r2.fz 2
    have RV := ((r2.set (o := 0) (by simp) (.int .i64 F)).set (o := 1) (by simp) (.int .i64 0)).set (o := 2) (by simp) (.slice none 0 0)
    have BV := ((B2.setCell (p := ⟨w.heap.size, 0, none⟩) (Nat.le_refl _) (.int .i64 F)).setCell (p := ⟨w.heap.size, 1, none⟩) (Nat.le_refl _) (.int .i64 0)).setCell (p := ⟨w.heap.size, 2, none⟩) (Nat.le_refl _) (.slice none 0 0)
    obtain ⟨V, hV⟩ : ∃ V, ((w2.setCell ⟨w.heap.size, 0, none⟩ (.int .i64 F)).setCell ⟨w.heap.size, 1, none⟩ (.int .i64 0)).setCell ⟨w.heap.size, 2, none⟩ (.slice none 0 0) = V := ⟨_, rfl⟩
    rw [hV] at RV BV
    have HV : Hid (_ = V) := hV
    have v0 := RV.at_ 0 _ rfl
    have v1 := RV.at_ 1 _ rfl
    have v2 := RV.at_ 2 _ rfl
    clear hV r2 B2 A2 hOK hFF e0 RV hRi
    go_wp2
    rw [HV.out]
    refine bodyPost_ret (v := .agg #[.int .i64 F, .int .i64 0, .slice none 0 0]) (by simp [results, Tryd.results14, go_sem, v0, v1, v2]) rfl ?_
    exact ⟨_, ret_agg3 (by rw [hC.out.1]) rfl rfl, by rw [hC.out.2]; exact nilE _ _, BV⟩
end Go.Proofs.YtfklefdliakemaaDoor.En
