/- The contract of spec.ApplyHunks. No statement is proved here. -/
import Derived.Test.YtepbkaidlffaiabRows
import Derived.Test.YtepbkaidlffaiabLemQ
import Derived.Test.YtepbkaidlffaiabStrsQ
import Derived.Test.YtepbkaidlffaiabLFLemQ
import Derived.Test.YtepbkaidlffaiabLFQ
import Derived.Test.YtepbkaidlffaiabDTabQ
import Derived.Test.YtepbkaidlffaiabOwnQ
import Derived.Test.YtepbkaidlffaiabFrQ
import Derived.Test.YtepbkaidlffaiabInQ
import Derived.Test.YtepbkaidlffaiabWvCQ
import Derived.Test.YtepbkaidlffaiabHkLQ
import Derived.Test.YtepbkaidlffaiabHkCQ
import Derived.Test.YtepbkaidlffaiabHfCQ
import Derived.Test.YtepbkaidlffaiabHfIQ
import Derived.Test.YtepbkaidlffaiabHfSQ
import Derived.Test.YtepbkaidlffaiabHnLQ
import Derived.Test.YtepbkaidlffaiabApCQ
import Derived.Test.YtepbkaidlffaiabApBQ
import Derived.WalkKit
import Derived.ProofKit
import Derived.Below
import Derived.WalkSpells
import Derived.Maps.AppendAt
namespace Go.Proofs.Ytepbkaidlffaiab
open Go.ChangeShapes Go.WideShapes Go.ChangeAt Go.RowKit

set_option maxRecDepth 20000 in
set_option maxHeartbeats 4000000 in
theorem specApply (a1 a3 : Option Addr) (ha1 : ∃ g, a1 = some ⟨g, 0, none⟩) (c1 c3 : Nat) (xs : List ByteArray) (l : List Hk) (w : World) (h1 : SS w a1 xs) (h3 : HB w.heap.size w a3 l) (k1 : xs.length ≤ c1) (n1 : xs.length ≤ 1048576) (n3 : l.length ≤ 1048576) (hs : Shortly l)
    (hT : tot xs + totK l l.length ≤ 1048576) (hx : lf xs = 0) (h0 : Go.Proofs.Ytepbkaidlffaiab.hf l = 0) :
    Calls Try.prog 12 #[.slice a1 xs.length c1, .slice a3 l.length c3] w fun e w' => LP (apR xs l) (apL xs l) w e w' := by
  have hA := fun w h => specLinesFault a1 c1 xs w h n1 (by have := (lf_zero' hx).2; omega)
  have hB := fun w h => specHunksFault a3 c3 l w h n3 hs
  rw [hx] at hA
  rw [h0] at hB
  have hxn := (lf_zero' hx).1
  obtain ⟨W1, hW1⟩ : ∃ W1, w.alloc (.cells #[.int .i64 0, .slice none 0 0] 29) = W1 := ⟨_, rfl⟩
  have b1 : Below w.heap.size w W1 := by rw [← hW1]; exact allocBelow _ _
  have zW : w.heap.size < W1.heap.size := by rw [← hW1]; simp
  have r1 : Res2 W1 w.heap.size (.int .i64 0) (.slice none 0 0) := by rw [← hW1]; exact Res2.new _ _ _ _
  have s1 := h1.below b1
  have s3 := h3.below b1
  have HX : Hid (lf xs = 0) := hx
  have H0 : Hid (Go.Proofs.Ytepbkaidlffaiab.hf l = 0) := h0
  clear hx h0
  go_enter Try.func12, Try.ntmps12
  go_wp2_with fail
  refine (hA _ s1).mono ?_; rintro e w1' ⟨rfl, rfl⟩
  go_wp2_with fail
  refine (hB _ (s3.mono (by omega))).mono ?_; rintro e w2 ⟨rfl, b2⟩
  have A1 : SSB w.heap.size w2 a1 xs := (h1.toB.below b1).below b2
  have A3 := s3.below b2
  have r2 := r1.below zW b2
  have BB := b1.trans (b2.mono b1.size)
  have hz2 := b2.size
  clear s1 s3 h1 h3 hA hB r1 b1 b2 hW1
  go_wp2
  obtain ⟨i0, hi, hz0, hz1, hzb⟩ := info_parts infoString
  go_loopw [7, 8, 9] (fun u va vk wr => ∃ k : Nat, k ≤ l.length ∧ vk = .int .i64 (k : Int) ∧ va = .int .i64 ((apAt l k : Nat) : Int) ∧ (∀ j, j < k → apSt xs l j = true) ∧ wr.ownsRow w2.heap.size 9 1 u (apM xs l k).length ((apM xs l k).map Value.string) ∧ Below w2.heap.size w2 wr) (fun _ _ vk _ => l.length - (intOf vk).toNat)
  case atStart => exact ⟨0, Nat.zero_le _, rfl, rfl, fun j hj => absurd hj (Nat.not_lt_zero _), World.ownsRow_lit w2 #[] 0 (Nat.le_refl _) (Nat.zero_le _) rfl, (Below.refl _ _).alloc (Nat.le_refl _) _⟩
  case round =>
    obtain ⟨k, hk, rfl, rfl, hall, hown, hbel⟩ := hrel
    obtain ⟨WO, hWO⟩ : ∃ W, W = wr := ⟨_, rfl⟩
    subst hWO
    have hsz := hbel.size
    have HALL : Hid (∀ j, j < k → apSt xs l j = true) := hall
    clear hall
    by_cases hlt : k < l.length
    · have q : (k : Int) < (l.length : Int) := by omega
      obtain ⟨g, off, ak, ck, e, hg, d0, d1, d2, hSB⟩ := A3.below hbel k hlt
      subst e
      have hnm := ap_nums H0.out hlt
      have hwl := apM_length (xs := xs) H0.out k hk
      have hln := hf_len H0.out
      have hws := apM_succ xs l k
      have hat := apAt_succ l k
      have hst : apSt xs l k = stBo xs (l.getD k (0, 0, [])).1.toNat (wout 43 (l.getD k (0, 0, [])).2.2) := rfl
      obtain ⟨C, hCe⟩ : ∃ C, l.getD k (0, 0, []) = C := ⟨_, rfl⟩
      obtain ⟨x0, x1, ss⟩ := C
      rw [hCe] at d0 d1 d2 hSB hnm hws hat hst
      simp only [] at d0 d1 d2 hSB hnm hws hat hst
      obtain ⟨X0, rfl⟩ : ∃ X : Nat, x0 = (X : Int) := ⟨x0.toNat, by omega⟩
      rw [Int.toNat_natCast] at hnm hws hat hst
      obtain ⟨P, hP⟩ : ∃ P, apAt l k = P := ⟨_, rfl⟩
      rw [hP] at hnm hws ⊢
      obtain ⟨hn1, _, hn2, hn3, hol⟩ := hnm
      have hub : ∀ j, u7.ownBlock = some j → w2.heap.size ≤ j ∧ j < WO.heap.size := fun j hj => hown.lt j hj
      have HWS : Hid (apM xs l (k + 1) = apM xs l k ++ (xs.drop P).take (X0 - P) ++ wout 45 ss) := hws
      have HAT : Hid (apAt l (k + 1) = X0 + (wout 43 ss).length) := hat
      have HST : Hid (apSt xs l k = stBo xs X0 (wout 43 ss)) := hst
      have HNO : Hid (¬ stands xs X0 (wout 43 ss) → apR xs l = 6 ∧ apL xs l = []) := by
        show _ → _
        intro hno
        have hcs : apSt xs l k = false := by
          cases e : apSt xs l k with
          | false => rfl
          | true => exact absurd (stBo_true (HST.out ▸ e)) hno
        refine ⟨?_, ?_⟩
        · unfold apR; rw [HX.out, H0.out, apOk_no hlt hcs]; rfl
        · unfold apL; rw [apOk_no hlt hcs, if_neg (fun h => Bool.false_ne_true h.2.2.1)]
      obtain ⟨S0, hS0⟩ : ∃ S, apM xs l k = S := ⟨_, rfl⟩
      have HS0 : Hid (apM xs l k = S0) := hS0
      rw [hS0] at hown hwl
      clear hws hat hst hCe hP hS0
      obtain ⟨W3, hW3⟩ : ∃ W, WO.alloc (.cells #[.int .i64 (X0 : Int), .int .i64 x1, .slice ak ss.length ck] 79) = W := ⟨_, rfl⟩
      have R3 : Rs W3 WO.heap.size [.int .i64 (X0 : Int), .int .i64 x1, .slice ak ss.length ck] := by rw [← hW3]; exact Rs.new _ _ _
      have b3 : Below WO.heap.size WO W3 := by rw [← hW3]; exact allocBelow _ _
      have z3 : WO.heap.size < W3.heap.size := by rw [← hW3]; simp
      have m0 := R3 0 _ rfl
      have O3 := (Fr.ofBelow (lo := 0) (hi := 0) b3).own hown (fun _ _ => .inr (Nat.zero_le _))
      by_cases hin : X0 ≤ xs.length
      · obtain ⟨A, hA⟩ := segAd ha1 c1 P
        have hs1 := segSSB ((A1.below hbel).below b3) P X0 c1 hn1 hin k1
        rw [hA] at hs1
        have hl1 : ((xs.drop P).take (X0 - P)).length = X0 - P := by rw [List.length_take, List.length_drop]; omega
        obtain ⟨S1, hS1⟩ : ∃ S, (xs.drop P).take (X0 - P) = S := ⟨_, rfl⟩
        have HS1 : Hid ((xs.drop P).take (X0 - P) = S1) := hS1
        rw [hS1] at hs1 hl1
        have hn1' := newsOf hs1
        have hl1' : (S1.map Value.string).length = (X0 - P) * 1 := by rw [List.length_map, hl1, Nat.mul_one]
        have e1 : (P : Int) ≤ (X0 : Int) := by omega
        have e2 : ¬ (xs.length : Int) < (X0 : Int) := by omega
        have e3 : (X0 : Int) ≤ (xs.length : Int) := by omega
        clear hS1 hs1
        go_wp2_with ((at_builtin; refine wpList_append_own_at _ rfl (.tmp 43) (.tmp 48) 24 rfl w2.heap.size 9 i0 (.string ByteArray.empty) 1 16 Try.underlying24 hi hz0 hz1 hzb rfl (by decide) _ _ _ rfl O3 A (X0 - P) _ (S1.map Value.string) rfl hl1' hn1' (oneStr _) (by unfold maxLen; omega) (by omega) (by omega) ?_; intro v6 w6 o6 g6 _ k6; have m0 := g6.cell m0 (fun e => by have := (hub _ e.symm).2; simp at this)))
        have o6' : w6.ownsRow w2.heap.size 9 1 v6 (S0 ++ S1).length ((S0 ++ S1).map Value.string) := by
          rw [List.length_append, List.map_append, hl1]; exact o6
        have hvb := vbOf hub k6 z3 (fun j hj => (o6.lt j hj).1)
        have z6 := g6.size
        have b6 : Below w2.heap.size w2 w6 := (hbel.trans (b3.mono hsz)).grown g6 (by omega) (fun j hj => (hub j hj).1)
        have R6 := R3.grown g6 (fun e => by have := (hub _ e.symm).2; simp at this)
        obtain ⟨p, hp⟩ : ∃ p, WO.heap.size = p := ⟨_, rfl⟩
        have hpw : p < w6.heap.size := by omega
        have hpw2 : w2.heap.size ≤ p := by omega
        rw [hp] at R6 hvb ⊢
        have SK : SSB w.heap.size w2 ak ss := ⟨hSB.1, fun j hj => by
          obtain ⟨b, o, e', hb', hc⟩ := hSB.2 j hj
          exact ⟨b, o, e', hb', (hbel.cell (p := ⟨b, o + j, none⟩) (show b < w2.heap.size by omega)).symm.trans hc⟩⟩
        have hT0 : (S0 ++ S1).length ≤ 30100 := by rw [List.length_append]; omega
        obtain ⟨T0, hT0e⟩ : ∃ T, S0 ++ S1 = T := ⟨_, rfl⟩
        have HT0 : Hid (S0 ++ S1 = T0) := hT0e
        rw [hT0e] at o6' hT0
        clear o6 g6 k6 R3 O3 hn1' hl1' m0 hW3 d0 d1 d2 hSB hown hub b3 hT0e hp hwl
        go_loopw [7, 8, 11] (fun u va vi wx => ∃ (i Q : Nat) (T : List ByteArray), i ≤ ss.length ∧ vi = .int .i64 (i : Int) ∧ va = .int .i64 (Q : Int) ∧ Q ≤ xs.length ∧ T.length ≤ T0.length + i ∧ lineW xs (ss.drop i) Q T = lineW xs ss X0 T0 ∧ wx.ownsRow w2.heap.size 9 1 u T.length (T.map Value.string) ∧ (∀ j, u.ownBlock = some j → j ≠ p) ∧ Rs wx p [.int .i64 (X0 : Int), .int .i64 x1, .slice ak ss.length ck] ∧ Below w2.heap.size w2 wx ∧ p < wx.heap.size) (fun _ _ vi _ => ss.length - (intOf vi).toNat)
        case atStart => exact ⟨0, X0, T0, Nat.zero_le _, rfl, rfl, hin, Nat.le_refl _, rfl, o6', fun j hj => (hvb j hj).2, R6, b6, hpw⟩
        case round =>
          obtain ⟨i, Q, T, hi', rfl, rfl, hQ, hTl, hlw, hot, hnp, hR, hbx, hpx⟩ := hrel
          have HLW : Hid (lineW xs (ss.drop i) Q T = lineW xs ss X0 T0) := hlw
          have HNP : Hid (∀ j, u7.ownBlock = some j → j ≠ p) := hnp
          clear hlw hnp
          have hzx := hbx.size
          have t2 := hR 2 _ rfl
          by_cases hil : i < ss.length
          · have qi : (i : Int) < (ss.length : Int) := by omega
            obtain ⟨b, off', e', hb, hc0⟩ := SK.2 i hil
            have hcx := (hbx.cell (p := ⟨b, off' + i, none⟩) (show b < w2.heap.size by omega)).trans hc0
            have hdr := ss_drop ss i hil
            have hoj := okTo_at hol hil
            subst e'
            obtain ⟨s, hse⟩ : ∃ s, ss.getD i ByteArray.empty = s := ⟨_, rfl⟩
            rw [hse] at hcx hdr hoj
            have hps := okH_size hoj
            have hmk : mark0 s = 32 ∨ mark0 s = 45 ∨ mark0 s = 43 := of_decide_eq_true (okH_mk hoj)
            have HLC : Hid (lineW xs (s :: ss.drop (i + 1)) Q T = lineW xs ss X0 T0) := by show _ = _; rw [← hdr]; exact HLW.out
            have hzs : (0 : Int) < (s.size : Int) := by omega
            have h1s : (1 : Int) ≤ (s.size : Int) := by omega
            obtain ⟨t, ht⟩ : ∃ t, s.extract 1 s.size = t := ⟨_, rfl⟩
            have HT : Hid (s.extract 1 s.size = t) := ht
            have hem := mark0_eq s hps
            have hsx : (A1.bQ hbx (by omega)) = (A1.bQ hbx (by omega)) := rfl
            clear hc0 hse hoj hdr hsx
            by_cases hm : mark0 s = 43
            · have HL2 : Hid (lineW xs (ss.drop (i + 1)) Q (T ++ [t]) = lineW xs ss X0 T0) := by
                show _ = _
                rw [← HLC.out, lineW, if_pos hm, HT.out]
              rw [hem] at hm
              clear hem hmk
              go_wp2_with ((at_builtin; refine wpList_append_own_at _ rfl (.tmp 94) (.tmp 96) 24 rfl w2.heap.size 9 i0 (.string ByteArray.empty) 1 16 Try.underlying24 hi hz0 hz1 hzb rfl (by decide) _ _ _ rfl (hot.alloc _) ⟨wr.heap.size, 0, none⟩ 1 1 [.string t] rfl rfl (cell_one_new _ _ _) (by simp [Value.oneCell']) (by unfold maxLen; omega) (by omega) (by simp; omega) ?_; intro v' W5 p5 g5 _ k5))
              have zz5 := g5.size
              simp only [World.size_alloc] at zz5 k5
              have O5 : Hid (W5.ownsRow w2.heap.size 9 1 v' (T ++ [t]).length ((T ++ [t]).map Value.string)) := by
                show World.ownsRow _ _ _ _ _ _ _
                rw [List.length_append, List.map_append]; exact p5
              have B5 : Below w2.heap.size w2 W5 := (hbx.alloc hzx _).grown g5 (by simp; omega) (fun j hj => (hot.lt j hj).1)
              have R5 := (hR.below (allocBelow wr _)).grown g5 (fun e => HNP.out p e.symm rfl)
              have N5 : Hid (∀ j, v'.ownBlock = some j → j ≠ p) := by
                show ∀ j, _
                intro j hj
                rcases k5 with h | h
                · exact HNP.out j (h ▸ hj)
                · rw [h] at hj
                  simp only [Option.some.injEq] at hj
                  omega
              have hl5 : (T ++ [t]).length ≤ T0.length + (i + 1) := by rw [List.length_append, List.length_singleton]; omega
              clear p5 g5 k5 hot hbx hR t2 hcx
              go_roundw
              case rel => exact ⟨i + 1, Q, T ++ [t], by omega, by first | rfl | go_num, by first | rfl | go_num, hQ, hl5, HL2.out, O5.out, N5.out, R5, B5, by omega⟩
              case measure => first | (simp [intOf]; omega) | simp [intOf]
            · by_cases hin2 : Q < xs.length
              · have q2 : ¬ (xs.length : Int) ≤ (Q : Int) := by omega
                have q3 : (Q : Int) < (xs.length : Int) := by omega
                have S1x := A1.bQ hbx (by omega)
                obtain ⟨b2, off2, e2', hb2, hc2⟩ := S1x.2 Q hin2
                obtain ⟨y, hy⟩ : ∃ y, xs.getD Q ByteArray.empty = y := ⟨_, rfl⟩
                rw [hy] at hc2
                have HY : Hid (xs.getD Q ByteArray.empty = y) := hy
                clear hy S1x
                subst e2'
                by_cases hyt : y = t
                · have hbe := beq_bytes_true hyt
                  have hst' : i < xs.length ∨ True := .inr trivial
                  have HOK : Hid (Q < xs.length ∧ xs.getD Q ByteArray.empty = s.extract 1 s.size) := ⟨hin2, by rw [HY.out, HT.out]; exact hyt⟩
                  by_cases h5 : mark0 s = 45
                  · have HL2 : Hid (lineW xs (ss.drop (i + 1)) (Q + 1) T = lineW xs ss X0 T0) := by
                      show _ = _
                      rw [← HLC.out, lineW, if_neg hm, if_pos HOK.out, if_pos h5]
                    rw [hem] at h5 hm
                    clear hem hmk hyt hst'
                    go_wp2
                    have hl5 : T.length ≤ T0.length + (i + 1) := by omega
                    go_roundw
                    case rel => exact ⟨i + 1, Q + 1, T, by omega, by first | rfl | go_num, by first | rfl | go_num, by omega, hl5, HL2.out, hot, HNP.out, hR, hbx, hpx⟩
                    case measure => first | (simp [intOf]; omega) | simp [intOf]
                  · have h32 : mark0 s = 32 := by omega
                    have HL2 : Hid (lineW xs (ss.drop (i + 1)) (Q + 1) (T ++ [t]) = lineW xs ss X0 T0) := by
                      show _ = _
                      rw [← HLC.out, lineW, if_neg hm, if_pos HOK.out, if_neg h5, HT.out]
                    rw [hem] at h32
                    clear hem hmk hyt hst' hm h5
                    go_wp2_with ((at_builtin; refine wpList_append_own_at _ rfl (.tmp 94) (.tmp 96) 24 rfl w2.heap.size 9 i0 (.string ByteArray.empty) 1 16 Try.underlying24 hi hz0 hz1 hzb rfl (by decide) _ _ _ rfl (hot.alloc _) ⟨wr.heap.size, 0, none⟩ 1 1 [.string t] rfl rfl (cell_one_new _ _ _) (by simp [Value.oneCell']) (by unfold maxLen; omega) (by omega) (by simp; omega) ?_; intro v' W5 p5 g5 _ k5))
                    have zz5 := g5.size
                    simp only [World.size_alloc] at zz5 k5
                    have O5 : Hid (W5.ownsRow w2.heap.size 9 1 v' (T ++ [t]).length ((T ++ [t]).map Value.string)) := by
                      show World.ownsRow _ _ _ _ _ _ _
                      rw [List.length_append, List.map_append]; exact p5
                    have B5 : Below w2.heap.size w2 W5 := (hbx.alloc hzx _).grown g5 (by simp; omega) (fun j hj => (hot.lt j hj).1)
                    have R5 := (hR.below (allocBelow wr _)).grown g5 (fun e => HNP.out p e.symm rfl)
                    have N5 : Hid (∀ j, v'.ownBlock = some j → j ≠ p) := by
                      show ∀ j, _
                      intro j hj
                      rcases k5 with h | h
                      · exact HNP.out j (h ▸ hj)
                      · rw [h] at hj
                        simp only [Option.some.injEq] at hj
                        omega
                    have hl5 : (T ++ [t]).length ≤ T0.length + (i + 1) := by rw [List.length_append, List.length_singleton]; omega
                    clear p5 g5 k5 hot hbx hR t2 hcx
                    go_roundw
                    case rel => exact ⟨i + 1, Q + 1, T ++ [t], by omega, by first | rfl | go_num, by first | rfl | go_num, by omega, hl5, HL2.out, O5.out, N5.out, R5, B5, by omega⟩
                    case measure => first | (simp [intOf]; omega) | simp [intOf]
                · have hbe := beq_bytes_false hyt
                  have HNS : Hid (¬ stands xs X0 (wout 43 ss)) := by
                    show ¬ _
                    intro hst
                    have h1 := lineW_ok xs ss X0 T0 hin hst
                    rw [← HLC.out, lineW, if_neg hm, if_neg (fun h => hyt (by rw [← HY.out, ← HT.out]; exact h.2))] at h1
                    cases h1
                  rw [hem] at hm
                  clear hem hyt
                  obtain ⟨HR, HLn⟩ := HNO.out HNS.out
                  have HRh : Hid (apR xs l = 6) := HR
                  have HLh : Hid (apL xs l = []) := HLn
                  clear HR HLn
                  obtain ⟨kk0, kk1, gg0, gg1⟩ := r2.below (by omega) hbx
                  have HB := below_sets (BB.trans (hbx.mono (by omega))) (Nat.le_refl _) (.int .i64 6) (.slice none 0 0)
                  clear A1 A3 r2 BB HNO HNS
                  go_wp2
                  refine bodyPost_ret (v := .agg #[.int .i64 6, .slice none 0 0]) (by simp [results, Try.results12, go_sem, kk0, kk1]) rfl ?_
                  rw [HRh.out, HLh.out]
                  exact ⟨_, rfl, ⟨rfl, .inl ⟨rfl, rfl⟩⟩, HB⟩
              · have q2 : (xs.length : Int) ≤ (Q : Int) := by omega
                have HNS : Hid (¬ stands xs X0 (wout 43 ss)) := by
                  show ¬ _
                  intro hst
                  have h1 := lineW_ok xs ss X0 T0 hin hst
                  rw [← HLC.out, lineW, if_neg hm, if_neg (fun h => hin2 h.1)] at h1
                  cases h1
                rw [hem] at hm
                clear hem
                obtain ⟨HR, HLn⟩ := HNO.out HNS.out
                have HRh : Hid (apR xs l = 6) := HR
                have HLh : Hid (apL xs l = []) := HLn
                clear HR HLn
                obtain ⟨kk0, kk1, gg0, gg1⟩ := r2.below (by omega) hbx
                have HB := below_sets (BB.trans (hbx.mono (by omega))) (Nat.le_refl _) (.int .i64 6) (.slice none 0 0)
                clear A1 A3 r2 BB HNO HNS
                go_wp2
                refine bodyPost_ret (v := .agg #[.int .i64 6, .slice none 0 0]) (by simp [results, Try.results12, go_sem, kk0, kk1]) rfl ?_
                rw [HRh.out, HLh.out]
                exact ⟨_, rfl, ⟨rfl, .inl ⟨rfl, rfl⟩⟩, HB⟩
          · have qi : ¬ (i : Int) < (ss.length : Int) := by omega
            obtain rfl : i = ss.length := by omega
            have hend : lineW xs (ss.drop ss.length) Q T = some (Q, T) := by rw [List.drop_length]; rfl
            have hstd : stands xs X0 (wout 43 ss) := Classical.byContradiction fun hns => by
              have h1 := lineW_no xs ss X0 T0 hin hns
              rw [← HLW.out, hend] at h1
              cases h1
            have h1 := lineW_ok xs ss X0 T0 hin hstd
            rw [← HLW.out, hend] at h1
            simp only [Option.some.injEq, Prod.mk.injEq] at h1
            obtain ⟨hq1, hq2⟩ := h1
            have HALL2 : Hid (∀ j, j < k + 1 → apSt xs l j = true) := by
              show ∀ j, _
              intro j hj
              by_cases e : j = k
              · rw [e, HST.out]; exact decide_eq_true hstd
              · exact HALL.out j (by omega)
            have HO : Hid (wr.ownsRow w2.heap.size 9 1 u7 (apM xs l (k + 1)).length ((apM xs l (k + 1)).map Value.string)) := by
              show World.ownsRow _ _ _ _ _ _ _
              rw [HWS.out, HS0.out, HS1.out, HT0.out, ← hq2]; exact hot
            have HQ : Hid (apAt l (k + 1) = Q) := by show _ = _; rw [HAT.out, hq1]
            clear hq1 hq2 hot hend hstd
            go_wp2
            clear t2
            go_roundw
            case rel => exact ⟨k + 1, by omega, by first | rfl | go_num, by rw [HQ.out], HALL2.out, HO.out, hbx⟩
            case measure => first | (simp [intOf]; omega) | simp [intOf]
      · have e2 : (xs.length : Int) < (X0 : Int) := by omega
        have HNS : Hid (¬ stands xs X0 (wout 43 ss)) := fun h => by have := h.1; omega
        obtain ⟨HR, HLn⟩ := HNO.out HNS.out
        have HRh : Hid (apR xs l = 6) := HR
        have HLh : Hid (apL xs l = []) := HLn
        clear HR HLn
        have hbx := hbel.trans (b3.mono hsz)
        obtain ⟨kk0, kk1, gg0, gg1⟩ := r2.below (by omega) hbx
        have HB := below_sets (BB.trans (hbx.mono (by omega))) (Nat.le_refl _) (.int .i64 6) (.slice none 0 0)
        clear A1 A3 r2 BB HNO HNS
        go_wp2
        refine bodyPost_ret (v := .agg #[.int .i64 6, .slice none 0 0]) (by simp [results, Try.results12, go_sem, kk0, kk1]) rfl ?_
        rw [HRh.out, HLh.out]
        exact ⟨_, rfl, ⟨rfl, .inl ⟨rfl, rfl⟩⟩, HB⟩
    · have q : ¬ (k : Int) < (l.length : Int) := by omega
      obtain rfl : k = l.length := by omega
      have hok : apOk xs l = true := apOk_yes HALL.out
      have hle := apAt_le HALL.out
      have hall : apAll xs l = apM xs l l.length ++ (xs.drop (apAt l l.length)).take (xs.length - apAt l l.length) := rfl
      have hwl := apM_length (xs := xs) H0.out l.length (Nat.le_refl _)
      have hln := hf_len H0.out
      have htot := apAll_tot (xs := xs) H0.out
      have hlen := apAll_length H0.out hxn
      obtain ⟨P, hP⟩ : ∃ P, apAt l l.length = P := ⟨_, rfl⟩
      rw [hP] at hall hle ⊢
      obtain ⟨A, hA⟩ := segAd ha1 c1 P
      have hs1 := segSSB (A1.below hbel) P xs.length c1 hle (Nat.le_refl _) k1
      rw [hA] at hs1
      have hl1 : ((xs.drop P).take (xs.length - P)).length = xs.length - P := by rw [List.length_take, List.length_drop]; omega
      obtain ⟨S0, hS0⟩ : ∃ S, apM xs l l.length = S := ⟨_, rfl⟩
      obtain ⟨S1, hS1⟩ : ∃ S, (xs.drop P).take (xs.length - P) = S := ⟨_, rfl⟩
      rw [hS0, hS1] at hall
      rw [hS0] at hown hwl
      rw [hS1] at hs1 hl1
      have hn1' := newsOf hs1
      have hl1' : (S1.map Value.string).length = (xs.length - P) * 1 := by rw [List.length_map, hl1, Nat.mul_one]
      have e1 : (P : Int) ≤ (xs.length : Int) := by omega
      have hub : ∀ j, u7.ownBlock = some j → w2.heap.size ≤ j := fun j hj => (hown.lt j hj).1
      have HR : Hid (apR xs l = lf (apAll xs l)) := by show _ = _; unfold apR; rw [HX.out, H0.out, hok]; rfl
      have HL1 : Hid (lf (apAll xs l) = 0 → apL xs l = apAll xs l) := by
        show _ → _
        intro h
        unfold apL
        rw [if_pos ⟨HX.out, H0.out, hok, h⟩]
      have HL2 : Hid (¬ lf (apAll xs l) = 0 → apL xs l = []) := by
        show _ → _
        intro h
        unfold apL
        rw [if_neg (fun h' => h h'.2.2.2)]
      clear hP hS0 hS1 hs1 hok A3 HALL
      go_wp2_with ((at_builtin; refine wpList_append_own_at _ rfl (.tmp 98) (.tmp 101) 24 rfl w2.heap.size 9 i0 (.string ByteArray.empty) 1 16 Try.underlying24 hi hz0 hz1 hzb rfl (by decide) _ _ _ rfl hown A (xs.length - P) _ (S1.map Value.string) rfl hl1' hn1' (oneStr _) (by unfold maxLen; omega) (by omega) hsz ?_; intro v3 w3 o3 g3 _ k3))
      rw [← hl1, ← List.length_append, mapApp, ← hall] at o3
      obtain ⟨y, cy, rfl⟩ := shapeS o3
      have b3 : Below w2.heap.size w2 w3 := hbel.grown g3 hsz hub
      have z3 := b3.size
      have BB3 := BB.trans (b3.mono (by omega))
      obtain ⟨L, hL⟩ : ∃ L, apAll xs l = L := ⟨_, rfl⟩
      rw [hL] at o3 htot hlen ⊢
      rw [hL] at HR HL1 HL2
      have hzL : ∀ k, k < L.length → (L.getD k ByteArray.empty).size ≤ 1048576 := fun k hk => by
        rw [getD_at L k hk]
        have := tot_of_mem (List.getElem_mem hk)
        omega
      have SL : SS w3 y L := ownSS o3 (fun k hk => by have := hzL k hk; omega)
      have hlf := specLinesFault y cy L w3 SL (by omega) (by omega)
      have rr := r2.below (by omega) b3
      clear hl1 hall g3 k3 hbel hown hub hn1' hl1' hL A1 r2
      have hw2 : w.heap.size < w2.heap.size := by omega
      by_cases hl0 : lf L = 0
      · have HV : Hid (lf L = 0) := hl0
        rw [hl0] at hlf
        obtain ⟨kk0, kk1, gg0, gg1⟩ := rr
        have HP : Hid (((w3.setCell ⟨w.heap.size, 0, none⟩ (.int .i64 0)).setCell ⟨w.heap.size, 1, none⟩ (.slice y L.length cy)).ownsRow w.heap.size 9 1 (.slice y L.length cy) L.length (L.map Value.string)) := by
          have hs := grownTrans (grownSet w3 w.heap.size 0 (.int .i64 0)) (grownSet _ w.heap.size 1 (.slice y L.length cy))
          exact ownMono (o3.kept hs (blockCases _ _ fun j e1 e2 => by cases e2; have := (o3.lt _ e1).1; omega)) (by omega)
        have HB := below_sets BB3 (Nat.le_refl _) (.int .i64 0) (.slice y L.length cy)
        clear o3 BB3 BB hl0
        go_wp2_with fail
        refine hlf.mono ?_; rintro e w3' ⟨rfl, rfl⟩
        go_wp2
        refine bodyPost_ret (v := .agg #[.int .i64 0, .slice y L.length cy]) (by simp [results, Try.results12, go_sem, kk0, kk1]) rfl ?_
        rw [HR.out, HL1.out HV.out, HV.out]
        exact ⟨_, rfl, HP.out, HB⟩
      · have hb := ne_beq hl0
        obtain ⟨v, hv⟩ : ∃ v, lf L = v := ⟨_, rfl⟩
        have HV : Hid (lf L = v) := hv
        have HN : Hid (¬ lf L = 0) := hl0
        rw [hv] at hlf hb
        obtain ⟨kk0, kk1, gg0, gg1⟩ := rr
        have HB := below_sets BB3 (Nat.le_refl _) (.int .i64 v) (.slice none 0 0)
        clear o3 BB3 BB hl0 hv
        go_wp2_with fail
        refine hlf.mono ?_; rintro e w3' ⟨rfl, rfl⟩
        go_wp2_with fail
        refine bodyPost_ret (v := .agg #[.int .i64 v, .slice none 0 0]) (by simp [results, Try.results12, go_sem, kk0, kk1]) rfl ?_
        rw [HR.out, HL2.out HN.out, HV.out]
        exact ⟨_, rfl, ⟨rfl, .inl ⟨rfl, rfl⟩⟩, HB⟩
end Go.Proofs.Ytepbkaidlffaiab
