/- The contract of impl.ApplyHunks. No statement is proved here. -/
import Derived.Test.YtepbkaidlffaiabRows
import Derived.Test.YtepbkaidlffaiabLemQ
import Derived.Test.YtepbkaidlffaiabStrsQ
import Derived.Test.YtepbkaidlffaiabLFLemQ
import Derived.Test.YtepbkaidlffaiabLFQ
import Derived.Test.YtepbkaidlffaiabDTabQ
import Derived.Test.YtepbkaidlffaiabOwnQ
import Derived.Test.YtepbkaidlffaiabFrQ
import Derived.Test.YtepbkaidlffaiabInQ
import Derived.Test.YtepbkaidlffaiabWvCQ
import Derived.Test.YtepbkaidlffaiabHkLQ
import Derived.Test.YtepbkaidlffaiabHkCQ
import Derived.Test.YtepbkaidlffaiabHfCQ
import Derived.Test.YtepbkaidlffaiabHfIQ
import Derived.Test.YtepbkaidlffaiabHnLQ
import Derived.Test.YtepbkaidlffaiabApCQ
import Derived.Test.YtepbkaidlffaiabApBQ
import Derived.WalkKit
import Derived.ProofKit
import Derived.Below
import Derived.WalkSpells
import Derived.Maps.AppendAt
namespace Go.Proofs.Ytepbkaidlffaiab
open Go.ChangeShapes Go.WideShapes Go.ChangeAt Go.RowKit

set_option maxRecDepth 20000 in
set_option maxHeartbeats 4000000 in
theorem implApply (a1 a3 : Option Addr) (ha1 : ∃ g, a1 = some ⟨g, 0, none⟩) (c1 c3 : Nat) (xs : List ByteArray) (l : List Hk) (w : World) (h1 : SS w a1 xs) (h3 : HB w.heap.size w a3 l) (k1 : xs.length ≤ c1) (n1 : xs.length ≤ 1048576) (n3 : l.length ≤ 1048576) (hs : Shortly l)
    (hT : tot xs + totK l l.length ≤ 1048576) (hx : lf xs = 0) (h0 : Go.Proofs.Ytepbkaidlffaiab.hf l = 0) :
    Calls Try.prog 11 #[.slice a1 xs.length c1, .slice a3 l.length c3] w fun e w' => LP (apR xs l) (apL xs l) w e w' := by
  have hA := fun w h => implLinesFault a1 c1 xs w h n1
  have hB := fun w h => implHunksFault a3 c3 l w h n3 hs
  rw [hx] at hA
  rw [h0] at hB
  have hxn := (lf_zero' hx).1
  obtain ⟨W1, hW1⟩ : ∃ W1, w.alloc (.cells #[.int .i64 0, .slice none 0 0] 29) = W1 := ⟨_, rfl⟩
  have b1 : Below w.heap.size w W1 := by rw [← hW1]; exact allocBelow _ _
  have zW : w.heap.size < W1.heap.size := by rw [← hW1]; simp
  have r1 : Res2 W1 w.heap.size (.int .i64 0) (.slice none 0 0) := by rw [← hW1]; exact Res2.new _ _ _ _
  have s1 := h1.below b1
  have s3 := h3.below b1
  have HX : Hid (lf xs = 0) := hx
  have H0 : Hid (Go.Proofs.Ytepbkaidlffaiab.hf l = 0) := h0
  clear hx h0
  go_enter Try.func11, Try.ntmps11
  go_wp2_with fail
  refine (hA _ s1).mono ?_; rintro e w1' ⟨rfl, rfl⟩
  go_wp2_with fail
  refine (hB _ (s3.mono (by omega))).mono ?_; rintro e w2 ⟨rfl, b2⟩
  have A1 : SSB w.heap.size w2 a1 xs := (h1.toB.below b1).below b2
  have A3 := s3.below b2
  have r2 := r1.below zW b2
  have BB := b1.trans (b2.mono b1.size)
  have hz2 := b2.size
  clear s1 s3 h1 h3 hA hB r1 b1 b2 hW1
  go_wp2
  go_loopw [7, 8, 27] (fun u va vk wr => ∃ k : Nat, k ≤ l.length ∧ vk = .int .i64 (k : Int) ∧ va = .int .i64 ((apAt l k : Nat) : Int) ∧ (∀ j, j < k → apSt xs l j = true) ∧ wr.ownsRow w2.heap.size 9 1 u (apM xs l k).length ((apM xs l k).map Value.string) ∧ Below w2.heap.size w2 wr) (fun _ _ vk _ => l.length - (intOf vk).toNat)
  case atStart => exact ⟨0, Nat.zero_le _, rfl, rfl, fun j hj => absurd hj (Nat.not_lt_zero _), ⟨rfl, .inl ⟨rfl, rfl⟩⟩, Below.refl _ _⟩
  case round =>
    obtain ⟨k, hk, rfl, rfl, hall, hown, hbel⟩ := hrel
    have hsz := hbel.size
    have HALL : Hid (∀ j, j < k → apSt xs l j = true) := hall
    clear hall
    by_cases hlt : k < l.length
    · have q : (k : Int) < (l.length : Int) := by omega
      obtain ⟨g, off, ak, ck, e, hg, d0, d1, d2, hSB⟩ := A3.below hbel k hlt
      subst e
      have hnm := ap_nums H0.out hlt
      have hwl := apM_length (xs := xs) H0.out k hk
      have hln := hf_len H0.out
      have hws := apM_succ xs l k
      have hat := apAt_succ l k
      have hst : apSt xs l k = stBo xs (l.getD k (0, 0, [])).1.toNat (wout 43 (l.getD k (0, 0, [])).2.2) := rfl
      have htk := totK_mem l k l.length hlt
      obtain ⟨C, hCe⟩ : ∃ C, l.getD k (0, 0, []) = C := ⟨_, rfl⟩
      obtain ⟨x0, x1, ss⟩ := C
      rw [hCe] at d0 d1 d2 hSB hnm hws hat hst htk
      simp only [] at d0 d1 d2 hSB hnm hws hat hst htk
      obtain ⟨X0, rfl⟩ : ∃ X : Nat, x0 = (X : Int) := ⟨x0.toNat, by omega⟩
      rw [Int.toNat_natCast] at hnm hws hat hst
      obtain ⟨P, hP⟩ : ∃ P, apAt l k = P := ⟨_, rfl⟩
      rw [hP] at hnm hws ⊢
      obtain ⟨hn1, _, hn2, hn3, hol⟩ := hnm
      have htx := tot_nonneg xs
      have hzo := wout_small (b := 43) (ss := ss) (Z := 1048576) (by omega)
      have hzn := wout_small (b := 45) (ss := ss) (Z := 1048576) (by omega)
      have hlo := wout_length 43 ss
      have hlm := wout_length 45 ss
      have hub : ∀ j, u7.ownBlock = some j → w2.heap.size ≤ j ∧ j < wr.heap.size := fun j hj => hown.lt j hj
      have HWS : Hid (apM xs l (k + 1) = apM xs l k ++ (xs.drop P).take (X0 - P) ++ wout 45 ss) := hws
      have HAT : Hid (apAt l (k + 1) = X0 + (wout 43 ss).length) := hat
      have HST : Hid (apSt xs l k = stBo xs X0 (wout 43 ss)) := hst
      obtain ⟨S0, hS0⟩ : ∃ S, apM xs l k = S := ⟨_, rfl⟩
      have HS0 : Hid (apM xs l k = S0) := hS0
      rw [hS0] at hown hwl
      clear hws hat hst hCe hP hS0
      obtain ⟨W3, hW3⟩ : ∃ W, wr.alloc (.cells #[.int .i64 (X0 : Int), .int .i64 x1, .slice ak ss.length ck] 79) = W := ⟨_, rfl⟩
      have R3 : Rs W3 wr.heap.size [.int .i64 (X0 : Int), .int .i64 x1, .slice ak ss.length ck] := by rw [← hW3]; exact Rs.new _ _ _
      have b3 : Below wr.heap.size wr W3 := by rw [← hW3]; exact allocBelow _ _
      have z3 : wr.heap.size < W3.heap.size := by rw [← hW3]; simp
      have hC4 := linesWithout 43 (X0 : Int) x1 ak ck ss W3 ((hSB.below b3).toSS (by omega)) (by omega) hol
      have m0 := R3 0 _ rfl
      have m1 := R3 1 _ rfl
      have m2 := R3 2 _ rfl
      go_wp2_with fail
      clear hW3 d0 d1 d2
      refine hC4.mono ?_; rintro e w4 ⟨⟨v4, rfl, o4⟩, b4⟩
      clear m0 m1 m2
      obtain ⟨oa, oc, e4⟩ := shapeS o4
      subst e4
      have R4 := (Fr.ofBelow (lo := 0) (hi := 0) b4).rs R3 (.inr (Nat.zero_le _))
      have b34 := b3.trans (b4.mono (Nat.le_of_lt z3))
      have z4 := b4.size
      have SO : SS w4 oa (wout 43 ss) := ownSS o4 (fun k hk => by have := hzo k hk; omega)
      have S4 : SSB w.heap.size w4 a1 xs := (A1.below (hbel.mono (Nat.le_refl _))).below b34
      have SK4 : SSB w.heap.size w4 ak ss := hSB.below b34
      have O4 := (Fr.ofBelow (lo := 0) (hi := 0) b34).own hown (fun _ _ => .inr (Nat.zero_le _))
      have hC5 := standsAt a1 oa ha1 c1 oc X0 xs (wout 43 ss) w4 (S4.toSS (by omega)) SO k1 n1 (by omega) (by omega)
      rw [← HST.out] at hC5
      clear hC4 b3 b4 SO o4 R3 hSB
      have m0 := R4 0 _ rfl
      cases hcs : apSt xs l k with
      | false =>
        rw [hcs] at hC5
        obtain ⟨kk0, kk1, gg0, gg1⟩ := (r2.below (by omega) hbel).below (by omega) b34
        have HR : Hid (apR xs l = 6) := by show _ = _; unfold apR; rw [HX.out, H0.out, apOk_no hlt hcs]; rfl
        have HL : Hid (apL xs l = []) := by
          show _ = _
          unfold apL
          rw [apOk_no hlt hcs, if_neg (fun h => Bool.false_ne_true h.2.2.1)]
        have BB4 := fun n => below_drewN' ((BB.trans (hbel.mono (by omega))).trans (b34.mono (by omega))) n
        have HB := fun n => below_sets (BB4 n) (Nat.le_refl _) (.int .i64 6) (.slice none 0 0)
        clear hcs S4 SK4 O4 hown hbel b34 BB4 A1 A3 r2 BB
        go_wp2_with fail
        refine hC5.mono ?_; rintro e w5 ⟨rfl, n, rfl⟩
        clear m0
        go_wp2
        refine bodyPost_ret (v := .agg #[.int .i64 6, .slice none 0 0]) (by simp [results, Try.results11, go_sem, kk0, kk1]) rfl ?_
        rw [HR.out, HL.out]
        exact ⟨_, rfl, ⟨rfl, .inl ⟨rfl, rfl⟩⟩, HB n⟩
      | true =>
        rw [hcs] at hC5
        have hin := (stBo_true (HST.out ▸ hcs)).1
        have HALL2 : Hid (∀ j, j < k + 1 → apSt xs l j = true) := by
          show ∀ j, _
          intro j hj
          by_cases e : j = k
          · rw [e]; exact hcs
          · exact HALL.out j (by omega)
        clear hcs
        go_wp2_with fail
        refine hC5.mono ?_; rintro e w5 ⟨rfl, n, hw5⟩
        have b45 : Below wr.heap.size wr w5 := by rw [hw5]; exact below_drewN' b34 n
        have z5 : w4.heap.size = w5.heap.size := by rw [hw5]; rfl
        have R5 : Rs w5 wr.heap.size [.int .i64 (X0 : Int), .int .i64 x1, .slice ak ss.length ck] := by rw [hw5]; exact R4
        have S5 : SSB w.heap.size w5 a1 xs := by rw [hw5]; exact S4
        have SK5 : SSB w.heap.size w5 ak ss := by rw [hw5]; exact SK4
        have O5 : w5.ownsRow w2.heap.size 9 1 u7 S0.length (S0.map Value.string) := by
          have := (Fr.ofBelow (lo := 0) (hi := 0) b45).own hown (fun _ _ => .inr (Nat.zero_le _))
          exact this
        have Z5 : Hid (w4.heap.size = w5.heap.size) := z5
        have z5' : W3.heap.size ≤ w5.heap.size := by omega
        clear hw5 m0 R4 S4 SK4 O4 b34 hC5 z4 z5 hown
        obtain ⟨A, hA⟩ := segAd ha1 c1 P
        have hs1 := segSSB S5 P X0 c1 hn1 (by omega) k1
        rw [hA] at hs1
        have hl1 : ((xs.drop P).take (X0 - P)).length = X0 - P := by rw [List.length_take, List.length_drop]; omega
        obtain ⟨S1, hS1⟩ : ∃ S, (xs.drop P).take (X0 - P) = S := ⟨_, rfl⟩
        have HS1 : Hid ((xs.drop P).take (X0 - P) = S1) := hS1
        rw [hS1] at hs1 hl1
        have hn1' := newsOf hs1
        have hl1' : (S1.map Value.string).length = (X0 - P) * 1 := by rw [List.length_map, hl1, Nat.mul_one]
        clear hS1 hs1
        have m0 := R5 0 _ rfl
        have e1 : (P : Int) ≤ (X0 : Int) := by omega
        have e2 : (X0 : Int) ≤ (xs.length : Int) := by omega
        obtain ⟨i0, hi, hz0, hz1, hz2⟩ := info_parts infoString
        go_wp2_with ((at_builtin; refine wpList_append_own_at _ rfl (.tmp 40) (.tmp 45) 24 rfl w2.heap.size 9 i0 (.string ByteArray.empty) 1 16 Try.underlying24 hi hz0 hz1 hz2 rfl (by decide) _ _ _ rfl O5 A (X0 - P) _ (S1.map Value.string) rfl hl1' hn1' (oneStr _) (by unfold maxLen; omega) (by omega) (by omega) ?_; intro v6 w6 o6 g6 _ k6; have m0 := g6.cell m0 (fun e => by have := (hub _ e.symm).2; simp at this); have m1 := g6.cell (R5 1 _ rfl) (fun e => by have := (hub _ e.symm).2; simp at this); have m2 := g6.cell (R5 2 _ rfl) (fun e => by have := (hub _ e.symm).2; simp at this)))
        have o6' : w6.ownsRow w2.heap.size 9 1 v6 (S0 ++ S1).length ((S0 ++ S1).map Value.string) := by
          rw [List.length_append, List.map_append, hl1]; exact o6
        have hvb := vbOf hub k6 (by omega) (fun j hj => (o6.lt j hj).1)
        have SK6 : SSB w.heap.size w6 ak ss := SK5.grown g6 (fun j hj => by have := hub j hj; omega)
        have z6 := g6.size
        have b6 : Below w2.heap.size w2 w6 := (hbel.trans (b45.mono hsz)).grown g6 (by omega) (fun j hj => (hub j hj).1)
        have hC7 := linesWithout 45 (X0 : Int) x1 ak ck ss w6 (SK6.toSS (by omega)) (by omega) hol
        have hv6 : ∀ j, v6.ownBlock = some j → j < w6.heap.size := fun j hj => (o6.lt j hj).2
        clear o6 g6 k6 R5 S5 SK5 SK6 O5 hn1' hl1'
        refine hC7.mono ?_; rintro e w7 ⟨⟨v7, rfl, o7⟩, b7⟩
        have F7 : Fr 0 0 w6 w7 := Fr.ofBelow b7
        have m0 := F7.cell m0 (.inr (Nat.zero_le _))
        have o6 := F7.own o6' (fun _ _ => .inr (Nat.zero_le _))
        have z7 := b7.size
        have bb7 := b6.trans (b7.mono (by omega))
        clear m1 m2 o6' hC7 b6 b7 F7
        have hb8 : (S0 ++ S1).length + (wout 45 ss).length ≤ 1048576 := by rw [List.length_append]; omega
        go_wp2_with ((at_builtin; refine wpList_appS rfl (.tmp 47) (.tmp 49) rfl w2.heap.size w6.heap.size _ _ rfl o6 _ _ rfl o7 hb8 (by omega) ?_; intro v8 w8 o8 g8 _; have m0 := g8.cell m0 (fun e => (hvb _ e.symm).2 rfl)))
        have HB : Hid (Below w2.heap.size w2 w8) := bb7.grown g8 (by omega) (fun j hj => (hvb j hj).1)
        have HO : Hid (w8.ownsRow w2.heap.size 9 1 v8 (apM xs l (k + 1)).length ((apM xs l (k + 1)).map Value.string)) := by
          show World.ownsRow _ _ _ _ _ _ _
          rw [HWS.out, HS0.out, HS1.out]; exact o8
        clear o6 o7 o8 g8 bb7 hvb hub hv6 m0
        go_wp2
        go_roundw
        case rel => exact ⟨k + 1, by omega, by first | rfl | go_num, by rw [HAT.out]; first | rfl | go_num, HALL2.out, HO.out, HB.out⟩
        case measure => first | (simp [intOf]; omega) | simp [intOf]
    · have q : ¬ (k : Int) < (l.length : Int) := by omega
      obtain rfl : k = l.length := by omega
      have hok : apOk xs l = true := apOk_yes HALL.out
      have hle := apAt_le HALL.out
      have hall : apAll xs l = apM xs l l.length ++ (xs.drop (apAt l l.length)).take (xs.length - apAt l l.length) := rfl
      have hwl := apM_length (xs := xs) H0.out l.length (Nat.le_refl _)
      have hln := hf_len H0.out
      have htot := apAll_tot (xs := xs) H0.out
      have hlen := apAll_length H0.out hxn
      obtain ⟨P, hP⟩ : ∃ P, apAt l l.length = P := ⟨_, rfl⟩
      rw [hP] at hall hle ⊢
      obtain ⟨A, hA⟩ := segAd ha1 c1 P
      have hs1 := segSSB (A1.below hbel) P xs.length c1 hle (Nat.le_refl _) k1
      rw [hA] at hs1
      have hl1 : ((xs.drop P).take (xs.length - P)).length = xs.length - P := by rw [List.length_take, List.length_drop]; omega
      obtain ⟨S0, hS0⟩ : ∃ S, apM xs l l.length = S := ⟨_, rfl⟩
      obtain ⟨S1, hS1⟩ : ∃ S, (xs.drop P).take (xs.length - P) = S := ⟨_, rfl⟩
      rw [hS0, hS1] at hall
      rw [hS0] at hown hwl
      rw [hS1] at hs1 hl1
      have hn1' := newsOf hs1
      have hl1' : (S1.map Value.string).length = (xs.length - P) * 1 := by rw [List.length_map, hl1, Nat.mul_one]
      have e1 : (P : Int) ≤ (xs.length : Int) := by omega
      have hub : ∀ j, u7.ownBlock = some j → w2.heap.size ≤ j := fun j hj => (hown.lt j hj).1
      have HR : Hid (apR xs l = lf (apAll xs l)) := by show _ = _; unfold apR; rw [HX.out, H0.out, hok]; rfl
      have HL1 : Hid (lf (apAll xs l) = 0 → apL xs l = apAll xs l) := by
        show _ → _
        intro h
        unfold apL
        rw [if_pos ⟨HX.out, H0.out, hok, h⟩]
      have HL2 : Hid (¬ lf (apAll xs l) = 0 → apL xs l = []) := by
        show _ → _
        intro h
        unfold apL
        rw [if_neg (fun h' => h h'.2.2.2)]
      clear hP hS0 hS1 hs1 hok A3 HALL
      obtain ⟨i0, hi, hz0, hz1, hz2'⟩ := info_parts infoString
      go_wp2_with ((at_builtin; refine wpList_append_own_at _ rfl (.tmp 57) (.tmp 60) 24 rfl w2.heap.size 9 i0 (.string ByteArray.empty) 1 16 Try.underlying24 hi hz0 hz1 hz2' rfl (by decide) _ _ _ rfl hown A (xs.length - P) _ (S1.map Value.string) rfl hl1' hn1' (oneStr _) (by unfold maxLen; omega) (by omega) hsz ?_; intro v3 w3 o3 g3 _ k3))
      rw [← hl1, ← List.length_append, mapApp, ← hall] at o3
      obtain ⟨y, cy, rfl⟩ := shapeS o3
      have b3 : Below w2.heap.size w2 w3 := hbel.grown g3 hsz hub
      have z3 := b3.size
      have BB3 := BB.trans (b3.mono (by omega))
      obtain ⟨L, hL⟩ : ∃ L, apAll xs l = L := ⟨_, rfl⟩
      rw [hL] at o3 htot hlen ⊢
      rw [hL] at HR HL1 HL2
      have hzL : ∀ k, k < L.length → (L.getD k ByteArray.empty).size ≤ 1048576 := fun k hk => by
        rw [getD_at L k hk]
        have := tot_of_mem (List.getElem_mem hk)
        omega
      have SL : SS w3 y L := ownSS o3 (fun k hk => by have := hzL k hk; omega)
      have hlf := implLinesFault y cy L w3 SL (by omega)
      have rr := r2.below (by omega) b3
      clear hl1 hall g3 k3 hbel hown hub hn1' hl1' hL A1 r2
      have hw2 : w.heap.size < w2.heap.size := by omega
      by_cases hl0 : lf L = 0
      · have HV : Hid (lf L = 0) := hl0
        rw [hl0] at hlf
        have hcp := appendCopies w3.heap.size (.slice none 0 0) [] L y cy w3 ⟨rfl, .inl ⟨rfl, rfl⟩⟩ SL.toB (Nat.le_refl _) hzL (by simp; omega)
        clear hl0 o3
        go_wp2_with fail
        refine hlf.mono ?_; rintro e w3' ⟨rfl, rfl⟩
        go_wp2_with fail
        refine hcp.mono ?_; rintro e w4 ⟨v4, rfl, o4, g4, u4⟩
        have b4 : Below w3'.heap.size w3' w4 := ⟨g4.os, g4.tape, g4.output, g4.size, fun k hk => g4.block k hk (fun e => by cases e)⟩
        rw [List.length_nil, Nat.zero_add, List.nil_append] at o4
        obtain ⟨va, vc, rfl⟩ := shapeS o4
        obtain ⟨kk0, kk1, gg0, gg1⟩ := rr.below (by omega) b4
        have HP : Hid (((w4.setCell ⟨w.heap.size, 0, none⟩ (.int .i64 0)).setCell ⟨w.heap.size, 1, none⟩ (.slice va L.length vc)).ownsRow w.heap.size 9 1 (.slice va L.length vc) L.length (L.map Value.string)) := by
          have hs := grownTrans (grownSet w4 w.heap.size 0 (.int .i64 0)) (grownSet _ w.heap.size 1 (.slice va L.length vc))
          exact ownMono (o4.kept hs (blockCases _ _ fun j e1 e2 => by cases e2; have := (o4.lt _ e1).1; omega)) (by omega)
        have HB := below_sets (BB3.trans (b4.mono (by omega))) (Nat.le_refl _) (.int .i64 0) (.slice va L.length vc)
        clear o4 g4 u4 b4 BB3 BB hcp rr
        go_wp2
        refine bodyPost_ret (v := .agg #[.int .i64 0, .slice va L.length vc]) (by simp [results, Try.results11, go_sem, kk0, kk1]) rfl ?_
        rw [HR.out, HL1.out HV.out, HV.out]
        exact ⟨_, rfl, HP.out, HB⟩
      · have hb := ne_beq hl0
        obtain ⟨v, hv⟩ : ∃ v, lf L = v := ⟨_, rfl⟩
        have HV : Hid (lf L = v) := hv
        have HN : Hid (¬ lf L = 0) := hl0
        rw [hv] at hlf hb
        obtain ⟨kk0, kk1, gg0, gg1⟩ := rr
        have HB := below_sets BB3 (Nat.le_refl _) (.int .i64 v) (.slice none 0 0)
        clear o3 BB3 BB hl0 hv
        go_wp2_with fail
        refine hlf.mono ?_; rintro e w3' ⟨rfl, rfl⟩
        go_wp2_with fail
        refine bodyPost_ret (v := .agg #[.int .i64 v, .slice none 0 0]) (by simp [results, Try.results11, go_sem, kk0, kk1]) rfl ?_
        rw [HR.out, HL2.out HN.out, HV.out]
        exact ⟨_, rfl, ⟨rfl, .inl ⟨rfl, rfl⟩⟩, HB⟩
end Go.Proofs.Ytepbkaidlffaiab
