/- Proved: at every list of lines and every list of hunks FnExactApplyHunks returns true (ApplyHunks answers as its specification, field by field; its answer owns its memory, behind another call too; neither list is changed). No condition: FnExactApplyHunksSaid itself. -/
import Derived.Test.YtakegfhbhhkakaiRows
import Derived.Test.YtakegfhbhhkakaiLem
import Derived.Test.YtakegfhbhhkakaiStrs
import Derived.Test.YtakegfhbhhkakaiMarks
import Derived.Test.YtakegfhbhhkakaiHeld
import Derived.Test.YtakegfhbhhkakaiLFLem
import Derived.Test.YtakegfhbhhkakaiLF
import Derived.Test.YtakegfhbhhkakaiDTab
import Derived.Test.YtakegfhbhhkakaiOwn
import Derived.Test.YtakegfhbhhkakaiFr
import Derived.Test.YtakegfhbhhkakaiIn
import Derived.Test.YtakegfhbhhkakaiLnR
import Derived.Test.YtakegfhbhhkakaiHkL
import Derived.Test.YtakegfhbhhkakaiHkC
import Derived.Test.YtakegfhbhhkakaiHkS
import Derived.Test.YtakegfhbhhkakaiHkT
import Derived.Test.YtakegfhbhhkakaiHkE
import Derived.Test.YtakegfhbhhkakaiHfL
import Derived.Test.YtakegfhbhhkakaiHfC
import Derived.Test.YtakegfhbhhkakaiHfI
import Derived.Test.YtakegfhbhhkakaiHfS
import Derived.Test.YtakegfhbhhkakaiHnL
import Derived.Test.YtakegfhbhhkakaiHnT
import Derived.Test.YtakegfhbhhkakaiOpH
import Derived.Test.YtakegfhbhhkakaiOpN
import Derived.Test.YtakegfhbhhkakaiHrR
import Derived.Test.YtakegfhbhhkakaiHrP
import Derived.Test.YtakegfhbhhkakaiApC
import Derived.Test.YtakegfhbhhkakaiApL
import Derived.Test.YtakegfhbhhkakaiApM
import Derived.Test.YtakegfhbhhkakaiApN
import Derived.WalkKit
import Derived.ProofKit
import Derived.OpenShut
import Derived.Below
import Derived.Carry
namespace Go.Proofs.Ytakegfhbhhkakai.ApLaw
open Go.ChangeShapes Go.WideShapes Go.ChangeAt Go.RowKit

theorem ownOne (b n cap : Nat) : ∀ j, (Value.slice (some ⟨b, 0, none⟩) n cap).ownBlock = some j → b ≤ j ∧ j < b + 1 := by
  intro j hj
  have e : b = j := by simpa [Value.ownBlock] using hj
  omega
set_option maxRecDepth 20000 in
set_option maxHeartbeats 4000000 in
theorem walk (a1 : Option Addr) (c1 : Nat) (x1s : List ByteArray) (a2 : Option Addr) (c2 : Nat) (l2h : List Hk) (w : World) (h1 : SS w a1 x1s) (n1 : x1s.length ≤ 9223372036854775807) (h2 : HB w.heap.size w a2 l2h) (hl2 : Long l2h) (hf2 : Fits l2h) (n2 : l2h.length ≤ 9223372036854775807) :
    Calls Try.prog 3 #[.slice a1 x1s.length c1, .slice a2 l2h.length c2] w fun e w' => e = .returned (.bool true) ∧ Below w.heap.size w w' := by
  have BB := Below.refl w.heap.size w
  have A1 : SSB w.heap.size w a1 x1s := h1
  have zz1 := h1.1
  clear h1
  obtain ⟨Q1, hQ1⟩ : ∃ Q, left 1048576 x1s = Q := ⟨_, rfl⟩
  have HQ1 : Hid (left 1048576 x1s = Q1) := hQ1
  have hZ1 := fun W h => szStringS a1 c1 x1s 1048576 W h n1 (by omega) (by omega)
  rw [hQ1] at hZ1
  by_cases hx1 : Q1 < 0
  · clear hQ1
    go_enter Try.func3, Try.ntmps3
    go_wp2_with fail
    refine (hZ1 _ (A1.toSS (by omega))).mono ?_; rintro e w ⟨rfl, rfl⟩
    go_wp2_with fail
    go_ret
    exact ⟨rfl, BB⟩
  have hq1a : 0 ≤ Q1 := by omega
  have hq1b : Q1 ≤ 1048576 := by rw [← HQ1.out]; unfold left; have := tot_nonneg x1s; split <;> omega
  obtain ⟨e1, g1, k1⟩ := left_ge (show ¬ left 1048576 x1s < 0 by rw [hQ1]; exact hx1)
  have t1 := tot_nonneg x1s
  have l1 : x1s.length ≤ 1048576 := by omega
  have tt1 : tot x1s ≤ 1048576 := by omega
  rw [hQ1] at e1
  replace e1 : Q1 ≤ 1048576 - x1s.length - tot x1s := by omega
  clear hQ1
  have A2 := h2
  clear h2
  obtain ⟨Q2, hQ2⟩ : ∃ Q, leftH Q1 l2h = Q := ⟨_, rfl⟩
  have HQ2 : Hid (leftH Q1 l2h = Q2) := hQ2
  have hZ2 := fun W h => szHunkS a2 c2 l2h Q1 W h hl2 n2 hq1a hq1b
  rw [hQ2] at hZ2
  by_cases hx2 : Q2 < 0
  · clear hQ2
    go_enter Try.func3, Try.ntmps3
    go_wp2_with fail
    refine (hZ1 _ (A1.toSS (by omega))).mono ?_; rintro e w ⟨rfl, rfl⟩
    go_wp2_with fail
    refine (hZ2 _ (A2.mono (by omega))).mono ?_; rintro e w1 ⟨rfl, b⟩
    have F2 : Fr w.heap.size w.heap.size w w1 := Fr.ofBelow b
    replace A1 := F2.ssb A1 (by omega)
    replace BB := F2.below BB (by omega) (by omega)
    replace A2 := A2.fr F2 (.inl (by omega))
    have SF2 := F2.size
    clear b F2
    go_wp2_with fail
    go_ret
    exact ⟨rfl, BB⟩
  have hq2a : 0 ≤ Q2 := by omega
  have hq2b : Q2 ≤ 1048576 := by rw [← HQ2.out]; exact leftH_le _ _ hq1b (by omega)
  have hx2' : ¬ leftH Q1 l2h < 0 := by rw [hQ2]; exact hx2
  obtain ⟨p2, g2, k2⟩ := leftH_nums hx2'
  have hs2 : Shortly l2h := fun x hx => by have := (k2 x hx).1; omega
  have l2 : l2h.length ≤ 1048576 := by omega
  have hzz2 : ∀ x ∈ l2h, ∀ s ∈ x.2.2, s.size ≤ 1048576 := sum_short (fun x hx => by have := k2 x hx; omega)
  have hm2 : mkN l2h l2h.length ≤ 2097152 := by rw [mkN_full]; omega
  have tk2 := leftH_tot hx2'
  clear hQ2
  have hTT : tot x1s + totK l2h l2h.length ≤ 1048576 := by omega
  have hS : ∀ (g1 : Nat) (a2 : Option Addr) (c2 : Nat) W, SS W (some ⟨g1, 0, none⟩) x1s → HB W.heap.size W a2 l2h → Calls Try.prog 8 #[.slice (some ⟨g1, 0, none⟩) x1s.length x1s.length, .slice a2 l2h.length c2] W fun e w' => LP (apR x1s l2h) (apL x1s l2h) W e w' := fun g1 a2 c2 W h1 h2 => specApplyHunks _ a2 ⟨g1, rfl⟩ x1s.length c2 x1s l2h W h1 h2 (Nat.le_refl _) l1 l2 hs2 hTT
  have hI : ∀ (g1 : Nat) (a2 : Option Addr) (c2 : Nat) W, SS W (some ⟨g1, 0, none⟩) x1s → HB W.heap.size W a2 l2h → Calls Try.prog 11 #[.slice (some ⟨g1, 0, none⟩) x1s.length x1s.length, .slice a2 l2h.length c2] W fun e w' => LP (apR x1s l2h) (apL x1s l2h) W e w' := fun g1 a2 c2 W h1 h2 => implApplyHunks _ a2 ⟨g1, rfl⟩ x1s.length c2 x1s l2h W h1 h2 (Nat.le_refl _) l1 l2 hs2 hTT
  have hLn := apL_length x1s l2h
  have zL : ∀ k, k < (apL x1s l2h).length → ((apL x1s l2h).getD k ByteArray.empty).size ≤ 9223372036854775807 := fun k hk => by have := apL_small x1s l2h hTT k hk; omega
  obtain ⟨r, hrr⟩ : ∃ r, apR x1s l2h = r := ⟨_, rfl⟩
  obtain ⟨L, hL⟩ : ∃ L, apL x1s l2h = L := ⟨_, rfl⟩
  rw [hrr, hL] at hS hI
  rw [hL] at hLn zL
  clear hrr hL e1 g1 k1 t1 tt1 hx2' p2 g2 k2 tk2 hTT
  go_enter Try.func3, Try.ntmps3
  go_wp2_with fail
  refine (hZ1 _ (A1.toSS (by omega))).mono ?_; rintro e w ⟨rfl, rfl⟩
  go_wp2_with fail
  refine (hZ2 _ (A2.mono (by omega))).mono ?_; rintro e w1 ⟨rfl, b⟩
  have F2 : Fr w.heap.size w.heap.size w w1 := Fr.ofBelow b
  replace A1 := F2.ssb A1 (by omega)
  replace BB := F2.below BB (by omega) (by omega)
  replace A2 := A2.fr F2 (.inl (by omega))
  have SF2 := F2.size
  clear b F2
  go_wp2_with fail
  refine (toStringS _ _ _ _ (A1.toSS (by omega)) l1).mono ?_; rintro e w3 ⟨rfl, x1, b⟩
  have zw3 := size_of_owns x1
  have jx1 : ∀ j, (Value.slice (some ⟨w1.heap.size, 0, none⟩) x1s.length x1s.length).ownBlock = some j → w1.heap.size ≤ j ∧ j < w3.heap.size := fun j hj => x1.lt j hj
  have F4 : Fr w.heap.size w.heap.size w1 w3 := Fr.ofBelow b
  replace A1 := F4.ssb A1 (by omega)
  replace BB := F4.below BB (by omega) (by omega)
  replace A2 := A2.fr F4 (.inl (by omega))
  have SF4 := F4.size
  clear b F4
  go_wp2_with fail
  refine (toHunkS a2 c2 l2h _ (A2.mono (by omega)) hs2 l2).mono ?_; rintro e w5 ⟨rfl, ⟨slx2, x2⟩, b⟩
  have jx2 : ∀ j, (Value.slice (some ⟨w3.heap.size, 0, none⟩) l2h.length l2h.length).ownBlock = some j → w3.heap.size ≤ j ∧ j < w5.heap.size := fun j hj => x2.row.lt j hj
  have sx2 : ∀ n, n < l2h.length → ∀ j, (slx2 n).ownBlock = some j → w3.heap.size ≤ j ∧ j < w5.heap.size := fun n hn j hj => (x2.each n hn).lt j hj
  have F6 : Fr w.heap.size w.heap.size w3 w5 := Fr.ofBelow b
  replace A1 := F6.ssb A1 (by omega)
  replace BB := F6.below BB (by omega) (by omega)
  replace A2 := A2.fr F6 (.inl (by omega))
  replace x1 := F6.own x1 (fun j hj => by have := jx1 j hj; omega)
  have SF6 := F6.size
  clear b F6
  go_wp2_with fail
  refine (hS _ _ _ _ (ownSS x1 zz1) (x2.read hf2)).mono ?_; rintro e w7 ⟨vp, rfl, p, bp⟩
  obtain ⟨pa, pc, ep⟩ := shapeS p
  subst ep
  have jp : ∀ j, (Value.slice pa L.length pc).ownBlock = some j → w5.heap.size ≤ j ∧ j < w7.heap.size := fun j hj => p.lt j hj
  have F8 : Fr w.heap.size w.heap.size w5 w7 := Fr.ofBelow bp
  replace A1 := F8.ssb A1 (by omega)
  replace BB := F8.below BB (by omega) (by omega)
  replace A2 := A2.fr F8 (.inl (by omega))
  replace x1 := F8.own x1 (fun j hj => by have := jx1 j hj; omega)
  replace x2 := x2.fr F8 (fun j hj => by have := jx2 j hj; omega) (fun n hn j hj => by have := sx2 n hn j hj; omega)
  have SF8 := F8.size
  clear bp F8
  clear x1 jx1
  clear x2 jx2 sx2
  obtain ⟨W9, hW9⟩ : ∃ W, w7.alloc (.cells #[.int .i64 r, .slice pa L.length pc] 27) = W := ⟨_, rfl⟩
  have Rp : Rs W9 w7.heap.size [.int .i64 r, .slice pa L.length pc] := by rw [← hW9]; exact Rs.new _ _ _
  have F10 : Fr w.heap.size w.heap.size w7 W9 := by rw [← hW9]; exact Fr.ofAlloc _ _
  have zW9 : w7.heap.size < W9.heap.size := by rw [← hW9]; simp
  replace A1 := F10.ssb A1 (by omega)
  replace BB := F10.below BB (by omega) (by omega)
  replace A2 := A2.fr F10 (.inl (by omega))
  replace p := F10.own p (fun j hj => by have := jp j hj; omega)
  have SF10 := F10.size
  clear F10
  go_wp2_with fail
  refine (toStringS _ _ _ _ (A1.toSS (by omega)) l1).mono ?_; rintro e w11 ⟨rfl, X1, b⟩
  have zw11 := size_of_owns X1
  have jX1 : ∀ j, (Value.slice (some ⟨W9.heap.size, 0, none⟩) x1s.length x1s.length).ownBlock = some j → W9.heap.size ≤ j ∧ j < w11.heap.size := fun j hj => X1.lt j hj
  have F12 : Fr w.heap.size w.heap.size W9 w11 := Fr.ofBelow b
  replace A1 := F12.ssb A1 (by omega)
  replace BB := F12.below BB (by omega) (by omega)
  replace A2 := A2.fr F12 (.inl (by omega))
  replace p := F12.own p (fun j hj => by have := jp j hj; omega)
  replace Rp := F12.rs Rp (by omega)
  have SF12 := F12.size
  clear b F12
  clear hW9
  go_wp2_with fail
  refine (toHunkS a2 c2 l2h _ (A2.mono (by omega)) hs2 l2).mono ?_; rintro e w13 ⟨rfl, ⟨slX2, X2⟩, b⟩
  have jX2 : ∀ j, (Value.slice (some ⟨w11.heap.size, 0, none⟩) l2h.length l2h.length).ownBlock = some j → w11.heap.size ≤ j ∧ j < w13.heap.size := fun j hj => X2.row.lt j hj
  have sX2 : ∀ n, n < l2h.length → ∀ j, (slX2 n).ownBlock = some j → w11.heap.size ≤ j ∧ j < w13.heap.size := fun n hn j hj => (X2.each n hn).lt j hj
  have F14 : Fr w.heap.size w.heap.size w11 w13 := Fr.ofBelow b
  replace A1 := F14.ssb A1 (by omega)
  replace BB := F14.below BB (by omega) (by omega)
  replace A2 := A2.fr F14 (.inl (by omega))
  replace p := F14.own p (fun j hj => by have := jp j hj; omega)
  replace Rp := F14.rs Rp (by omega)
  replace X1 := F14.own X1 (fun j hj => by have := jX1 j hj; omega)
  have SF14 := F14.size
  clear b F14
  go_wp2_with fail
  refine (hI _ _ _ _ (ownSS X1 zz1) (X2.read hf2)).mono ?_; rintro e w15 ⟨vq, rfl, q, bq⟩
  obtain ⟨qa, qc, eq⟩ := shapeS q
  subst eq
  have jq : ∀ j, (Value.slice qa L.length qc).ownBlock = some j → w13.heap.size ≤ j ∧ j < w15.heap.size := fun j hj => q.lt j hj
  have F16 : Fr w.heap.size w.heap.size w13 w15 := Fr.ofBelow bq
  replace A1 := F16.ssb A1 (by omega)
  replace BB := F16.below BB (by omega) (by omega)
  replace A2 := A2.fr F16 (.inl (by omega))
  replace p := F16.own p (fun j hj => by have := jp j hj; omega)
  replace Rp := F16.rs Rp (by omega)
  replace X1 := F16.own X1 (fun j hj => by have := jX1 j hj; omega)
  replace X2 := X2.fr F16 (fun j hj => by have := jX2 j hj; omega) (fun n hn j hj => by have := sX2 n hn j hj; omega)
  have SF16 := F16.size
  clear bq F16
  obtain ⟨W17, hW17⟩ : ∃ W, w15.alloc (.cells #[.int .i64 r, .slice qa L.length qc] 27) = W := ⟨_, rfl⟩
  have Rq : Rs W17 w15.heap.size [.int .i64 r, .slice qa L.length qc] := by rw [← hW17]; exact Rs.new _ _ _
  have F18 : Fr w.heap.size w.heap.size w15 W17 := by rw [← hW17]; exact Fr.ofAlloc _ _
  have zW17 : w15.heap.size < W17.heap.size := by rw [← hW17]; simp
  replace A1 := F18.ssb A1 (by omega)
  replace BB := F18.below BB (by omega) (by omega)
  replace A2 := A2.fr F18 (.inl (by omega))
  replace p := F18.own p (fun j hj => by have := jp j hj; omega)
  replace Rp := F18.rs Rp (by omega)
  replace X1 := F18.own X1 (fun j hj => by have := jX1 j hj; omega)
  replace X2 := X2.fr F18 (fun j hj => by have := jX2 j hj; omega) (fun n hn j hj => by have := sX2 n hn j hj; omega)
  replace q := F18.own q (fun j hj => by have := jq j hj; omega)
  have SF18 := F18.size
  clear F18
  have dp0 := Rp 0 _ rfl
  have dp1 := Rp 1 _ rfl
  have dq0 := Rq 0 _ rfl
  have dq1 := Rq 1 _ rfl
  go_wp2_with fail
  refine (eqLinesResult _ _ _ _ _ _ _ (ownSS q zL) (ownSS p zL) (by omega)).mono ?_; rintro e w19 ⟨rfl, b⟩
  have F20 : Fr w.heap.size w.heap.size W17 w19 := Fr.ofBelow b
  replace A1 := F20.ssb A1 (by omega)
  replace BB := F20.below BB (by omega) (by omega)
  replace A2 := A2.fr F20 (.inl (by omega))
  replace p := F20.own p (fun j hj => by have := jp j hj; omega)
  replace Rp := F20.rs Rp (by omega)
  replace X1 := F20.own X1 (fun j hj => by have := jX1 j hj; omega)
  replace X2 := X2.fr F20 (fun j hj => by have := jX2 j hj; omega) (fun n hn j hj => by have := sX2 n hn j hj; omega)
  replace q := F20.own q (fun j hj => by have := jq j hj; omega)
  replace Rq := F20.rs Rq (by omega)
  have SF20 := F20.size
  clear b F20
  clear dp0 dp1
  clear dq0 dq1
  clear hW17
  go_wp2_with fail
  refine (toStringS _ _ _ _ (A1.toSS (by omega)) l1).mono ?_; rintro e w21 ⟨rfl, y, b⟩
  have zw21 := size_of_owns y
  have jy : ∀ j, (Value.slice (some ⟨w19.heap.size, 0, none⟩) x1s.length x1s.length).ownBlock = some j → w19.heap.size ≤ j ∧ j < w21.heap.size := fun j hj => y.lt j hj
  have F22 : Fr w.heap.size w.heap.size w19 w21 := Fr.ofBelow b
  replace A1 := F22.ssb A1 (by omega)
  replace BB := F22.below BB (by omega) (by omega)
  replace A2 := A2.fr F22 (.inl (by omega))
  replace p := F22.own p (fun j hj => by have := jp j hj; omega)
  replace Rp := F22.rs Rp (by omega)
  replace X1 := F22.own X1 (fun j hj => by have := jX1 j hj; omega)
  replace X2 := X2.fr F22 (fun j hj => by have := jX2 j hj; omega) (fun n hn j hj => by have := sX2 n hn j hj; omega)
  replace q := F22.own q (fun j hj => by have := jq j hj; omega)
  replace Rq := F22.rs Rq (by omega)
  have SF22 := F22.size
  clear b F22
  go_wp2_with fail
  refine (eqStringS _ _ _ _ _ _ _ (ownSS X1 zz1) (ownSS y zz1) l1 l1).mono ?_; rintro e w23 ⟨rfl, nw23, hw23⟩
  rw [eqB_self]
  clear y jy
  have F24 : Fr w.heap.size w.heap.size w21 w23 := by rw [hw23]; exact (Fr.refl _ _ _).drewN _
  clear hw23
  replace A1 := F24.ssb A1 (by omega)
  replace BB := F24.below BB (by omega) (by omega)
  replace A2 := A2.fr F24 (.inl (by omega))
  replace p := F24.own p (fun j hj => by have := jp j hj; omega)
  replace Rp := F24.rs Rp (by omega)
  replace X1 := F24.own X1 (fun j hj => by have := jX1 j hj; omega)
  replace X2 := X2.fr F24 (fun j hj => by have := jX2 j hj; omega) (fun n hn j hj => by have := sX2 n hn j hj; omega)
  replace q := F24.own q (fun j hj => by have := jq j hj; omega)
  replace Rq := F24.rs Rq (by omega)
  have SF24 := F24.size
  clear F24
  go_wp2_with fail
  refine (toHunkS a2 c2 l2h _ (A2.mono (by omega)) hs2 l2).mono ?_; rintro e w25 ⟨rfl, ⟨sly, y⟩, b⟩
  have jy : ∀ j, (Value.slice (some ⟨w23.heap.size, 0, none⟩) l2h.length l2h.length).ownBlock = some j → w23.heap.size ≤ j ∧ j < w25.heap.size := fun j hj => y.row.lt j hj
  have sy : ∀ n, n < l2h.length → ∀ j, (sly n).ownBlock = some j → w23.heap.size ≤ j ∧ j < w25.heap.size := fun n hn j hj => (y.each n hn).lt j hj
  have F26 : Fr w.heap.size w.heap.size w23 w25 := Fr.ofBelow b
  replace A1 := F26.ssb A1 (by omega)
  replace BB := F26.below BB (by omega) (by omega)
  replace A2 := A2.fr F26 (.inl (by omega))
  replace p := F26.own p (fun j hj => by have := jp j hj; omega)
  replace Rp := F26.rs Rp (by omega)
  replace X1 := F26.own X1 (fun j hj => by have := jX1 j hj; omega)
  replace X2 := X2.fr F26 (fun j hj => by have := jX2 j hj; omega) (fun n hn j hj => by have := sX2 n hn j hj; omega)
  replace q := F26.own q (fun j hj => by have := jq j hj; omega)
  replace Rq := F26.rs Rq (by omega)
  have SF26 := F26.size
  clear b F26
  go_wp2_with fail
  refine (eqHunkS _ _ _ _ l2h _ (X2.read hf2) (y.read hf2) hs2 l2).mono ?_; rintro e w27 ⟨rfl, b⟩
  clear y jy sy
  have F28 : Fr w.heap.size w.heap.size w25 w27 := Fr.ofBelow b
  replace A1 := F28.ssb A1 (by omega)
  replace BB := F28.below BB (by omega) (by omega)
  replace A2 := A2.fr F28 (.inl (by omega))
  replace p := F28.own p (fun j hj => by have := jp j hj; omega)
  replace Rp := F28.rs Rp (by omega)
  replace X1 := F28.own X1 (fun j hj => by have := jX1 j hj; omega)
  replace X2 := X2.fr F28 (fun j hj => by have := jX2 j hj; omega) (fun n hn j hj => by have := sX2 n hn j hj; omega)
  replace q := F28.own q (fun j hj => by have := jq j hj; omega)
  replace Rq := F28.rs Rq (by omega)
  have SF28 := F28.size
  clear b F28
  go_wp2_with fail
  refine (markStringS _ _ _ _ (1) _ _ (by omega) (by omega) X1).mono ?_; rintro e w29 ⟨rfl, o, gg⟩
  have F30 : Fr W9.heap.size (W9.heap.size + 1) w27 w29 := Fr.ofGrown gg (ownOne _ _ _)
  clear o gg X1
  replace A1 := F30.ssb A1 (by omega)
  replace BB := F30.below BB (by omega) (by omega)
  replace A2 := A2.fr F30 (.inl (by omega))
  replace p := F30.own p (fun j hj => by have := jp j hj; omega)
  replace Rp := F30.rs Rp (by omega)
  replace X2 := X2.fr F30 (fun j hj => by have := jX2 j hj; omega) (fun n hn j hj => by have := sX2 n hn j hj; omega)
  replace q := F30.own q (fun j hj => by have := jq j hj; omega)
  replace Rq := F30.rs Rq (by omega)
  have SF30 := F30.size
  clear F30 jX1
  go_wp2_with fail
  refine (markHunkS w11.heap.size w13.heap.size _ _ (1 + x1s.length) l2h slX2 _ (by omega) (by omega) X2 (by have := (jX2 _ rfl).2; omega) (fun n hn j hj => (sX2 n hn j hj).2)).mono ?_; rintro e w31 ⟨rfl, XM, FX⟩
  clear X2 XM
  replace A1 := FX.ssb A1 (by omega)
  replace BB := FX.below BB (by omega) (by omega)
  replace A2 := A2.fr FX (.inl (by omega))
  replace p := FX.own p (fun j hj => by have := jp j hj; omega)
  replace Rp := FX.rs Rp (by omega)
  replace q := FX.own q (fun j hj => by have := jq j hj; omega)
  replace Rq := FX.rs Rq (by omega)
  have SFX := FX.size
  clear FX jX2 sX2
  obtain ⟨K, hK⟩ : ∃ K : Int, ((1 + x1s.length + mkN l2h l2h.length : Nat) : Int) = K := ⟨_, rfl⟩
  have hK0 : ¬ K < 0 := by omega
  rw [hK]
  clear hK
  have dp0 := Rp 0 _ rfl
  have dp1 := Rp 1 _ rfl
  have dq0 := Rq 0 _ rfl
  have dq1 := Rq 1 _ rfl
  go_wp2_with fail
  refine (eqLinesResult _ _ _ _ _ _ _ (ownSS q zL) (ownSS p zL) (by omega)).mono ?_; rintro e w32 ⟨rfl, b⟩
  have F33 : Fr w.heap.size w.heap.size w31 w32 := Fr.ofBelow b
  replace A1 := F33.ssb A1 (by omega)
  replace BB := F33.below BB (by omega) (by omega)
  replace A2 := A2.fr F33 (.inl (by omega))
  replace p := F33.own p (fun j hj => by have := jp j hj; omega)
  replace Rp := F33.rs Rp (by omega)
  replace q := F33.own q (fun j hj => by have := jq j hj; omega)
  replace Rq := F33.rs Rq (by omega)
  have SF33 := F33.size
  clear b F33
  clear dp0 dp1
  clear dq0 dq1
  have dq0 := Rq 0 _ rfl
  have dq1 := Rq 1 _ rfl
  go_wp2_with fail
  refine (markLinesResult w13.heap.size w15.heap.size _ _ L.length _ 1 _ _ (by omega) (by omega) q (fun j hj => (jq j hj).2)).mono ?_; rintro e w34 ⟨rfl, Q, FM⟩
  clear q
  clear dq0 dq1
  replace A1 := FM.ssb A1 (by omega)
  replace BB := FM.below BB (by omega) (by omega)
  replace A2 := A2.fr FM (.inl (by omega))
  replace p := FM.own p (fun j hj => by have := jp j hj; omega)
  replace Rp := FM.rs Rp (by omega)
  replace Rq := FM.rs Rq (by omega)
  have SFM := FM.size
  clear FM
  have jQ := jq
  obtain ⟨M, hM⟩ : ∃ M : Int, ((1 + L.length : Nat) : Int) = M := ⟨_, rfl⟩
  have hM0 : ¬ M < 0 := by omega
  have hMM : (M != M) = false := by simp
  rw [hM]
  have dq0 := Rq 0 _ rfl
  have dq1 := Rq 1 _ rfl
  go_wp2_with fail
  refine (heldLinesResult _ _ L.length _ 1 _ (by omega) (by omega) (ssMarks Q (by omega))).mono ?_; rintro e w35 ⟨rfl, b⟩
  rw [hM]
  clear dq0 dq1
  have F36 : Fr w.heap.size w.heap.size w34 w35 := Fr.ofBelow b
  replace A1 := F36.ssb A1 (by omega)
  replace BB := F36.below BB (by omega) (by omega)
  replace A2 := A2.fr F36 (.inl (by omega))
  replace p := F36.own p (fun j hj => by have := jp j hj; omega)
  replace Rp := F36.rs Rp (by omega)
  replace Rq := F36.rs Rq (by omega)
  replace Q := F36.own Q (fun j hj => by have := jQ j hj; omega)
  have SF36 := F36.size
  clear b F36
  go_wp2_with fail
  refine (toStringS _ _ _ _ (A1.toSS (by omega)) l1).mono ?_; rintro e w37 ⟨rfl, z1, b⟩
  have zw37 := size_of_owns z1
  have jz1 : ∀ j, (Value.slice (some ⟨w35.heap.size, 0, none⟩) x1s.length x1s.length).ownBlock = some j → w35.heap.size ≤ j ∧ j < w37.heap.size := fun j hj => z1.lt j hj
  have F38 : Fr w.heap.size w.heap.size w35 w37 := Fr.ofBelow b
  replace A1 := F38.ssb A1 (by omega)
  replace BB := F38.below BB (by omega) (by omega)
  replace A2 := A2.fr F38 (.inl (by omega))
  replace p := F38.own p (fun j hj => by have := jp j hj; omega)
  replace Rp := F38.rs Rp (by omega)
  replace Rq := F38.rs Rq (by omega)
  replace Q := F38.own Q (fun j hj => by have := jQ j hj; omega)
  have SF38 := F38.size
  clear b F38
  go_wp2_with fail
  refine (toHunkS a2 c2 l2h _ (A2.mono (by omega)) hs2 l2).mono ?_; rintro e w39 ⟨rfl, ⟨slz2, z2⟩, b⟩
  have jz2 : ∀ j, (Value.slice (some ⟨w37.heap.size, 0, none⟩) l2h.length l2h.length).ownBlock = some j → w37.heap.size ≤ j ∧ j < w39.heap.size := fun j hj => z2.row.lt j hj
  have sz2 : ∀ n, n < l2h.length → ∀ j, (slz2 n).ownBlock = some j → w37.heap.size ≤ j ∧ j < w39.heap.size := fun n hn j hj => (z2.each n hn).lt j hj
  have F40 : Fr w.heap.size w.heap.size w37 w39 := Fr.ofBelow b
  replace A1 := F40.ssb A1 (by omega)
  replace BB := F40.below BB (by omega) (by omega)
  replace A2 := A2.fr F40 (.inl (by omega))
  replace p := F40.own p (fun j hj => by have := jp j hj; omega)
  replace Rp := F40.rs Rp (by omega)
  replace Rq := F40.rs Rq (by omega)
  replace Q := F40.own Q (fun j hj => by have := jQ j hj; omega)
  replace z1 := F40.own z1 (fun j hj => by have := jz1 j hj; omega)
  have SF40 := F40.size
  clear b F40
  go_wp2_with fail
  refine (hI _ _ _ _ (ownSS z1 zz1) (z2.read hf2)).mono ?_; rintro e w41 ⟨vs, rfl, s, bs⟩
  obtain ⟨sa, sc, es⟩ := shapeS s
  subst es
  have js : ∀ j, (Value.slice sa L.length sc).ownBlock = some j → w39.heap.size ≤ j ∧ j < w41.heap.size := fun j hj => s.lt j hj
  have F42 : Fr w.heap.size w.heap.size w39 w41 := Fr.ofBelow bs
  replace A1 := F42.ssb A1 (by omega)
  replace BB := F42.below BB (by omega) (by omega)
  replace A2 := A2.fr F42 (.inl (by omega))
  replace p := F42.own p (fun j hj => by have := jp j hj; omega)
  replace Rp := F42.rs Rp (by omega)
  replace Rq := F42.rs Rq (by omega)
  replace Q := F42.own Q (fun j hj => by have := jQ j hj; omega)
  replace z1 := F42.own z1 (fun j hj => by have := jz1 j hj; omega)
  replace z2 := z2.fr F42 (fun j hj => by have := jz2 j hj; omega) (fun n hn j hj => by have := sz2 n hn j hj; omega)
  have SF42 := F42.size
  clear bs F42
  clear z1 jz1
  clear z2 jz2 sz2
  obtain ⟨W43, hW43⟩ : ∃ W, w41.alloc (.cells #[.int .i64 r, .slice sa L.length sc] 27) = W := ⟨_, rfl⟩
  have Rs : Rs W43 w41.heap.size [.int .i64 r, .slice sa L.length sc] := by rw [← hW43]; exact Rs.new _ _ _
  have F44 : Fr w.heap.size w.heap.size w41 W43 := by rw [← hW43]; exact Fr.ofAlloc _ _
  have zW43 : w41.heap.size < W43.heap.size := by rw [← hW43]; simp
  replace A1 := F44.ssb A1 (by omega)
  replace BB := F44.below BB (by omega) (by omega)
  replace A2 := A2.fr F44 (.inl (by omega))
  replace p := F44.own p (fun j hj => by have := jp j hj; omega)
  replace Rp := F44.rs Rp (by omega)
  replace Rq := F44.rs Rq (by omega)
  replace Q := F44.own Q (fun j hj => by have := jQ j hj; omega)
  replace s := F44.own s (fun j hj => by have := js j hj; omega)
  have SF44 := F44.size
  clear F44
  have dp0 := Rp 0 _ rfl
  have dp1 := Rp 1 _ rfl
  have ds0 := Rs 0 _ rfl
  have ds1 := Rs 1 _ rfl
  go_wp2_with fail
  refine (eqLinesResult _ _ _ _ _ _ _ (ownSS s zL) (ownSS p zL) (by omega)).mono ?_; rintro e w45 ⟨rfl, b⟩
  have F46 : Fr w.heap.size w.heap.size W43 w45 := Fr.ofBelow b
  replace A1 := F46.ssb A1 (by omega)
  replace BB := F46.below BB (by omega) (by omega)
  replace A2 := A2.fr F46 (.inl (by omega))
  replace p := F46.own p (fun j hj => by have := jp j hj; omega)
  replace Rp := F46.rs Rp (by omega)
  replace Rq := F46.rs Rq (by omega)
  replace Q := F46.own Q (fun j hj => by have := jQ j hj; omega)
  replace s := F46.own s (fun j hj => by have := js j hj; omega)
  replace Rs := F46.rs Rs (by omega)
  have SF46 := F46.size
  clear b F46
  clear dp0 dp1
  clear ds0 ds1
  clear hW43
  have dq0 := Rq 0 _ rfl
  have dq1 := Rq 1 _ rfl
  go_wp2_with fail
  refine (heldLinesResult _ _ L.length _ 1 _ (by omega) (by omega) (ssMarks Q (by omega))).mono ?_; rintro e w47 ⟨rfl, b⟩
  rw [hM]
  clear dq0 dq1
  have F48 : Fr w.heap.size w.heap.size w45 w47 := Fr.ofBelow b
  replace A1 := F48.ssb A1 (by omega)
  replace BB := F48.below BB (by omega) (by omega)
  replace A2 := A2.fr F48 (.inl (by omega))
  replace p := F48.own p (fun j hj => by have := jp j hj; omega)
  replace Rp := F48.rs Rp (by omega)
  replace Rq := F48.rs Rq (by omega)
  replace Q := F48.own Q (fun j hj => by have := jQ j hj; omega)
  replace s := F48.own s (fun j hj => by have := js j hj; omega)
  replace Rs := F48.rs Rs (by omega)
  have SF48 := F48.size
  clear b F48
  go_wp2_with fail
  go_ret
  exact ⟨rfl, BB⟩

set_option linter.unusedVariables false
theorem laidOut : laidOutB Try.prog = true := by kernel_rfl
theorem own : ownKnob Try.prog.godebug = none := by kernel_rfl
set_option maxRecDepth 100000 in
theorem lifted (os : Os) (started : os.Started) (H : Type) (enc : TypeId × Value → H) :
    ReturnsInHanded {} Try.checked os 3 .any (Rows.fnExactApplyHunksSpec.pre6 enc Try.prog Try.f3 Rows.fnExactApplyHunksRow.domain false) (Rows.fnExactApplyHunksSpec.post enc Try.prog Try.f3 false true false false) := by
  refine returnsInHanded_of_change (C := Try.checked) own started (by kernel_rfl) Try.func3
    (ChangeSpec.witness6 (enc := enc) (C := Try.checked) false ⟨#[], #[.slice none 0 0, .slice none 0 0], []⟩ 8 (by kernel_rfl) (by kernel_rfl) (by kernel_rfl) (by kernel_rfl)) ?_
  intro W base args ds gs before hval0 hW hcnd _
  have hval : ∀ (j : Nat) t v, Try.f3.params[j]? = some t → args[j]? = some v → Value.okWide Try.prog W .any base t v := hval0
  have hW' := hW
  obtain ⟨p, q, hA0, hV, rfl, hfz, hnd⟩ := hW
  have hA : DataW.TrodAll enc Try.prog W 0 (fun _ => true) true Try.f3.params.toList args.toList ds p := hA0
  rw [Try.params3] at hA hval
  obtain ⟨v0, vs0, d0, ds0, p0, q0, hargs, rfl, rfl, h0, r0⟩ := trodAll_cons hA
  obtain ⟨v1, vs1, d1, ds1, p1, q1, rfl, rfl, rfl, h1, r1⟩ := trodAll_cons r0
  obtain ⟨rfl, rfl, rfl⟩ := trodAll_nil r1
  obtain rfl : args = #[v0, v1] := by cases args; simp_all
  obtain ⟨rfl, rfl⟩ := trodVars_none hV
  obtain ⟨a0, len0, cap0, rfl⟩ := okWide_slice Try.underlying22 (hval 0 22 v0 rfl rfl)
  have k0 := h0
  have lt0 : ∀ x ∈ p0, x.block < W.heap.size := by obtain ⟨m, hm⟩ := k0; exact DataW.trod_lt m _ _ _ hm
  obtain ⟨ss0, rfl, w0, n0⟩ := openSS h0 lt0
  obtain ⟨a1, len1, cap1, rfl⟩ := okWide_slice Try.underlying23 (hval 1 23 v1 rfl rfl)
  have k1 := h1
  have lt1 : ∀ x ∈ p1, x.block < W.heap.size := by obtain ⟨m, hm⟩ := k1; exact DataW.trod_lt m _ _ _ hm
  obtain ⟨ss1, rfl, w1, lg1, ft1, n1⟩ := openHB h1
  clear hA0 hval0
  refine (walk a0 cap0 ss0 a1 cap1 ss1 W w0 n0 w1 lg1 ft1 n1).mono fun e W' ⟨he, bel⟩ => ?_
  subst he
  exact ⟨_, rfl, _, _, _, [], _, [], hW', trodAll_mk1 (shut_bool Try.underlying4 _), (trodAll_cons_mk (Below.trod laidOut (by kernel_rfl) (of_decide_eq_true (by kernel_rfl)) k0 bel lt0) (trodAll_cons_mk (Below.trod laidOut (by kernel_rfl) (of_decide_eq_true (by kernel_rfl)) k1 bel lt1) trodAll_mk0)), rfl, bel.frame _, fun h => by cases h⟩

theorem over : Rows.fnExactApplyHunksRow.holds Try.pinned (OpenSpec.ofChange Rows.fnExactApplyHunksSpec) :=
  OpenClaim.holds_of_wide 3 Try.f3 rfl rfl rfl rfl rfl rfl rfl ⟨rfl, rfl, rfl, rfl, rfl⟩ rfl rfl rfl rfl rfl (by kernel_rfl) Try.func3 (by kernel_rfl)
    (of_decide_eq_true (by kernel_rfl)) (by unfold Func.isWrapper; first | (rw [if_pos (by decide +kernel)]; kernel_rfl) | (rw [if_neg (by decide +kernel)]; exact ⟨rfl, rfl⟩))
    (fun os started H enc _ => lifted os started H enc)

theorem proved : Rows.FnExactApplyHunksSaid := over
end Go.Proofs.Ytakegfhbhhkakai.ApLaw
namespace Go.Proofs.Ytakegfhbhhkakai
theorem fnExactApplyHunks_proved : Rows.FnExactApplyHunksSaid := ApLaw.proved
end Go.Proofs.Ytakegfhbhhkakai
