/- Proved: at every two lists of lines and every context FnExactHunksOf returns true (HunksOf answers as its specification, field by field; its answer owns its memory, behind another call too; neither list is changed). No condition: FnExactHunksOfSaid itself. -/
import Derived.Test.YtakegfhbhhkakahRows
import Derived.Test.YtakegfhbhhkakahLem
import Derived.Test.YtakegfhbhhkakahStrs
import Derived.Test.YtakegfhbhhkakahMarks
import Derived.Test.YtakegfhbhhkakahHeld
import Derived.Test.YtakegfhbhhkakahLFLem
import Derived.Test.YtakegfhbhhkakahLF
import Derived.Test.YtakegfhbhhkakahDTab
import Derived.Test.YtakegfhbhhkakahOwn
import Derived.Test.YtakegfhbhhkakahFr
import Derived.Test.YtakegfhbhhkakahIn
import Derived.Test.YtakegfhbhhkakahCom
import Derived.Test.YtakegfhbhhkakahAsked
import Derived.Test.YtakegfhbhhkakahHkL
import Derived.Test.YtakegfhbhhkakahHkC
import Derived.Test.YtakegfhbhhkakahHkS
import Derived.Test.YtakegfhbhhkakahHkT
import Derived.Test.YtakegfhbhhkakahHkE
import Derived.Test.YtakegfhbhhkakahHfL
import Derived.Test.YtakegfhbhhkakahHfC
import Derived.Test.YtakegfhbhhkakahHnL
import Derived.Test.YtakegfhbhhkakahHnT
import Derived.Test.YtakegfhbhhkakahHrR
import Derived.Test.YtakegfhbhhkakahHrP
import Derived.Test.YtakegfhbhhkakahHoM
import Derived.Test.YtakegfhbhhkakahHoF
import Derived.Test.YtakegfhbhhkakahHoG
import Derived.WalkKit
import Derived.ProofKit
import Derived.OpenShut
import Derived.Below
import Derived.Carry
namespace Go.Proofs.Ytakegfhbhhkakah.HoLaw
open Go.ChangeShapes Go.WideShapes Go.ChangeAt Go.RowKit

theorem ownOne (b n cap : Nat) : ∀ j, (Value.slice (some ⟨b, 0, none⟩) n cap).ownBlock = some j → b ≤ j ∧ j < b + 1 := by
  intro j hj
  have e : b = j := by simpa [Value.ownBlock] using hj
  omega
set_option maxRecDepth 20000 in
set_option maxHeartbeats 4000000 in
theorem walk (a1 : Option Addr) (c1 : Nat) (x1s : List ByteArray) (a2 : Option Addr) (c2 : Nat) (x2s : List ByteArray) (cx : Int) (w : World) (h1 : SS w a1 x1s) (n1 : x1s.length ≤ 9223372036854775807) (h2 : SS w a2 x2s) (n2 : x2s.length ≤ 9223372036854775807) :
    Calls Try.prog 7 #[.slice a1 x1s.length c1, .slice a2 x2s.length c2, .int .i64 cx] w fun e w' => e = .returned (.bool true) ∧ Below w.heap.size w w' := by
  have BB := Below.refl w.heap.size w
  have A1 : SSB w.heap.size w a1 x1s := h1
  have zz1 := h1.1
  clear h1
  obtain ⟨Q1, hQ1⟩ : ∃ Q, left 1048576 x1s = Q := ⟨_, rfl⟩
  have HQ1 : Hid (left 1048576 x1s = Q1) := hQ1
  have hZ1 := fun W h => szStringS a1 c1 x1s 1048576 W h n1 (by omega) (by omega)
  rw [hQ1] at hZ1
  by_cases hx1 : Q1 < 0
  · clear hQ1
    go_enter Try.func7, Try.ntmps7
    go_wp2_with fail
    refine (hZ1 _ (A1.toSS (by omega))).mono ?_; rintro e w ⟨rfl, rfl⟩
    go_wp2_with fail
    go_ret
    exact ⟨rfl, BB⟩
  have hq1a : 0 ≤ Q1 := by omega
  have hq1b : Q1 ≤ 1048576 := by rw [← HQ1.out]; unfold left; have := tot_nonneg x1s; split <;> omega
  obtain ⟨e1, g1, k1⟩ := left_ge (show ¬ left 1048576 x1s < 0 by rw [hQ1]; exact hx1)
  have t1 := tot_nonneg x1s
  have l1 : x1s.length ≤ 1048576 := by omega
  have tt1 : tot x1s ≤ 1048576 := by omega
  rw [hQ1] at e1
  replace e1 : Q1 ≤ 1048576 - x1s.length - tot x1s := by omega
  clear hQ1
  have A2 : SSB w.heap.size w a2 x2s := h2
  have zz2 := h2.1
  clear h2
  obtain ⟨Q2, hQ2⟩ : ∃ Q, left Q1 x2s = Q := ⟨_, rfl⟩
  have HQ2 : Hid (left Q1 x2s = Q2) := hQ2
  have hZ2 := fun W h => szStringS a2 c2 x2s Q1 W h n2 hq1a hq1b
  rw [hQ2] at hZ2
  by_cases hx2 : Q2 < 0
  · clear hQ2
    go_enter Try.func7, Try.ntmps7
    go_wp2_with fail
    refine (hZ1 _ (A1.toSS (by omega))).mono ?_; rintro e w ⟨rfl, rfl⟩
    go_wp2_with fail
    refine (hZ2 _ (A2.toSS (by omega))).mono ?_; rintro e w ⟨rfl, rfl⟩
    go_wp2_with fail
    go_ret
    exact ⟨rfl, BB⟩
  have hq2a : 0 ≤ Q2 := by omega
  have hq2b : Q2 ≤ 1048576 := by rw [← HQ2.out]; unfold left; have := tot_nonneg x2s; split <;> omega
  obtain ⟨e2, g2, k2⟩ := left_ge (show ¬ left Q1 x2s < 0 by rw [hQ2]; exact hx2)
  have t2 := tot_nonneg x2s
  have l2 : x2s.length ≤ 1048576 := by omega
  have tt2 : tot x2s ≤ 1048576 := by omega
  rw [hQ2] at e2
  replace e2 : Q2 ≤ Q1 - x2s.length - tot x2s := by omega
  clear hQ2
  have hS : ∀ (g1 g2 : Nat) W, SS W (some ⟨g1, 0, none⟩) x1s → SS W (some ⟨g2, 0, none⟩) x2s → Calls Try.prog 32 #[.slice (some ⟨g1, 0, none⟩) x1s.length x1s.length, .slice (some ⟨g2, 0, none⟩) x2s.length x2s.length, .int .i64 cx] W fun e w' => HP (hoR x1s x2s cx) 0 (hoL x1s x2s cx) W e w' := fun g1 g2 W h1 h2 => specHunksOf cx _ _ x1s.length x2s.length x1s x2s W h1 h2 (Nat.le_refl _) (Nat.le_refl _) l1 tt1 l2 tt2
  have hI : ∀ (g1 g2 : Nat) W, SS W (some ⟨g1, 0, none⟩) x1s → SS W (some ⟨g2, 0, none⟩) x2s → Calls Try.prog 33 #[.slice (some ⟨g1, 0, none⟩) x1s.length x1s.length, .slice (some ⟨g2, 0, none⟩) x2s.length x2s.length, .int .i64 cx] W fun e w' => HP (hoR x1s x2s cx) 0 (hoL x1s x2s cx) W e w' := fun g1 g2 W h1 h2 => implHunksOf cx _ _ x1s.length x2s.length x1s x2s W h1 h2 (Nat.le_refl _) (Nat.le_refl _) l1 l2
  have hLs : Shortly (hoL x1s x2s cx) := fun x hx => by have := (hoL_lines hx).1; omega
  have hLf : Fits (hoL x1s x2s cx) := fun x hx k hk => by
    rw [getD_at _ k hk]
    have := (hoL_lines hx).2 _ (List.getElem_mem hk)
    omega
  have hLn := hoL_length x1s x2s cx
  have hLm2 := hoL_mk x1s x2s cx
  obtain ⟨r, hrr⟩ : ∃ r, hoR x1s x2s cx = r := ⟨_, rfl⟩
  obtain ⟨L, hL⟩ : ∃ L, hoL x1s x2s cx = L := ⟨_, rfl⟩
  rw [hrr, hL] at hS hI
  rw [hL] at hLs hLf hLn hLm2
  have hLn2 : L.length ≤ 1048576 := by omega
  have hMf := mixM_fits hLm2
  have hMl := mixM_length L 1 L.length
  clear hrr hL e1 g1 k1 t1 tt1 e2 g2 k2 t2 tt2 hLn
  go_enter Try.func7, Try.ntmps7
  go_wp2_with fail
  refine (hZ1 _ (A1.toSS (by omega))).mono ?_; rintro e w ⟨rfl, rfl⟩
  go_wp2_with fail
  refine (hZ2 _ (A2.toSS (by omega))).mono ?_; rintro e w ⟨rfl, rfl⟩
  go_wp2_with fail
  refine (toStringS _ _ _ _ (A1.toSS (by omega)) l1).mono ?_; rintro e w1 ⟨rfl, x1, b⟩
  have zw1 := size_of_owns x1
  have jx1 : ∀ j, (Value.slice (some ⟨w.heap.size, 0, none⟩) x1s.length x1s.length).ownBlock = some j → w.heap.size ≤ j ∧ j < w1.heap.size := fun j hj => x1.lt j hj
  have F2 : Fr w.heap.size w.heap.size w w1 := Fr.ofBelow b
  replace A1 := F2.ssb A1 (by omega)
  replace BB := F2.below BB (by omega) (by omega)
  replace A2 := F2.ssb A2 (by omega)
  have SF2 := F2.size
  clear b F2
  go_wp2_with fail
  refine (toStringS _ _ _ _ (A2.toSS (by omega)) l2).mono ?_; rintro e w3 ⟨rfl, x2, b⟩
  have zw3 := size_of_owns x2
  have jx2 : ∀ j, (Value.slice (some ⟨w1.heap.size, 0, none⟩) x2s.length x2s.length).ownBlock = some j → w1.heap.size ≤ j ∧ j < w3.heap.size := fun j hj => x2.lt j hj
  have F4 : Fr w.heap.size w.heap.size w1 w3 := Fr.ofBelow b
  replace A1 := F4.ssb A1 (by omega)
  replace BB := F4.below BB (by omega) (by omega)
  replace A2 := F4.ssb A2 (by omega)
  replace x1 := F4.own x1 (fun j hj => by have := jx1 j hj; omega)
  have SF4 := F4.size
  clear b F4
  go_wp2_with fail
  refine (hS _ _ _ (ownSS x1 zz1) (ownSS x2 zz2)).mono ?_; rintro e w5 ⟨vp, slp, rfl, p, bp⟩
  obtain ⟨pa, pc, ep⟩ := shape3 p.row
  subst ep
  have jp : ∀ j, (Value.slice pa L.length pc).ownBlock = some j → w3.heap.size ≤ j ∧ j < w5.heap.size := fun j hj => p.row.lt j hj
  have sp : ∀ n, n < L.length → ∀ j, (slp n).ownBlock = some j → w3.heap.size ≤ j ∧ j < w5.heap.size := fun n hn j hj => (p.each n hn).lt j hj
  have F6 : Fr w.heap.size w.heap.size w3 w5 := Fr.ofBelow bp
  replace A1 := F6.ssb A1 (by omega)
  replace BB := F6.below BB (by omega) (by omega)
  replace A2 := F6.ssb A2 (by omega)
  replace x1 := F6.own x1 (fun j hj => by have := jx1 j hj; omega)
  replace x2 := F6.own x2 (fun j hj => by have := jx2 j hj; omega)
  have SF6 := F6.size
  clear bp F6
  clear x1 jx1
  clear x2 jx2
  obtain ⟨W7, hW7⟩ : ∃ W, w5.alloc (.cells #[.int .i64 r, .int .i64 0, .slice pa L.length pc] 50) = W := ⟨_, rfl⟩
  have Rp : Rs W7 w5.heap.size [.int .i64 r, .int .i64 0, .slice pa L.length pc] := by rw [← hW7]; exact Rs.new _ _ _
  have F8 : Fr w.heap.size w.heap.size w5 W7 := by rw [← hW7]; exact Fr.ofAlloc _ _
  have zW7 : w5.heap.size < W7.heap.size := by rw [← hW7]; simp
  replace A1 := F8.ssb A1 (by omega)
  replace BB := F8.below BB (by omega) (by omega)
  replace A2 := F8.ssb A2 (by omega)
  replace p := p.fr F8 (fun j hj => by have := jp j hj; omega) (fun n hn j hj => by have := sp n hn j hj; omega)
  have SF8 := F8.size
  clear F8
  go_wp2_with fail
  refine (toStringS _ _ _ _ (A1.toSS (by omega)) l1).mono ?_; rintro e w9 ⟨rfl, X1, b⟩
  have zw9 := size_of_owns X1
  have jX1 : ∀ j, (Value.slice (some ⟨W7.heap.size, 0, none⟩) x1s.length x1s.length).ownBlock = some j → W7.heap.size ≤ j ∧ j < w9.heap.size := fun j hj => X1.lt j hj
  have F10 : Fr w.heap.size w.heap.size W7 w9 := Fr.ofBelow b
  replace A1 := F10.ssb A1 (by omega)
  replace BB := F10.below BB (by omega) (by omega)
  replace A2 := F10.ssb A2 (by omega)
  replace p := p.fr F10 (fun j hj => by have := jp j hj; omega) (fun n hn j hj => by have := sp n hn j hj; omega)
  replace Rp := F10.rs Rp (by omega)
  have SF10 := F10.size
  clear b F10
  clear hW7
  go_wp2_with fail
  refine (toStringS _ _ _ _ (A2.toSS (by omega)) l2).mono ?_; rintro e w11 ⟨rfl, X2, b⟩
  have zw11 := size_of_owns X2
  have jX2 : ∀ j, (Value.slice (some ⟨w9.heap.size, 0, none⟩) x2s.length x2s.length).ownBlock = some j → w9.heap.size ≤ j ∧ j < w11.heap.size := fun j hj => X2.lt j hj
  have F12 : Fr w.heap.size w.heap.size w9 w11 := Fr.ofBelow b
  replace A1 := F12.ssb A1 (by omega)
  replace BB := F12.below BB (by omega) (by omega)
  replace A2 := F12.ssb A2 (by omega)
  replace p := p.fr F12 (fun j hj => by have := jp j hj; omega) (fun n hn j hj => by have := sp n hn j hj; omega)
  replace Rp := F12.rs Rp (by omega)
  replace X1 := F12.own X1 (fun j hj => by have := jX1 j hj; omega)
  have SF12 := F12.size
  clear b F12
  go_wp2_with fail
  refine (hI _ _ _ (ownSS X1 zz1) (ownSS X2 zz2)).mono ?_; rintro e w13 ⟨vq, slq, rfl, q, bq⟩
  obtain ⟨qa, qc, eq⟩ := shape3 q.row
  subst eq
  have jq : ∀ j, (Value.slice qa L.length qc).ownBlock = some j → w11.heap.size ≤ j ∧ j < w13.heap.size := fun j hj => q.row.lt j hj
  have sq : ∀ n, n < L.length → ∀ j, (slq n).ownBlock = some j → w11.heap.size ≤ j ∧ j < w13.heap.size := fun n hn j hj => (q.each n hn).lt j hj
  have F14 : Fr w.heap.size w.heap.size w11 w13 := Fr.ofBelow bq
  replace A1 := F14.ssb A1 (by omega)
  replace BB := F14.below BB (by omega) (by omega)
  replace A2 := F14.ssb A2 (by omega)
  replace p := p.fr F14 (fun j hj => by have := jp j hj; omega) (fun n hn j hj => by have := sp n hn j hj; omega)
  replace Rp := F14.rs Rp (by omega)
  replace X1 := F14.own X1 (fun j hj => by have := jX1 j hj; omega)
  replace X2 := F14.own X2 (fun j hj => by have := jX2 j hj; omega)
  have SF14 := F14.size
  clear bq F14
  obtain ⟨W15, hW15⟩ : ∃ W, w13.alloc (.cells #[.int .i64 r, .int .i64 0, .slice qa L.length qc] 50) = W := ⟨_, rfl⟩
  have Rq : Rs W15 w13.heap.size [.int .i64 r, .int .i64 0, .slice qa L.length qc] := by rw [← hW15]; exact Rs.new _ _ _
  have F16 : Fr w.heap.size w.heap.size w13 W15 := by rw [← hW15]; exact Fr.ofAlloc _ _
  have zW15 : w13.heap.size < W15.heap.size := by rw [← hW15]; simp
  replace A1 := F16.ssb A1 (by omega)
  replace BB := F16.below BB (by omega) (by omega)
  replace A2 := F16.ssb A2 (by omega)
  replace p := p.fr F16 (fun j hj => by have := jp j hj; omega) (fun n hn j hj => by have := sp n hn j hj; omega)
  replace Rp := F16.rs Rp (by omega)
  replace X1 := F16.own X1 (fun j hj => by have := jX1 j hj; omega)
  replace X2 := F16.own X2 (fun j hj => by have := jX2 j hj; omega)
  replace q := q.fr F16 (fun j hj => by have := jq j hj; omega) (fun n hn j hj => by have := sq n hn j hj; omega)
  have SF16 := F16.size
  clear F16
  have dp0 := Rp 0 _ rfl
  have dp1 := Rp 1 _ rfl
  have dp2 := Rp 2 _ rfl
  have dq0 := Rq 0 _ rfl
  have dq1 := Rq 1 _ rfl
  have dq2 := Rq 2 _ rfl
  go_wp2_with fail
  refine (eqHunksResult _ _ _ _ _ _ L _ (q.read hLf) (p.read hLf) hLs hLn2).mono ?_; rintro e w17 ⟨rfl, b⟩
  have F18 : Fr w.heap.size w.heap.size W15 w17 := Fr.ofBelow b
  replace A1 := F18.ssb A1 (by omega)
  replace BB := F18.below BB (by omega) (by omega)
  replace A2 := F18.ssb A2 (by omega)
  replace p := p.fr F18 (fun j hj => by have := jp j hj; omega) (fun n hn j hj => by have := sp n hn j hj; omega)
  replace Rp := F18.rs Rp (by omega)
  replace X1 := F18.own X1 (fun j hj => by have := jX1 j hj; omega)
  replace X2 := F18.own X2 (fun j hj => by have := jX2 j hj; omega)
  replace q := q.fr F18 (fun j hj => by have := jq j hj; omega) (fun n hn j hj => by have := sq n hn j hj; omega)
  replace Rq := F18.rs Rq (by omega)
  have SF18 := F18.size
  clear b F18
  clear dp0 dp1 dp2
  clear dq0 dq1 dq2
  clear hW15
  go_wp2_with fail
  refine (toStringS _ _ _ _ (A1.toSS (by omega)) l1).mono ?_; rintro e w19 ⟨rfl, y, b⟩
  have zw19 := size_of_owns y
  have jy : ∀ j, (Value.slice (some ⟨w17.heap.size, 0, none⟩) x1s.length x1s.length).ownBlock = some j → w17.heap.size ≤ j ∧ j < w19.heap.size := fun j hj => y.lt j hj
  have F20 : Fr w.heap.size w.heap.size w17 w19 := Fr.ofBelow b
  replace A1 := F20.ssb A1 (by omega)
  replace BB := F20.below BB (by omega) (by omega)
  replace A2 := F20.ssb A2 (by omega)
  replace p := p.fr F20 (fun j hj => by have := jp j hj; omega) (fun n hn j hj => by have := sp n hn j hj; omega)
  replace Rp := F20.rs Rp (by omega)
  replace X1 := F20.own X1 (fun j hj => by have := jX1 j hj; omega)
  replace X2 := F20.own X2 (fun j hj => by have := jX2 j hj; omega)
  replace q := q.fr F20 (fun j hj => by have := jq j hj; omega) (fun n hn j hj => by have := sq n hn j hj; omega)
  replace Rq := F20.rs Rq (by omega)
  have SF20 := F20.size
  clear b F20
  go_wp2_with fail
  refine (eqStringS _ _ _ _ _ _ _ (ownSS X1 zz1) (ownSS y zz1) l1 l1).mono ?_; rintro e w21 ⟨rfl, nw21, hw21⟩
  rw [eqB_self]
  clear y jy
  have F22 : Fr w.heap.size w.heap.size w19 w21 := by rw [hw21]; exact (Fr.refl _ _ _).drewN _
  clear hw21
  replace A1 := F22.ssb A1 (by omega)
  replace BB := F22.below BB (by omega) (by omega)
  replace A2 := F22.ssb A2 (by omega)
  replace p := p.fr F22 (fun j hj => by have := jp j hj; omega) (fun n hn j hj => by have := sp n hn j hj; omega)
  replace Rp := F22.rs Rp (by omega)
  replace X1 := F22.own X1 (fun j hj => by have := jX1 j hj; omega)
  replace X2 := F22.own X2 (fun j hj => by have := jX2 j hj; omega)
  replace q := q.fr F22 (fun j hj => by have := jq j hj; omega) (fun n hn j hj => by have := sq n hn j hj; omega)
  replace Rq := F22.rs Rq (by omega)
  have SF22 := F22.size
  clear F22
  go_wp2_with fail
  refine (toStringS _ _ _ _ (A2.toSS (by omega)) l2).mono ?_; rintro e w23 ⟨rfl, y, b⟩
  have zw23 := size_of_owns y
  have jy : ∀ j, (Value.slice (some ⟨w21.heap.size, 0, none⟩) x2s.length x2s.length).ownBlock = some j → w21.heap.size ≤ j ∧ j < w23.heap.size := fun j hj => y.lt j hj
  have F24 : Fr w.heap.size w.heap.size w21 w23 := Fr.ofBelow b
  replace A1 := F24.ssb A1 (by omega)
  replace BB := F24.below BB (by omega) (by omega)
  replace A2 := F24.ssb A2 (by omega)
  replace p := p.fr F24 (fun j hj => by have := jp j hj; omega) (fun n hn j hj => by have := sp n hn j hj; omega)
  replace Rp := F24.rs Rp (by omega)
  replace X1 := F24.own X1 (fun j hj => by have := jX1 j hj; omega)
  replace X2 := F24.own X2 (fun j hj => by have := jX2 j hj; omega)
  replace q := q.fr F24 (fun j hj => by have := jq j hj; omega) (fun n hn j hj => by have := sq n hn j hj; omega)
  replace Rq := F24.rs Rq (by omega)
  have SF24 := F24.size
  clear b F24
  go_wp2_with fail
  refine (eqStringS _ _ _ _ _ _ _ (ownSS X2 zz2) (ownSS y zz2) l2 l2).mono ?_; rintro e w25 ⟨rfl, nw25, hw25⟩
  rw [eqB_self]
  clear y jy
  have F26 : Fr w.heap.size w.heap.size w23 w25 := by rw [hw25]; exact (Fr.refl _ _ _).drewN _
  clear hw25
  replace A1 := F26.ssb A1 (by omega)
  replace BB := F26.below BB (by omega) (by omega)
  replace A2 := F26.ssb A2 (by omega)
  replace p := p.fr F26 (fun j hj => by have := jp j hj; omega) (fun n hn j hj => by have := sp n hn j hj; omega)
  replace Rp := F26.rs Rp (by omega)
  replace X1 := F26.own X1 (fun j hj => by have := jX1 j hj; omega)
  replace X2 := F26.own X2 (fun j hj => by have := jX2 j hj; omega)
  replace q := q.fr F26 (fun j hj => by have := jq j hj; omega) (fun n hn j hj => by have := sq n hn j hj; omega)
  replace Rq := F26.rs Rq (by omega)
  have SF26 := F26.size
  clear F26
  go_wp2_with fail
  refine (markStringS _ _ _ _ (1) _ _ (by omega) (by omega) X1).mono ?_; rintro e w27 ⟨rfl, o, gg⟩
  have F28 : Fr W7.heap.size (W7.heap.size + 1) w25 w27 := Fr.ofGrown gg (ownOne _ _ _)
  clear o gg X1
  replace A1 := F28.ssb A1 (by omega)
  replace BB := F28.below BB (by omega) (by omega)
  replace A2 := F28.ssb A2 (by omega)
  replace p := p.fr F28 (fun j hj => by have := jp j hj; omega) (fun n hn j hj => by have := sp n hn j hj; omega)
  replace Rp := F28.rs Rp (by omega)
  replace X2 := F28.own X2 (fun j hj => by have := jX2 j hj; omega)
  replace q := q.fr F28 (fun j hj => by have := jq j hj; omega) (fun n hn j hj => by have := sq n hn j hj; omega)
  replace Rq := F28.rs Rq (by omega)
  have SF28 := F28.size
  clear F28 jX1
  go_wp2_with fail
  refine (markStringS _ _ _ _ (1 + x1s.length) _ _ (by omega) (by omega) X2).mono ?_; rintro e w29 ⟨rfl, o, gg⟩
  have F30 : Fr w9.heap.size (w9.heap.size + 1) w27 w29 := Fr.ofGrown gg (ownOne _ _ _)
  clear o gg X2
  replace A1 := F30.ssb A1 (by omega)
  replace BB := F30.below BB (by omega) (by omega)
  replace A2 := F30.ssb A2 (by omega)
  replace p := p.fr F30 (fun j hj => by have := jp j hj; omega) (fun n hn j hj => by have := sp n hn j hj; omega)
  replace Rp := F30.rs Rp (by omega)
  replace q := q.fr F30 (fun j hj => by have := jq j hj; omega) (fun n hn j hj => by have := sq n hn j hj; omega)
  replace Rq := F30.rs Rq (by omega)
  have SF30 := F30.size
  clear F30 jX2
  obtain ⟨K, hK⟩ : ∃ K : Int, ((1 + x1s.length + x2s.length : Nat) : Int) = K := ⟨_, rfl⟩
  have hK0 : ¬ K < 0 := by omega
  rw [hK]
  clear hK
  have dp0 := Rp 0 _ rfl
  have dp1 := Rp 1 _ rfl
  have dp2 := Rp 2 _ rfl
  have dq0 := Rq 0 _ rfl
  have dq1 := Rq 1 _ rfl
  have dq2 := Rq 2 _ rfl
  go_wp2_with fail
  refine (eqHunksResult _ _ _ _ _ _ L _ (q.read hLf) (p.read hLf) hLs hLn2).mono ?_; rintro e w31 ⟨rfl, b⟩
  have F32 : Fr w.heap.size w.heap.size w29 w31 := Fr.ofBelow b
  replace A1 := F32.ssb A1 (by omega)
  replace BB := F32.below BB (by omega) (by omega)
  replace A2 := F32.ssb A2 (by omega)
  replace p := p.fr F32 (fun j hj => by have := jp j hj; omega) (fun n hn j hj => by have := sp n hn j hj; omega)
  replace Rp := F32.rs Rp (by omega)
  replace q := q.fr F32 (fun j hj => by have := jq j hj; omega) (fun n hn j hj => by have := sq n hn j hj; omega)
  replace Rq := F32.rs Rq (by omega)
  have SF32 := F32.size
  clear b F32
  clear dp0 dp1 dp2
  clear dq0 dq1 dq2
  have dq0 := Rq 0 _ rfl
  have dq1 := Rq 1 _ rfl
  have dq2 := Rq 2 _ rfl
  go_wp2_with fail
  refine (markHunksAny _ _ w11.heap.size w13.heap.size _ _ 1 L slq _ (by omega) hLm2 q (fun j hj => (jq j hj).2) (fun n hn j hj => (sq n hn j hj).2)).mono ?_; rintro e w33 ⟨rfl, Q, FM⟩
  clear q
  clear dq0 dq1 dq2
  replace A1 := FM.ssb A1 (by omega)
  replace BB := FM.below BB (by omega) (by omega)
  replace A2 := FM.ssb A2 (by omega)
  replace p := p.fr FM (fun j hj => by have := jp j hj; omega) (fun n hn j hj => by have := sp n hn j hj; omega)
  replace Rp := FM.rs Rp (by omega)
  replace Rq := FM.rs Rq (by omega)
  have SFM := FM.size
  clear FM
  have jQ := jq
  have sQ : ∀ n, n < (mixM L 1 L.length).length → ∀ j, (slq n).ownBlock = some j → w11.heap.size ≤ j ∧ j < w13.heap.size := fun n hn j hj => sq n (by rw [hMl] at hn; exact hn) j hj
  obtain ⟨M, hM⟩ : ∃ M : Int, ((1 + mkN L L.length : Nat) : Int) = M := ⟨_, rfl⟩
  have hM0 : ¬ M < 0 := by omega
  have hMM : (M != M) = false := by simp
  rw [hM]
  have dq0 := Rq 0 _ rfl
  have dq1 := Rq 1 _ rfl
  have dq2 := Rq 2 _ rfl
  go_wp2_with fail
  refine (heldHunksResult _ _ _ _ 1 L _ (by omega) hLm2 (HO.read (c := qc) (by rw [hMl]; exact Q) hMf)).mono ?_; rintro e w34 ⟨rfl, b⟩
  rw [hM]
  clear dq0 dq1 dq2
  have F35 : Fr w.heap.size w.heap.size w33 w34 := Fr.ofBelow b
  replace A1 := F35.ssb A1 (by omega)
  replace BB := F35.below BB (by omega) (by omega)
  replace A2 := F35.ssb A2 (by omega)
  replace p := p.fr F35 (fun j hj => by have := jp j hj; omega) (fun n hn j hj => by have := sp n hn j hj; omega)
  replace Rp := F35.rs Rp (by omega)
  replace Rq := F35.rs Rq (by omega)
  replace Q := Q.fr F35 (fun j hj => by have := jQ j hj; omega) (fun n hn j hj => by have := sQ n hn j hj; omega)
  have SF35 := F35.size
  clear b F35
  go_wp2_with fail
  refine (toStringS _ _ _ _ (A1.toSS (by omega)) l1).mono ?_; rintro e w36 ⟨rfl, z1, b⟩
  have zw36 := size_of_owns z1
  have jz1 : ∀ j, (Value.slice (some ⟨w34.heap.size, 0, none⟩) x1s.length x1s.length).ownBlock = some j → w34.heap.size ≤ j ∧ j < w36.heap.size := fun j hj => z1.lt j hj
  have F37 : Fr w.heap.size w.heap.size w34 w36 := Fr.ofBelow b
  replace A1 := F37.ssb A1 (by omega)
  replace BB := F37.below BB (by omega) (by omega)
  replace A2 := F37.ssb A2 (by omega)
  replace p := p.fr F37 (fun j hj => by have := jp j hj; omega) (fun n hn j hj => by have := sp n hn j hj; omega)
  replace Rp := F37.rs Rp (by omega)
  replace Rq := F37.rs Rq (by omega)
  replace Q := Q.fr F37 (fun j hj => by have := jQ j hj; omega) (fun n hn j hj => by have := sQ n hn j hj; omega)
  have SF37 := F37.size
  clear b F37
  go_wp2_with fail
  refine (toStringS _ _ _ _ (A2.toSS (by omega)) l2).mono ?_; rintro e w38 ⟨rfl, z2, b⟩
  have zw38 := size_of_owns z2
  have jz2 : ∀ j, (Value.slice (some ⟨w36.heap.size, 0, none⟩) x2s.length x2s.length).ownBlock = some j → w36.heap.size ≤ j ∧ j < w38.heap.size := fun j hj => z2.lt j hj
  have F39 : Fr w.heap.size w.heap.size w36 w38 := Fr.ofBelow b
  replace A1 := F39.ssb A1 (by omega)
  replace BB := F39.below BB (by omega) (by omega)
  replace A2 := F39.ssb A2 (by omega)
  replace p := p.fr F39 (fun j hj => by have := jp j hj; omega) (fun n hn j hj => by have := sp n hn j hj; omega)
  replace Rp := F39.rs Rp (by omega)
  replace Rq := F39.rs Rq (by omega)
  replace Q := Q.fr F39 (fun j hj => by have := jQ j hj; omega) (fun n hn j hj => by have := sQ n hn j hj; omega)
  replace z1 := F39.own z1 (fun j hj => by have := jz1 j hj; omega)
  have SF39 := F39.size
  clear b F39
  go_wp2_with fail
  refine (hI _ _ _ (ownSS z1 zz1) (ownSS z2 zz2)).mono ?_; rintro e w40 ⟨vs, sls, rfl, s, bs⟩
  obtain ⟨sa, sc, es⟩ := shape3 s.row
  subst es
  have js : ∀ j, (Value.slice sa L.length sc).ownBlock = some j → w38.heap.size ≤ j ∧ j < w40.heap.size := fun j hj => s.row.lt j hj
  have ss : ∀ n, n < L.length → ∀ j, (sls n).ownBlock = some j → w38.heap.size ≤ j ∧ j < w40.heap.size := fun n hn j hj => (s.each n hn).lt j hj
  have F41 : Fr w.heap.size w.heap.size w38 w40 := Fr.ofBelow bs
  replace A1 := F41.ssb A1 (by omega)
  replace BB := F41.below BB (by omega) (by omega)
  replace A2 := F41.ssb A2 (by omega)
  replace p := p.fr F41 (fun j hj => by have := jp j hj; omega) (fun n hn j hj => by have := sp n hn j hj; omega)
  replace Rp := F41.rs Rp (by omega)
  replace Rq := F41.rs Rq (by omega)
  replace Q := Q.fr F41 (fun j hj => by have := jQ j hj; omega) (fun n hn j hj => by have := sQ n hn j hj; omega)
  replace z1 := F41.own z1 (fun j hj => by have := jz1 j hj; omega)
  replace z2 := F41.own z2 (fun j hj => by have := jz2 j hj; omega)
  have SF41 := F41.size
  clear bs F41
  clear z1 jz1
  clear z2 jz2
  obtain ⟨W42, hW42⟩ : ∃ W, w40.alloc (.cells #[.int .i64 r, .int .i64 0, .slice sa L.length sc] 50) = W := ⟨_, rfl⟩
  have Rs : Rs W42 w40.heap.size [.int .i64 r, .int .i64 0, .slice sa L.length sc] := by rw [← hW42]; exact Rs.new _ _ _
  have F43 : Fr w.heap.size w.heap.size w40 W42 := by rw [← hW42]; exact Fr.ofAlloc _ _
  have zW42 : w40.heap.size < W42.heap.size := by rw [← hW42]; simp
  replace A1 := F43.ssb A1 (by omega)
  replace BB := F43.below BB (by omega) (by omega)
  replace A2 := F43.ssb A2 (by omega)
  replace p := p.fr F43 (fun j hj => by have := jp j hj; omega) (fun n hn j hj => by have := sp n hn j hj; omega)
  replace Rp := F43.rs Rp (by omega)
  replace Rq := F43.rs Rq (by omega)
  replace Q := Q.fr F43 (fun j hj => by have := jQ j hj; omega) (fun n hn j hj => by have := sQ n hn j hj; omega)
  replace s := s.fr F43 (fun j hj => by have := js j hj; omega) (fun n hn j hj => by have := ss n hn j hj; omega)
  have SF43 := F43.size
  clear F43
  have dp0 := Rp 0 _ rfl
  have dp1 := Rp 1 _ rfl
  have dp2 := Rp 2 _ rfl
  have ds0 := Rs 0 _ rfl
  have ds1 := Rs 1 _ rfl
  have ds2 := Rs 2 _ rfl
  go_wp2_with fail
  refine (eqHunksResult _ _ _ _ _ _ L _ (s.read hLf) (p.read hLf) hLs hLn2).mono ?_; rintro e w44 ⟨rfl, b⟩
  have F45 : Fr w.heap.size w.heap.size W42 w44 := Fr.ofBelow b
  replace A1 := F45.ssb A1 (by omega)
  replace BB := F45.below BB (by omega) (by omega)
  replace A2 := F45.ssb A2 (by omega)
  replace p := p.fr F45 (fun j hj => by have := jp j hj; omega) (fun n hn j hj => by have := sp n hn j hj; omega)
  replace Rp := F45.rs Rp (by omega)
  replace Rq := F45.rs Rq (by omega)
  replace Q := Q.fr F45 (fun j hj => by have := jQ j hj; omega) (fun n hn j hj => by have := sQ n hn j hj; omega)
  replace s := s.fr F45 (fun j hj => by have := js j hj; omega) (fun n hn j hj => by have := ss n hn j hj; omega)
  replace Rs := F45.rs Rs (by omega)
  have SF45 := F45.size
  clear b F45
  clear dp0 dp1 dp2
  clear ds0 ds1 ds2
  clear hW42
  have dq0 := Rq 0 _ rfl
  have dq1 := Rq 1 _ rfl
  have dq2 := Rq 2 _ rfl
  go_wp2_with fail
  refine (heldHunksResult _ _ _ _ 1 L _ (by omega) hLm2 (HO.read (c := qc) (by rw [hMl]; exact Q) hMf)).mono ?_; rintro e w46 ⟨rfl, b⟩
  rw [hM]
  clear dq0 dq1 dq2
  have F47 : Fr w.heap.size w.heap.size w44 w46 := Fr.ofBelow b
  replace A1 := F47.ssb A1 (by omega)
  replace BB := F47.below BB (by omega) (by omega)
  replace A2 := F47.ssb A2 (by omega)
  replace p := p.fr F47 (fun j hj => by have := jp j hj; omega) (fun n hn j hj => by have := sp n hn j hj; omega)
  replace Rp := F47.rs Rp (by omega)
  replace Rq := F47.rs Rq (by omega)
  replace Q := Q.fr F47 (fun j hj => by have := jQ j hj; omega) (fun n hn j hj => by have := sQ n hn j hj; omega)
  replace s := s.fr F47 (fun j hj => by have := js j hj; omega) (fun n hn j hj => by have := ss n hn j hj; omega)
  replace Rs := F47.rs Rs (by omega)
  have SF47 := F47.size
  clear b F47
  go_wp2_with fail
  go_ret
  exact ⟨rfl, BB⟩

set_option linter.unusedVariables false
theorem laidOut : laidOutB Try.prog = true := by kernel_rfl
theorem own : ownKnob Try.prog.godebug = none := by kernel_rfl
set_option maxRecDepth 100000 in
theorem lifted (os : Os) (started : os.Started) (H : Type) (enc : TypeId × Value → H) :
    ReturnsInHanded {} Try.checked os 7 .any (Rows.fnExactHunksOfSpec.pre6 enc Try.prog Try.f7 Rows.fnExactHunksOfRow.domain false) (Rows.fnExactHunksOfSpec.post enc Try.prog Try.f7 false true false false) := by
  refine returnsInHanded_of_change (C := Try.checked) own started (by kernel_rfl) Try.func7
    (ChangeSpec.witness6 (enc := enc) (C := Try.checked) false ⟨#[], #[.slice none 0 0, .slice none 0 0, .int .i64 0], []⟩ 8 (by kernel_rfl) (by kernel_rfl) (by kernel_rfl) (by kernel_rfl)) ?_
  intro W base args ds gs before hval0 hW hcnd _
  have hval : ∀ (j : Nat) t v, Try.f7.params[j]? = some t → args[j]? = some v → Value.okWide Try.prog W .any base t v := hval0
  have hW' := hW
  obtain ⟨p, q, hA0, hV, rfl, hfz, hnd⟩ := hW
  have hA : DataW.TrodAll enc Try.prog W 0 (fun _ => true) true Try.f7.params.toList args.toList ds p := hA0
  rw [Try.params7] at hA hval
  obtain ⟨v0, vs0, d0, ds0, p0, q0, hargs, rfl, rfl, h0, r0⟩ := trodAll_cons hA
  obtain ⟨v1, vs1, d1, ds1, p1, q1, rfl, rfl, rfl, h1, r1⟩ := trodAll_cons r0
  obtain ⟨v2, vs2, d2, ds2, p2, q2, rfl, rfl, rfl, h2, r2⟩ := trodAll_cons r1
  obtain ⟨rfl, rfl, rfl⟩ := trodAll_nil r2
  obtain rfl : args = #[v0, v1, v2] := by cases args; simp_all
  obtain ⟨rfl, rfl⟩ := trodVars_none hV
  obtain ⟨a0, len0, cap0, rfl⟩ := okWide_slice Try.underlying22 (hval 0 22 v0 rfl rfl)
  have k0 := h0
  have lt0 : ∀ x ∈ p0, x.block < W.heap.size := by obtain ⟨m, hm⟩ := k0; exact DataW.trod_lt m _ _ _ hm
  obtain ⟨ss0, rfl, w0, n0⟩ := openSS h0 lt0
  obtain ⟨a1, len1, cap1, rfl⟩ := okWide_slice Try.underlying22 (hval 1 22 v1 rfl rfl)
  have k1 := h1
  have lt1 : ∀ x ∈ p1, x.block < W.heap.size := by obtain ⟨m, hm⟩ := k1; exact DataW.trod_lt m _ _ _ hm
  obtain ⟨ss1, rfl, w1, n1⟩ := openSS h1 lt1
  obtain ⟨x2, rfl, rfl, rfl, w2⟩ := open_int Try.underlying2 (hval 2 2 v2 rfl rfl) h2
  clear hA0 hval0
  refine (walk a0 cap0 ss0 a1 cap1 ss1 x2 W w0 n0 w1 n1).mono fun e W' ⟨he, bel⟩ => ?_
  subst he
  exact ⟨_, rfl, _, _, _, [], _, [], hW', trodAll_mk1 (shut_bool Try.underlying4 _), (trodAll_cons_mk (Below.trod laidOut (by kernel_rfl) (of_decide_eq_true (by kernel_rfl)) k0 bel lt0) (trodAll_cons_mk (Below.trod laidOut (by kernel_rfl) (of_decide_eq_true (by kernel_rfl)) k1 bel lt1) (trodAll_cons_mk (shut_int Try.underlying2 w2) trodAll_mk0))), rfl, bel.frame _, fun h => by cases h⟩

theorem over : Rows.fnExactHunksOfRow.holds Try.pinned (OpenSpec.ofChange Rows.fnExactHunksOfSpec) :=
  OpenClaim.holds_of_wide 7 Try.f7 rfl rfl rfl rfl rfl rfl rfl ⟨rfl, rfl, rfl, rfl, rfl⟩ rfl rfl rfl rfl rfl (by kernel_rfl) Try.func7 (by kernel_rfl)
    (of_decide_eq_true (by kernel_rfl)) (by unfold Func.isWrapper; first | (rw [if_pos (by decide +kernel)]; kernel_rfl) | (rw [if_neg (by decide +kernel)]; exact ⟨rfl, rfl⟩))
    (fun os started H enc _ => lifted os started H enc)

theorem proved : Rows.FnExactHunksOfSaid := over
end Go.Proofs.Ytakegfhbhhkakah.HoLaw
namespace Go.Proofs.Ytakegfhbhhkakah
theorem fnExactHunksOf_proved : Rows.FnExactHunksOfSaid := HoLaw.proved
end Go.Proofs.Ytakegfhbhhkakah
