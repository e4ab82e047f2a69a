/- Proved: at every three lists of lines FnExactChunksOf returns true (ChunksOf answers as its specification, field by field; its answer owns its memory, behind another call too; no list is changed). No condition: FnExactChunksOfSaid itself. -/
import Derived.Test.YtlgeoaepjghdhaaRows
import Derived.Test.YtlgeoaepjghdhaaLem
import Derived.Test.YtlgeoaepjghdhaaStrs
import Derived.Test.YtlgeoaepjghdhaaMarks
import Derived.Test.YtlgeoaepjghdhaaHeld
import Derived.Test.YtlgeoaepjghdhaaLFLem
import Derived.Test.YtlgeoaepjghdhaaLF
import Derived.Test.YtlgeoaepjghdhaaDTab
import Derived.Test.YtlgeoaepjghdhaaOwn
import Derived.Test.YtlgeoaepjghdhaaFr
import Derived.Test.YtlgeoaepjghdhaaIn
import Derived.Test.YtlgeoaepjghdhaaSameC
import Derived.Test.YtlgeoaepjghdhaaHkT
import Derived.Test.YtlgeoaepjghdhaaCkL
import Derived.Test.YtlgeoaepjghdhaaCkC
import Derived.Test.YtlgeoaepjghdhaaCkN
import Derived.Test.YtlgeoaepjghdhaaCkT
import Derived.Test.YtlgeoaepjghdhaaCkU
import Derived.Test.YtlgeoaepjghdhaaOpK
import Derived.Test.YtlgeoaepjghdhaaCkM
import Derived.Test.YtlgeoaepjghdhaaCkR
import Derived.Test.YtlgeoaepjghdhaaKpE
import Derived.Test.YtlgeoaepjghdhaaKpH
import Derived.Test.YtlgeoaepjghdhaaKpJ
import Derived.Test.YtlgeoaepjghdhaaKpK
import Derived.WalkKit
import Derived.ProofKit
import Derived.OpenShut
import Derived.Below
import Derived.Carry
namespace Go.Proofs.Ytlgeoaepjghdhaa.KkLaw
open Go.ChangeShapes Go.WideShapes Go.ChangeAt Go.RowKit

theorem ownOne (b n cap : Nat) : ∀ j, (Value.slice (some ⟨b, 0, none⟩) n cap).ownBlock = some j → b ≤ j ∧ j < b + 1 := by
  intro j hj
  have e : b = j := by simpa [Value.ownBlock] using hj
  omega
set_option maxRecDepth 20000 in
set_option maxHeartbeats 4000000 in
theorem walk (a1 : Option Addr) (c1 : Nat) (x1s : List ByteArray) (a2 : Option Addr) (c2 : Nat) (x2s : List ByteArray) (a3 : Option Addr) (c3 : Nat) (x3s : List ByteArray) (w : World) (h1 : SS w a1 x1s) (n1 : x1s.length ≤ 9223372036854775807) (h2 : SS w a2 x2s) (n2 : x2s.length ≤ 9223372036854775807) (h3 : SS w a3 x3s) (n3 : x3s.length ≤ 9223372036854775807) :
    Calls Try.prog 3 #[.slice a1 x1s.length c1, .slice a2 x2s.length c2, .slice a3 x3s.length c3] w fun e w' => e = .returned (.bool true) ∧ Below w.heap.size w w' := by
  have BB := Below.refl w.heap.size w
  have A1 : SSB w.heap.size w a1 x1s := h1
  have zz1 := h1.1
  clear h1
  obtain ⟨Q1, hQ1⟩ : ∃ Q, left 1048576 x1s = Q := ⟨_, rfl⟩
  have HQ1 : Hid (left 1048576 x1s = Q1) := hQ1
  have hZ1 := fun W h => szStringS a1 c1 x1s 1048576 W h n1 (by omega) (by omega)
  rw [hQ1] at hZ1
  by_cases hx1 : Q1 < 0
  · clear hQ1
    go_enter Try.func3, Try.ntmps3
    go_wp2_with fail
    refine (hZ1 _ (A1.toSS (by omega))).mono ?_; rintro e w ⟨rfl, rfl⟩
    go_wp2_with fail
    go_ret
    exact ⟨rfl, BB⟩
  have hq1a : 0 ≤ Q1 := by omega
  have hq1b : Q1 ≤ 1048576 := by rw [← HQ1.out]; unfold left; have := tot_nonneg x1s; split <;> omega
  obtain ⟨e1, g1, k1⟩ := left_ge (show ¬ left 1048576 x1s < 0 by rw [hQ1]; exact hx1)
  have t1 := tot_nonneg x1s
  have l1 : x1s.length ≤ 1048576 := by omega
  have tt1 : tot x1s ≤ 1048576 := by omega
  rw [hQ1] at e1
  replace e1 : Q1 ≤ 1048576 - x1s.length - tot x1s := by omega
  clear hQ1
  have A2 : SSB w.heap.size w a2 x2s := h2
  have zz2 := h2.1
  clear h2
  obtain ⟨Q2, hQ2⟩ : ∃ Q, left Q1 x2s = Q := ⟨_, rfl⟩
  have HQ2 : Hid (left Q1 x2s = Q2) := hQ2
  have hZ2 := fun W h => szStringS a2 c2 x2s Q1 W h n2 hq1a hq1b
  rw [hQ2] at hZ2
  by_cases hx2 : Q2 < 0
  · clear hQ2
    go_enter Try.func3, Try.ntmps3
    go_wp2_with fail
    refine (hZ1 _ (A1.toSS (by omega))).mono ?_; rintro e w ⟨rfl, rfl⟩
    go_wp2_with fail
    refine (hZ2 _ (A2.toSS (by omega))).mono ?_; rintro e w ⟨rfl, rfl⟩
    go_wp2_with fail
    go_ret
    exact ⟨rfl, BB⟩
  have hq2a : 0 ≤ Q2 := by omega
  have hq2b : Q2 ≤ 1048576 := by rw [← HQ2.out]; unfold left; have := tot_nonneg x2s; split <;> omega
  obtain ⟨e2, g2, k2⟩ := left_ge (show ¬ left Q1 x2s < 0 by rw [hQ2]; exact hx2)
  have t2 := tot_nonneg x2s
  have l2 : x2s.length ≤ 1048576 := by omega
  have tt2 : tot x2s ≤ 1048576 := by omega
  rw [hQ2] at e2
  replace e2 : Q2 ≤ Q1 - x2s.length - tot x2s := by omega
  clear hQ2
  have A3 : SSB w.heap.size w a3 x3s := h3
  have zz3 := h3.1
  clear h3
  obtain ⟨Q3, hQ3⟩ : ∃ Q, left Q2 x3s = Q := ⟨_, rfl⟩
  have HQ3 : Hid (left Q2 x3s = Q3) := hQ3
  have hZ3 := fun W h => szStringS a3 c3 x3s Q2 W h n3 hq2a hq2b
  rw [hQ3] at hZ3
  by_cases hx3 : Q3 < 0
  · clear hQ3
    go_enter Try.func3, Try.ntmps3
    go_wp2_with fail
    refine (hZ1 _ (A1.toSS (by omega))).mono ?_; rintro e w ⟨rfl, rfl⟩
    go_wp2_with fail
    refine (hZ2 _ (A2.toSS (by omega))).mono ?_; rintro e w ⟨rfl, rfl⟩
    go_wp2_with fail
    refine (hZ3 _ (A3.toSS (by omega))).mono ?_; rintro e w ⟨rfl, rfl⟩
    go_wp2_with fail
    go_ret
    exact ⟨rfl, BB⟩
  have hq3a : 0 ≤ Q3 := by omega
  have hq3b : Q3 ≤ 1048576 := by rw [← HQ3.out]; unfold left; have := tot_nonneg x3s; split <;> omega
  obtain ⟨e3, g3, k3⟩ := left_ge (show ¬ left Q2 x3s < 0 by rw [hQ3]; exact hx3)
  have t3 := tot_nonneg x3s
  have l3 : x3s.length ≤ 1048576 := by omega
  have tt3 : tot x3s ≤ 1048576 := by omega
  rw [hQ3] at e3
  replace e3 : Q3 ≤ Q2 - x3s.length - tot x3s := by omega
  clear hQ3
  have y1 : ∀ x ∈ x1s, x.size ≤ 1048576 := fun x hx => by
    obtain ⟨k, hk, e⟩ := List.getElem_of_mem hx
    have h := size_tot k hk
    rw [getD_at _ k hk, e] at h
    omega
  have y2 : ∀ x ∈ x2s, x.size ≤ 1048576 := fun x hx => by
    obtain ⟨k, hk, e⟩ := List.getElem_of_mem hx
    have h := size_tot k hk
    rw [getD_at _ k hk, e] at h
    omega
  have y3 : ∀ x ∈ x3s, x.size ≤ 1048576 := fun x hx => by
    obtain ⟨k, hk, e⟩ := List.getElem_of_mem hx
    have h := size_tot k hk
    rw [getD_at _ k hk, e] at h
    omega
  have hZ0 : Z3 x1s.length x2s.length x3s.length x1s x2s x3s := ⟨Nat.le_refl _, Nat.le_refl _, Nat.le_refl _, l1, l2, l3, y1, y2, y3⟩
  have hS : ∀ (g1 g2 g3 : Nat) W, SS W (some ⟨g1, 0, none⟩) x1s → SS W (some ⟨g2, 0, none⟩) x2s → SS W (some ⟨g3, 0, none⟩) x3s → Calls Try.prog 9 #[.slice (some ⟨g1, 0, none⟩) x1s.length x1s.length, .slice (some ⟨g2, 0, none⟩) x2s.length x2s.length, .slice (some ⟨g3, 0, none⟩) x3s.length x3s.length] W fun e w' => KP2 (ckR x1s x2s x3s) (ckV x1s x2s x3s) W e w' := fun g1 g2 g3 W h1 h2 h3 => specChunksOf _ _ _ _ _ _ x1s x2s x3s W ⟨h1.toB, h2.toB, h3.toB⟩ hZ0 ⟨fun h => (by cases h), fun h => (by cases h), fun h => (by cases h)⟩ tt1 tt2 tt3
  have hI : ∀ (g1 g2 g3 : Nat) W, SS W (some ⟨g1, 0, none⟩) x1s → SS W (some ⟨g2, 0, none⟩) x2s → SS W (some ⟨g3, 0, none⟩) x3s → Calls Try.prog 11 #[.slice (some ⟨g1, 0, none⟩) x1s.length x1s.length, .slice (some ⟨g2, 0, none⟩) x2s.length x2s.length, .slice (some ⟨g3, 0, none⟩) x3s.length x3s.length] W fun e w' => KP2 (ckR x1s x2s x3s) (ckV x1s x2s x3s) W e w' := fun g1 g2 g3 W h1 h2 h3 => implChunksOf _ _ _ _ _ _ x1s x2s x3s W ⟨h1.toB, h2.toB, h3.toB⟩ hZ0
  have hLs : ShortK (ckV x1s x2s x3s) := fun ss hs => by have := (ckV_mem hs).1; omega
  have hLf : FitsK (ckV x1s x2s x3s) := fun ss hs k hk => by
    rw [getD_at _ k hk]
    rcases (ckV_mem hs).2 _ (List.getElem_mem hk) with h | h | h
    · have := y1 _ h; omega
    · have := y2 _ h; omega
    · have := y3 _ h; omega
  have hLn2 : (ckV x1s x2s x3s).length ≤ 1048576 := by have := ckV_len x1s x2s x3s; omega
  have hLm2 : 1 + mkK (ckV x1s x2s x3s) (ckV x1s x2s x3s).length ≤ 4194304 := by have := ckV_marks x1s x2s x3s; omega
  obtain ⟨r, hrr⟩ : ∃ r, ckR x1s x2s x3s = r := ⟨_, rfl⟩
  obtain ⟨L, hL⟩ : ∃ L, ckV x1s x2s x3s = L := ⟨_, rfl⟩
  rw [hrr, hL] at hS hI
  rw [hL] at hLs hLf hLn2 hLm2
  have hMf := mixX_fits hLm2
  have hMl := mixX_length L 1 L.length
  clear hrr hL e1 g1 k1 t1 tt1 e2 g2 k2 t2 tt2 e3 g3 k3 t3 tt3 y1 y2 y3 hZ0
  go_enter Try.func3, Try.ntmps3
  go_wp2_with fail
  refine (hZ1 _ (A1.toSS (by omega))).mono ?_; rintro e w ⟨rfl, rfl⟩
  go_wp2_with fail
  refine (hZ2 _ (A2.toSS (by omega))).mono ?_; rintro e w ⟨rfl, rfl⟩
  go_wp2_with fail
  refine (hZ3 _ (A3.toSS (by omega))).mono ?_; rintro e w ⟨rfl, rfl⟩
  go_wp2_with fail
  refine (toStringS _ _ _ _ (A1.toSS (by omega)) l1).mono ?_; rintro e w1 ⟨rfl, x1, b⟩
  have zw1 := size_of_owns x1
  have jx1 : ∀ j, (Value.slice (some ⟨w.heap.size, 0, none⟩) x1s.length x1s.length).ownBlock = some j → w.heap.size ≤ j ∧ j < w1.heap.size := fun j hj => x1.lt j hj
  have F2 : Fr w.heap.size w.heap.size w w1 := Fr.ofBelow b
  replace A1 := F2.ssb A1 (by omega)
  replace BB := F2.below BB (by omega) (by omega)
  replace A2 := F2.ssb A2 (by omega)
  replace A3 := F2.ssb A3 (by omega)
  have SF2 := F2.size
  clear b F2
  go_wp2_with fail
  refine (toStringS _ _ _ _ (A2.toSS (by omega)) l2).mono ?_; rintro e w3 ⟨rfl, x2, b⟩
  have zw3 := size_of_owns x2
  have jx2 : ∀ j, (Value.slice (some ⟨w1.heap.size, 0, none⟩) x2s.length x2s.length).ownBlock = some j → w1.heap.size ≤ j ∧ j < w3.heap.size := fun j hj => x2.lt j hj
  have F4 : Fr w.heap.size w.heap.size w1 w3 := Fr.ofBelow b
  replace A1 := F4.ssb A1 (by omega)
  replace BB := F4.below BB (by omega) (by omega)
  replace A2 := F4.ssb A2 (by omega)
  replace A3 := F4.ssb A3 (by omega)
  replace x1 := F4.own x1 (fun j hj => by have := jx1 j hj; omega)
  have SF4 := F4.size
  clear b F4
  go_wp2_with fail
  refine (toStringS _ _ _ _ (A3.toSS (by omega)) l3).mono ?_; rintro e w5 ⟨rfl, x3, b⟩
  have zw5 := size_of_owns x3
  have jx3 : ∀ j, (Value.slice (some ⟨w3.heap.size, 0, none⟩) x3s.length x3s.length).ownBlock = some j → w3.heap.size ≤ j ∧ j < w5.heap.size := fun j hj => x3.lt j hj
  have F6 : Fr w.heap.size w.heap.size w3 w5 := Fr.ofBelow b
  replace A1 := F6.ssb A1 (by omega)
  replace BB := F6.below BB (by omega) (by omega)
  replace A2 := F6.ssb A2 (by omega)
  replace A3 := F6.ssb A3 (by omega)
  replace x1 := F6.own x1 (fun j hj => by have := jx1 j hj; omega)
  replace x2 := F6.own x2 (fun j hj => by have := jx2 j hj; omega)
  have SF6 := F6.size
  clear b F6
  go_wp2_with fail
  refine (hS _ _ _ _ (ownSS x1 zz1) (ownSS x2 zz2) (ownSS x3 zz3)).mono ?_; rintro e w7 ⟨vp, slp, rfl, p, bp⟩
  obtain ⟨pa, pc, ep⟩ := shapeK p.row
  subst ep
  have jp : ∀ j, (Value.slice pa L.length pc).ownBlock = some j → w5.heap.size ≤ j ∧ j < w7.heap.size := fun j hj => p.row.lt j hj
  have sp : ∀ n, n < L.length * 3 → ∀ j, (slp n).ownBlock = some j → w5.heap.size ≤ j ∧ j < w7.heap.size := fun n hn j hj => (p.each n hn).lt j hj
  have F8 : Fr w.heap.size w.heap.size w5 w7 := Fr.ofBelow bp
  replace A1 := F8.ssb A1 (by omega)
  replace BB := F8.below BB (by omega) (by omega)
  replace A2 := F8.ssb A2 (by omega)
  replace A3 := F8.ssb A3 (by omega)
  replace x1 := F8.own x1 (fun j hj => by have := jx1 j hj; omega)
  replace x2 := F8.own x2 (fun j hj => by have := jx2 j hj; omega)
  replace x3 := F8.own x3 (fun j hj => by have := jx3 j hj; omega)
  have SF8 := F8.size
  clear bp F8
  clear x1 jx1
  clear x2 jx2
  clear x3 jx3
  obtain ⟨W9, hW9⟩ : ∃ W, w7.alloc (.cells #[.int .i64 r, .slice pa L.length pc] 26) = W := ⟨_, rfl⟩
  have Rp : Rs W9 w7.heap.size [.int .i64 r, .slice pa L.length pc] := by rw [← hW9]; exact Rs.new _ _ _
  have F10 : Fr w.heap.size w.heap.size w7 W9 := by rw [← hW9]; exact Fr.ofAlloc _ _
  have zW9 : w7.heap.size < W9.heap.size := by rw [← hW9]; simp
  replace A1 := F10.ssb A1 (by omega)
  replace BB := F10.below BB (by omega) (by omega)
  replace A2 := F10.ssb A2 (by omega)
  replace A3 := F10.ssb A3 (by omega)
  replace p := p.fr F10 (fun j hj => by have := jp j hj; omega) (fun n hn j hj => by have := sp n hn j hj; omega)
  have SF10 := F10.size
  clear F10
  go_wp2_with fail
  refine (toStringS _ _ _ _ (A1.toSS (by omega)) l1).mono ?_; rintro e w11 ⟨rfl, X1, b⟩
  have zw11 := size_of_owns X1
  have jX1 : ∀ j, (Value.slice (some ⟨W9.heap.size, 0, none⟩) x1s.length x1s.length).ownBlock = some j → W9.heap.size ≤ j ∧ j < w11.heap.size := fun j hj => X1.lt j hj
  have F12 : Fr w.heap.size w.heap.size W9 w11 := Fr.ofBelow b
  replace A1 := F12.ssb A1 (by omega)
  replace BB := F12.below BB (by omega) (by omega)
  replace A2 := F12.ssb A2 (by omega)
  replace A3 := F12.ssb A3 (by omega)
  replace p := p.fr F12 (fun j hj => by have := jp j hj; omega) (fun n hn j hj => by have := sp n hn j hj; omega)
  replace Rp := F12.rs Rp (by omega)
  have SF12 := F12.size
  clear b F12
  clear hW9
  go_wp2_with fail
  refine (toStringS _ _ _ _ (A2.toSS (by omega)) l2).mono ?_; rintro e w13 ⟨rfl, X2, b⟩
  have zw13 := size_of_owns X2
  have jX2 : ∀ j, (Value.slice (some ⟨w11.heap.size, 0, none⟩) x2s.length x2s.length).ownBlock = some j → w11.heap.size ≤ j ∧ j < w13.heap.size := fun j hj => X2.lt j hj
  have F14 : Fr w.heap.size w.heap.size w11 w13 := Fr.ofBelow b
  replace A1 := F14.ssb A1 (by omega)
  replace BB := F14.below BB (by omega) (by omega)
  replace A2 := F14.ssb A2 (by omega)
  replace A3 := F14.ssb A3 (by omega)
  replace p := p.fr F14 (fun j hj => by have := jp j hj; omega) (fun n hn j hj => by have := sp n hn j hj; omega)
  replace Rp := F14.rs Rp (by omega)
  replace X1 := F14.own X1 (fun j hj => by have := jX1 j hj; omega)
  have SF14 := F14.size
  clear b F14
  go_wp2_with fail
  refine (toStringS _ _ _ _ (A3.toSS (by omega)) l3).mono ?_; rintro e w15 ⟨rfl, X3, b⟩
  have zw15 := size_of_owns X3
  have jX3 : ∀ j, (Value.slice (some ⟨w13.heap.size, 0, none⟩) x3s.length x3s.length).ownBlock = some j → w13.heap.size ≤ j ∧ j < w15.heap.size := fun j hj => X3.lt j hj
  have F16 : Fr w.heap.size w.heap.size w13 w15 := Fr.ofBelow b
  replace A1 := F16.ssb A1 (by omega)
  replace BB := F16.below BB (by omega) (by omega)
  replace A2 := F16.ssb A2 (by omega)
  replace A3 := F16.ssb A3 (by omega)
  replace p := p.fr F16 (fun j hj => by have := jp j hj; omega) (fun n hn j hj => by have := sp n hn j hj; omega)
  replace Rp := F16.rs Rp (by omega)
  replace X1 := F16.own X1 (fun j hj => by have := jX1 j hj; omega)
  replace X2 := F16.own X2 (fun j hj => by have := jX2 j hj; omega)
  have SF16 := F16.size
  clear b F16
  go_wp2_with fail
  refine (hI _ _ _ _ (ownSS X1 zz1) (ownSS X2 zz2) (ownSS X3 zz3)).mono ?_; rintro e w17 ⟨vq, slq, rfl, q, bq⟩
  obtain ⟨qa, qc, eq⟩ := shapeK q.row
  subst eq
  have jq : ∀ j, (Value.slice qa L.length qc).ownBlock = some j → w15.heap.size ≤ j ∧ j < w17.heap.size := fun j hj => q.row.lt j hj
  have sq : ∀ n, n < L.length * 3 → ∀ j, (slq n).ownBlock = some j → w15.heap.size ≤ j ∧ j < w17.heap.size := fun n hn j hj => (q.each n hn).lt j hj
  have F18 : Fr w.heap.size w.heap.size w15 w17 := Fr.ofBelow bq
  replace A1 := F18.ssb A1 (by omega)
  replace BB := F18.below BB (by omega) (by omega)
  replace A2 := F18.ssb A2 (by omega)
  replace A3 := F18.ssb A3 (by omega)
  replace p := p.fr F18 (fun j hj => by have := jp j hj; omega) (fun n hn j hj => by have := sp n hn j hj; omega)
  replace Rp := F18.rs Rp (by omega)
  replace X1 := F18.own X1 (fun j hj => by have := jX1 j hj; omega)
  replace X2 := F18.own X2 (fun j hj => by have := jX2 j hj; omega)
  replace X3 := F18.own X3 (fun j hj => by have := jX3 j hj; omega)
  have SF18 := F18.size
  clear bq F18
  obtain ⟨W19, hW19⟩ : ∃ W, w17.alloc (.cells #[.int .i64 r, .slice qa L.length qc] 26) = W := ⟨_, rfl⟩
  have Rq : Rs W19 w17.heap.size [.int .i64 r, .slice qa L.length qc] := by rw [← hW19]; exact Rs.new _ _ _
  have F20 : Fr w.heap.size w.heap.size w17 W19 := by rw [← hW19]; exact Fr.ofAlloc _ _
  have zW19 : w17.heap.size < W19.heap.size := by rw [← hW19]; simp
  replace A1 := F20.ssb A1 (by omega)
  replace BB := F20.below BB (by omega) (by omega)
  replace A2 := F20.ssb A2 (by omega)
  replace A3 := F20.ssb A3 (by omega)
  replace p := p.fr F20 (fun j hj => by have := jp j hj; omega) (fun n hn j hj => by have := sp n hn j hj; omega)
  replace Rp := F20.rs Rp (by omega)
  replace X1 := F20.own X1 (fun j hj => by have := jX1 j hj; omega)
  replace X2 := F20.own X2 (fun j hj => by have := jX2 j hj; omega)
  replace X3 := F20.own X3 (fun j hj => by have := jX3 j hj; omega)
  replace q := q.fr F20 (fun j hj => by have := jq j hj; omega) (fun n hn j hj => by have := sq n hn j hj; omega)
  have SF20 := F20.size
  clear F20
  have dp0 := Rp 0 _ rfl
  have dp1 := Rp 1 _ rfl
  have dq0 := Rq 0 _ rfl
  have dq1 := Rq 1 _ rfl
  go_wp2_with fail
  refine (eqChunksResult _ _ _ _ _ L _ (q.read hLf) (p.read hLf) hLs hLn2).mono ?_; rintro e w21 ⟨rfl, b⟩
  have F22 : Fr w.heap.size w.heap.size W19 w21 := Fr.ofBelow b
  replace A1 := F22.ssb A1 (by omega)
  replace BB := F22.below BB (by omega) (by omega)
  replace A2 := F22.ssb A2 (by omega)
  replace A3 := F22.ssb A3 (by omega)
  replace p := p.fr F22 (fun j hj => by have := jp j hj; omega) (fun n hn j hj => by have := sp n hn j hj; omega)
  replace Rp := F22.rs Rp (by omega)
  replace X1 := F22.own X1 (fun j hj => by have := jX1 j hj; omega)
  replace X2 := F22.own X2 (fun j hj => by have := jX2 j hj; omega)
  replace X3 := F22.own X3 (fun j hj => by have := jX3 j hj; omega)
  replace q := q.fr F22 (fun j hj => by have := jq j hj; omega) (fun n hn j hj => by have := sq n hn j hj; omega)
  replace Rq := F22.rs Rq (by omega)
  have SF22 := F22.size
  clear b F22
  clear dp0 dp1
  clear dq0 dq1
  clear hW19
  go_wp2_with fail
  refine (toStringS _ _ _ _ (A1.toSS (by omega)) l1).mono ?_; rintro e w23 ⟨rfl, y, b⟩
  have zw23 := size_of_owns y
  have jy : ∀ j, (Value.slice (some ⟨w21.heap.size, 0, none⟩) x1s.length x1s.length).ownBlock = some j → w21.heap.size ≤ j ∧ j < w23.heap.size := fun j hj => y.lt j hj
  have F24 : Fr w.heap.size w.heap.size w21 w23 := Fr.ofBelow b
  replace A1 := F24.ssb A1 (by omega)
  replace BB := F24.below BB (by omega) (by omega)
  replace A2 := F24.ssb A2 (by omega)
  replace A3 := F24.ssb A3 (by omega)
  replace p := p.fr F24 (fun j hj => by have := jp j hj; omega) (fun n hn j hj => by have := sp n hn j hj; omega)
  replace Rp := F24.rs Rp (by omega)
  replace X1 := F24.own X1 (fun j hj => by have := jX1 j hj; omega)
  replace X2 := F24.own X2 (fun j hj => by have := jX2 j hj; omega)
  replace X3 := F24.own X3 (fun j hj => by have := jX3 j hj; omega)
  replace q := q.fr F24 (fun j hj => by have := jq j hj; omega) (fun n hn j hj => by have := sq n hn j hj; omega)
  replace Rq := F24.rs Rq (by omega)
  have SF24 := F24.size
  clear b F24
  go_wp2_with fail
  refine (eqStringS _ _ _ _ _ _ _ (ownSS X1 zz1) (ownSS y zz1) l1 l1).mono ?_; rintro e w25 ⟨rfl, nw25, hw25⟩
  rw [eqB_self]
  clear y jy
  have F26 : Fr w.heap.size w.heap.size w23 w25 := by rw [hw25]; exact (Fr.refl _ _ _).drewN _
  clear hw25
  replace A1 := F26.ssb A1 (by omega)
  replace BB := F26.below BB (by omega) (by omega)
  replace A2 := F26.ssb A2 (by omega)
  replace A3 := F26.ssb A3 (by omega)
  replace p := p.fr F26 (fun j hj => by have := jp j hj; omega) (fun n hn j hj => by have := sp n hn j hj; omega)
  replace Rp := F26.rs Rp (by omega)
  replace X1 := F26.own X1 (fun j hj => by have := jX1 j hj; omega)
  replace X2 := F26.own X2 (fun j hj => by have := jX2 j hj; omega)
  replace X3 := F26.own X3 (fun j hj => by have := jX3 j hj; omega)
  replace q := q.fr F26 (fun j hj => by have := jq j hj; omega) (fun n hn j hj => by have := sq n hn j hj; omega)
  replace Rq := F26.rs Rq (by omega)
  have SF26 := F26.size
  clear F26
  go_wp2_with fail
  refine (toStringS _ _ _ _ (A2.toSS (by omega)) l2).mono ?_; rintro e w27 ⟨rfl, y, b⟩
  have zw27 := size_of_owns y
  have jy : ∀ j, (Value.slice (some ⟨w25.heap.size, 0, none⟩) x2s.length x2s.length).ownBlock = some j → w25.heap.size ≤ j ∧ j < w27.heap.size := fun j hj => y.lt j hj
  have F28 : Fr w.heap.size w.heap.size w25 w27 := Fr.ofBelow b
  replace A1 := F28.ssb A1 (by omega)
  replace BB := F28.below BB (by omega) (by omega)
  replace A2 := F28.ssb A2 (by omega)
  replace A3 := F28.ssb A3 (by omega)
  replace p := p.fr F28 (fun j hj => by have := jp j hj; omega) (fun n hn j hj => by have := sp n hn j hj; omega)
  replace Rp := F28.rs Rp (by omega)
  replace X1 := F28.own X1 (fun j hj => by have := jX1 j hj; omega)
  replace X2 := F28.own X2 (fun j hj => by have := jX2 j hj; omega)
  replace X3 := F28.own X3 (fun j hj => by have := jX3 j hj; omega)
  replace q := q.fr F28 (fun j hj => by have := jq j hj; omega) (fun n hn j hj => by have := sq n hn j hj; omega)
  replace Rq := F28.rs Rq (by omega)
  have SF28 := F28.size
  clear b F28
  go_wp2_with fail
  refine (eqStringS _ _ _ _ _ _ _ (ownSS X2 zz2) (ownSS y zz2) l2 l2).mono ?_; rintro e w29 ⟨rfl, nw29, hw29⟩
  rw [eqB_self]
  clear y jy
  have F30 : Fr w.heap.size w.heap.size w27 w29 := by rw [hw29]; exact (Fr.refl _ _ _).drewN _
  clear hw29
  replace A1 := F30.ssb A1 (by omega)
  replace BB := F30.below BB (by omega) (by omega)
  replace A2 := F30.ssb A2 (by omega)
  replace A3 := F30.ssb A3 (by omega)
  replace p := p.fr F30 (fun j hj => by have := jp j hj; omega) (fun n hn j hj => by have := sp n hn j hj; omega)
  replace Rp := F30.rs Rp (by omega)
  replace X1 := F30.own X1 (fun j hj => by have := jX1 j hj; omega)
  replace X2 := F30.own X2 (fun j hj => by have := jX2 j hj; omega)
  replace X3 := F30.own X3 (fun j hj => by have := jX3 j hj; omega)
  replace q := q.fr F30 (fun j hj => by have := jq j hj; omega) (fun n hn j hj => by have := sq n hn j hj; omega)
  replace Rq := F30.rs Rq (by omega)
  have SF30 := F30.size
  clear F30
  go_wp2_with fail
  refine (toStringS _ _ _ _ (A3.toSS (by omega)) l3).mono ?_; rintro e w31 ⟨rfl, y, b⟩
  have zw31 := size_of_owns y
  have jy : ∀ j, (Value.slice (some ⟨w29.heap.size, 0, none⟩) x3s.length x3s.length).ownBlock = some j → w29.heap.size ≤ j ∧ j < w31.heap.size := fun j hj => y.lt j hj
  have F32 : Fr w.heap.size w.heap.size w29 w31 := Fr.ofBelow b
  replace A1 := F32.ssb A1 (by omega)
  replace BB := F32.below BB (by omega) (by omega)
  replace A2 := F32.ssb A2 (by omega)
  replace A3 := F32.ssb A3 (by omega)
  replace p := p.fr F32 (fun j hj => by have := jp j hj; omega) (fun n hn j hj => by have := sp n hn j hj; omega)
  replace Rp := F32.rs Rp (by omega)
  replace X1 := F32.own X1 (fun j hj => by have := jX1 j hj; omega)
  replace X2 := F32.own X2 (fun j hj => by have := jX2 j hj; omega)
  replace X3 := F32.own X3 (fun j hj => by have := jX3 j hj; omega)
  replace q := q.fr F32 (fun j hj => by have := jq j hj; omega) (fun n hn j hj => by have := sq n hn j hj; omega)
  replace Rq := F32.rs Rq (by omega)
  have SF32 := F32.size
  clear b F32
  go_wp2_with fail
  refine (eqStringS _ _ _ _ _ _ _ (ownSS X3 zz3) (ownSS y zz3) l3 l3).mono ?_; rintro e w33 ⟨rfl, nw33, hw33⟩
  rw [eqB_self]
  clear y jy
  have F34 : Fr w.heap.size w.heap.size w31 w33 := by rw [hw33]; exact (Fr.refl _ _ _).drewN _
  clear hw33
  replace A1 := F34.ssb A1 (by omega)
  replace BB := F34.below BB (by omega) (by omega)
  replace A2 := F34.ssb A2 (by omega)
  replace A3 := F34.ssb A3 (by omega)
  replace p := p.fr F34 (fun j hj => by have := jp j hj; omega) (fun n hn j hj => by have := sp n hn j hj; omega)
  replace Rp := F34.rs Rp (by omega)
  replace X1 := F34.own X1 (fun j hj => by have := jX1 j hj; omega)
  replace X2 := F34.own X2 (fun j hj => by have := jX2 j hj; omega)
  replace X3 := F34.own X3 (fun j hj => by have := jX3 j hj; omega)
  replace q := q.fr F34 (fun j hj => by have := jq j hj; omega) (fun n hn j hj => by have := sq n hn j hj; omega)
  replace Rq := F34.rs Rq (by omega)
  have SF34 := F34.size
  clear F34
  go_wp2_with fail
  refine (markStringS _ _ _ _ (1) _ _ (by omega) (by omega) X1).mono ?_; rintro e w35 ⟨rfl, o, gg⟩
  have F36 : Fr W9.heap.size (W9.heap.size + 1) w33 w35 := Fr.ofGrown gg (ownOne _ _ _)
  clear o gg X1
  replace A1 := F36.ssb A1 (by omega)
  replace BB := F36.below BB (by omega) (by omega)
  replace A2 := F36.ssb A2 (by omega)
  replace A3 := F36.ssb A3 (by omega)
  replace p := p.fr F36 (fun j hj => by have := jp j hj; omega) (fun n hn j hj => by have := sp n hn j hj; omega)
  replace Rp := F36.rs Rp (by omega)
  replace X2 := F36.own X2 (fun j hj => by have := jX2 j hj; omega)
  replace X3 := F36.own X3 (fun j hj => by have := jX3 j hj; omega)
  replace q := q.fr F36 (fun j hj => by have := jq j hj; omega) (fun n hn j hj => by have := sq n hn j hj; omega)
  replace Rq := F36.rs Rq (by omega)
  have SF36 := F36.size
  clear F36 jX1
  go_wp2_with fail
  refine (markStringS _ _ _ _ (1 + x1s.length) _ _ (by omega) (by omega) X2).mono ?_; rintro e w37 ⟨rfl, o, gg⟩
  have F38 : Fr w11.heap.size (w11.heap.size + 1) w35 w37 := Fr.ofGrown gg (ownOne _ _ _)
  clear o gg X2
  replace A1 := F38.ssb A1 (by omega)
  replace BB := F38.below BB (by omega) (by omega)
  replace A2 := F38.ssb A2 (by omega)
  replace A3 := F38.ssb A3 (by omega)
  replace p := p.fr F38 (fun j hj => by have := jp j hj; omega) (fun n hn j hj => by have := sp n hn j hj; omega)
  replace Rp := F38.rs Rp (by omega)
  replace X3 := F38.own X3 (fun j hj => by have := jX3 j hj; omega)
  replace q := q.fr F38 (fun j hj => by have := jq j hj; omega) (fun n hn j hj => by have := sq n hn j hj; omega)
  replace Rq := F38.rs Rq (by omega)
  have SF38 := F38.size
  clear F38 jX2
  go_wp2_with fail
  refine (markStringS _ _ _ _ (1 + x1s.length + x2s.length) _ _ (by omega) (by omega) X3).mono ?_; rintro e w39 ⟨rfl, o, gg⟩
  have F40 : Fr w13.heap.size (w13.heap.size + 1) w37 w39 := Fr.ofGrown gg (ownOne _ _ _)
  clear o gg X3
  replace A1 := F40.ssb A1 (by omega)
  replace BB := F40.below BB (by omega) (by omega)
  replace A2 := F40.ssb A2 (by omega)
  replace A3 := F40.ssb A3 (by omega)
  replace p := p.fr F40 (fun j hj => by have := jp j hj; omega) (fun n hn j hj => by have := sp n hn j hj; omega)
  replace Rp := F40.rs Rp (by omega)
  replace q := q.fr F40 (fun j hj => by have := jq j hj; omega) (fun n hn j hj => by have := sq n hn j hj; omega)
  replace Rq := F40.rs Rq (by omega)
  have SF40 := F40.size
  clear F40 jX3
  obtain ⟨K, hK⟩ : ∃ K : Int, ((1 + x1s.length + x2s.length + x3s.length : Nat) : Int) = K := ⟨_, rfl⟩
  have hK0 : ¬ K < 0 := by omega
  rw [hK]
  clear hK
  have dp0 := Rp 0 _ rfl
  have dp1 := Rp 1 _ rfl
  have dq0 := Rq 0 _ rfl
  have dq1 := Rq 1 _ rfl
  go_wp2_with fail
  refine (eqChunksResult _ _ _ _ _ L _ (q.read hLf) (p.read hLf) hLs hLn2).mono ?_; rintro e w41 ⟨rfl, b⟩
  have F42 : Fr w.heap.size w.heap.size w39 w41 := Fr.ofBelow b
  replace A1 := F42.ssb A1 (by omega)
  replace BB := F42.below BB (by omega) (by omega)
  replace A2 := F42.ssb A2 (by omega)
  replace A3 := F42.ssb A3 (by omega)
  replace p := p.fr F42 (fun j hj => by have := jp j hj; omega) (fun n hn j hj => by have := sp n hn j hj; omega)
  replace Rp := F42.rs Rp (by omega)
  replace q := q.fr F42 (fun j hj => by have := jq j hj; omega) (fun n hn j hj => by have := sq n hn j hj; omega)
  replace Rq := F42.rs Rq (by omega)
  have SF42 := F42.size
  clear b F42
  clear dp0 dp1
  clear dq0 dq1
  have dq0 := Rq 0 _ rfl
  have dq1 := Rq 1 _ rfl
  go_wp2_with fail
  refine (markChunksAny _ w15.heap.size w17.heap.size _ _ 1 L slq _ (by omega) hLm2 q (fun j hj => (jq j hj).2) (fun n hn j hj => (sq n hn j hj).2)).mono ?_; rintro e w43 ⟨rfl, Q, FM⟩
  clear q
  clear dq0 dq1
  replace A1 := FM.ssb A1 (by omega)
  replace BB := FM.below BB (by omega) (by omega)
  replace A2 := FM.ssb A2 (by omega)
  replace A3 := FM.ssb A3 (by omega)
  replace p := p.fr FM (fun j hj => by have := jp j hj; omega) (fun n hn j hj => by have := sp n hn j hj; omega)
  replace Rp := FM.rs Rp (by omega)
  replace Rq := FM.rs Rq (by omega)
  have SFM := FM.size
  clear FM
  have jQ := jq
  have sQ : ∀ n, n < (mixX L 1 L.length).length * 3 → ∀ j, (slq n).ownBlock = some j → w15.heap.size ≤ j ∧ j < w17.heap.size := fun n hn j hj => sq n (by rw [hMl] at hn; exact hn) j hj
  obtain ⟨M, hM⟩ : ∃ M : Int, ((1 + mkK L L.length : Nat) : Int) = M := ⟨_, rfl⟩
  have hM0 : ¬ M < 0 := by omega
  have hMM : (M != M) = false := by simp
  rw [hM]
  have dq0 := Rq 0 _ rfl
  have dq1 := Rq 1 _ rfl
  go_wp2_with fail
  refine (heldChunksResult _ _ _ 1 L _ (by omega) hLm2 (KO.read (c := qc) (by rw [hMl]; exact Q) hMf)).mono ?_; rintro e w44 ⟨rfl, b⟩
  rw [hM]
  clear dq0 dq1
  have F45 : Fr w.heap.size w.heap.size w43 w44 := Fr.ofBelow b
  replace A1 := F45.ssb A1 (by omega)
  replace BB := F45.below BB (by omega) (by omega)
  replace A2 := F45.ssb A2 (by omega)
  replace A3 := F45.ssb A3 (by omega)
  replace p := p.fr F45 (fun j hj => by have := jp j hj; omega) (fun n hn j hj => by have := sp n hn j hj; omega)
  replace Rp := F45.rs Rp (by omega)
  replace Rq := F45.rs Rq (by omega)
  replace Q := Q.fr F45 (fun j hj => by have := jQ j hj; omega) (fun n hn j hj => by have := sQ n hn j hj; omega)
  have SF45 := F45.size
  clear b F45
  go_wp2_with fail
  refine (toStringS _ _ _ _ (A1.toSS (by omega)) l1).mono ?_; rintro e w46 ⟨rfl, z1, b⟩
  have zw46 := size_of_owns z1
  have jz1 : ∀ j, (Value.slice (some ⟨w44.heap.size, 0, none⟩) x1s.length x1s.length).ownBlock = some j → w44.heap.size ≤ j ∧ j < w46.heap.size := fun j hj => z1.lt j hj
  have F47 : Fr w.heap.size w.heap.size w44 w46 := Fr.ofBelow b
  replace A1 := F47.ssb A1 (by omega)
  replace BB := F47.below BB (by omega) (by omega)
  replace A2 := F47.ssb A2 (by omega)
  replace A3 := F47.ssb A3 (by omega)
  replace p := p.fr F47 (fun j hj => by have := jp j hj; omega) (fun n hn j hj => by have := sp n hn j hj; omega)
  replace Rp := F47.rs Rp (by omega)
  replace Rq := F47.rs Rq (by omega)
  replace Q := Q.fr F47 (fun j hj => by have := jQ j hj; omega) (fun n hn j hj => by have := sQ n hn j hj; omega)
  have SF47 := F47.size
  clear b F47
  go_wp2_with fail
  refine (toStringS _ _ _ _ (A2.toSS (by omega)) l2).mono ?_; rintro e w48 ⟨rfl, z2, b⟩
  have zw48 := size_of_owns z2
  have jz2 : ∀ j, (Value.slice (some ⟨w46.heap.size, 0, none⟩) x2s.length x2s.length).ownBlock = some j → w46.heap.size ≤ j ∧ j < w48.heap.size := fun j hj => z2.lt j hj
  have F49 : Fr w.heap.size w.heap.size w46 w48 := Fr.ofBelow b
  replace A1 := F49.ssb A1 (by omega)
  replace BB := F49.below BB (by omega) (by omega)
  replace A2 := F49.ssb A2 (by omega)
  replace A3 := F49.ssb A3 (by omega)
  replace p := p.fr F49 (fun j hj => by have := jp j hj; omega) (fun n hn j hj => by have := sp n hn j hj; omega)
  replace Rp := F49.rs Rp (by omega)
  replace Rq := F49.rs Rq (by omega)
  replace Q := Q.fr F49 (fun j hj => by have := jQ j hj; omega) (fun n hn j hj => by have := sQ n hn j hj; omega)
  replace z1 := F49.own z1 (fun j hj => by have := jz1 j hj; omega)
  have SF49 := F49.size
  clear b F49
  go_wp2_with fail
  refine (toStringS _ _ _ _ (A3.toSS (by omega)) l3).mono ?_; rintro e w50 ⟨rfl, z3, b⟩
  have zw50 := size_of_owns z3
  have jz3 : ∀ j, (Value.slice (some ⟨w48.heap.size, 0, none⟩) x3s.length x3s.length).ownBlock = some j → w48.heap.size ≤ j ∧ j < w50.heap.size := fun j hj => z3.lt j hj
  have F51 : Fr w.heap.size w.heap.size w48 w50 := Fr.ofBelow b
  replace A1 := F51.ssb A1 (by omega)
  replace BB := F51.below BB (by omega) (by omega)
  replace A2 := F51.ssb A2 (by omega)
  replace A3 := F51.ssb A3 (by omega)
  replace p := p.fr F51 (fun j hj => by have := jp j hj; omega) (fun n hn j hj => by have := sp n hn j hj; omega)
  replace Rp := F51.rs Rp (by omega)
  replace Rq := F51.rs Rq (by omega)
  replace Q := Q.fr F51 (fun j hj => by have := jQ j hj; omega) (fun n hn j hj => by have := sQ n hn j hj; omega)
  replace z1 := F51.own z1 (fun j hj => by have := jz1 j hj; omega)
  replace z2 := F51.own z2 (fun j hj => by have := jz2 j hj; omega)
  have SF51 := F51.size
  clear b F51
  go_wp2_with fail
  refine (hI _ _ _ _ (ownSS z1 zz1) (ownSS z2 zz2) (ownSS z3 zz3)).mono ?_; rintro e w52 ⟨vs, sls, rfl, s, bs⟩
  obtain ⟨sa, sc, es⟩ := shapeK s.row
  subst es
  have js : ∀ j, (Value.slice sa L.length sc).ownBlock = some j → w50.heap.size ≤ j ∧ j < w52.heap.size := fun j hj => s.row.lt j hj
  have ss : ∀ n, n < L.length * 3 → ∀ j, (sls n).ownBlock = some j → w50.heap.size ≤ j ∧ j < w52.heap.size := fun n hn j hj => (s.each n hn).lt j hj
  have F53 : Fr w.heap.size w.heap.size w50 w52 := Fr.ofBelow bs
  replace A1 := F53.ssb A1 (by omega)
  replace BB := F53.below BB (by omega) (by omega)
  replace A2 := F53.ssb A2 (by omega)
  replace A3 := F53.ssb A3 (by omega)
  replace p := p.fr F53 (fun j hj => by have := jp j hj; omega) (fun n hn j hj => by have := sp n hn j hj; omega)
  replace Rp := F53.rs Rp (by omega)
  replace Rq := F53.rs Rq (by omega)
  replace Q := Q.fr F53 (fun j hj => by have := jQ j hj; omega) (fun n hn j hj => by have := sQ n hn j hj; omega)
  replace z1 := F53.own z1 (fun j hj => by have := jz1 j hj; omega)
  replace z2 := F53.own z2 (fun j hj => by have := jz2 j hj; omega)
  replace z3 := F53.own z3 (fun j hj => by have := jz3 j hj; omega)
  have SF53 := F53.size
  clear bs F53
  clear z1 jz1
  clear z2 jz2
  clear z3 jz3
  obtain ⟨W54, hW54⟩ : ∃ W, w52.alloc (.cells #[.int .i64 r, .slice sa L.length sc] 26) = W := ⟨_, rfl⟩
  have Rs : Rs W54 w52.heap.size [.int .i64 r, .slice sa L.length sc] := by rw [← hW54]; exact Rs.new _ _ _
  have F55 : Fr w.heap.size w.heap.size w52 W54 := by rw [← hW54]; exact Fr.ofAlloc _ _
  have zW54 : w52.heap.size < W54.heap.size := by rw [← hW54]; simp
  replace A1 := F55.ssb A1 (by omega)
  replace BB := F55.below BB (by omega) (by omega)
  replace A2 := F55.ssb A2 (by omega)
  replace A3 := F55.ssb A3 (by omega)
  replace p := p.fr F55 (fun j hj => by have := jp j hj; omega) (fun n hn j hj => by have := sp n hn j hj; omega)
  replace Rp := F55.rs Rp (by omega)
  replace Rq := F55.rs Rq (by omega)
  replace Q := Q.fr F55 (fun j hj => by have := jQ j hj; omega) (fun n hn j hj => by have := sQ n hn j hj; omega)
  replace s := s.fr F55 (fun j hj => by have := js j hj; omega) (fun n hn j hj => by have := ss n hn j hj; omega)
  have SF55 := F55.size
  clear F55
  have dp0 := Rp 0 _ rfl
  have dp1 := Rp 1 _ rfl
  have ds0 := Rs 0 _ rfl
  have ds1 := Rs 1 _ rfl
  go_wp2_with fail
  refine (eqChunksResult _ _ _ _ _ L _ (s.read hLf) (p.read hLf) hLs hLn2).mono ?_; rintro e w56 ⟨rfl, b⟩
  have F57 : Fr w.heap.size w.heap.size W54 w56 := Fr.ofBelow b
  replace A1 := F57.ssb A1 (by omega)
  replace BB := F57.below BB (by omega) (by omega)
  replace A2 := F57.ssb A2 (by omega)
  replace A3 := F57.ssb A3 (by omega)
  replace p := p.fr F57 (fun j hj => by have := jp j hj; omega) (fun n hn j hj => by have := sp n hn j hj; omega)
  replace Rp := F57.rs Rp (by omega)
  replace Rq := F57.rs Rq (by omega)
  replace Q := Q.fr F57 (fun j hj => by have := jQ j hj; omega) (fun n hn j hj => by have := sQ n hn j hj; omega)
  replace s := s.fr F57 (fun j hj => by have := js j hj; omega) (fun n hn j hj => by have := ss n hn j hj; omega)
  replace Rs := F57.rs Rs (by omega)
  have SF57 := F57.size
  clear b F57
  clear dp0 dp1
  clear ds0 ds1
  clear hW54
  have dq0 := Rq 0 _ rfl
  have dq1 := Rq 1 _ rfl
  go_wp2_with fail
  refine (heldChunksResult _ _ _ 1 L _ (by omega) hLm2 (KO.read (c := qc) (by rw [hMl]; exact Q) hMf)).mono ?_; rintro e w58 ⟨rfl, b⟩
  rw [hM]
  clear dq0 dq1
  have F59 : Fr w.heap.size w.heap.size w56 w58 := Fr.ofBelow b
  replace A1 := F59.ssb A1 (by omega)
  replace BB := F59.below BB (by omega) (by omega)
  replace A2 := F59.ssb A2 (by omega)
  replace A3 := F59.ssb A3 (by omega)
  replace p := p.fr F59 (fun j hj => by have := jp j hj; omega) (fun n hn j hj => by have := sp n hn j hj; omega)
  replace Rp := F59.rs Rp (by omega)
  replace Rq := F59.rs Rq (by omega)
  replace Q := Q.fr F59 (fun j hj => by have := jQ j hj; omega) (fun n hn j hj => by have := sQ n hn j hj; omega)
  replace s := s.fr F59 (fun j hj => by have := js j hj; omega) (fun n hn j hj => by have := ss n hn j hj; omega)
  replace Rs := F59.rs Rs (by omega)
  have SF59 := F59.size
  clear b F59
  go_wp2_with fail
  go_ret
  exact ⟨rfl, BB⟩

set_option linter.unusedVariables false
theorem laidOut : laidOutB Try.prog = true := by kernel_rfl
theorem own : ownKnob Try.prog.godebug = none := by kernel_rfl
set_option maxRecDepth 100000 in
theorem lifted (os : Os) (started : os.Started) (H : Type) (enc : TypeId × Value → H) :
    ReturnsInHanded {} Try.checked os 3 .any (Rows.fnExactChunksOfSpec.pre6 enc Try.prog Try.f3 Rows.fnExactChunksOfRow.domain false) (Rows.fnExactChunksOfSpec.post enc Try.prog Try.f3 false true false false) := by
  refine returnsInHanded_of_change (C := Try.checked) own started (by kernel_rfl) Try.func3
    (ChangeSpec.witness6 (enc := enc) (C := Try.checked) false ⟨#[], #[.slice none 0 0, .slice none 0 0, .slice none 0 0], []⟩ 8 (by kernel_rfl) (by kernel_rfl) (by kernel_rfl) (by kernel_rfl)) ?_
  intro W base args ds gs before hval0 hW hcnd _
  have hval : ∀ (j : Nat) t v, Try.f3.params[j]? = some t → args[j]? = some v → Value.okWide Try.prog W .any base t v := hval0
  have hW' := hW
  obtain ⟨p, q, hA0, hV, rfl, hfz, hnd⟩ := hW
  have hA : DataW.TrodAll enc Try.prog W 0 (fun _ => true) true Try.f3.params.toList args.toList ds p := hA0
  rw [Try.params3] at hA hval
  obtain ⟨v0, vs0, d0, ds0, p0, q0, hargs, rfl, rfl, h0, r0⟩ := trodAll_cons hA
  obtain ⟨v1, vs1, d1, ds1, p1, q1, rfl, rfl, rfl, h1, r1⟩ := trodAll_cons r0
  obtain ⟨v2, vs2, d2, ds2, p2, q2, rfl, rfl, rfl, h2, r2⟩ := trodAll_cons r1
  obtain ⟨rfl, rfl, rfl⟩ := trodAll_nil r2
  obtain rfl : args = #[v0, v1, v2] := by cases args; simp_all
  obtain ⟨rfl, rfl⟩ := trodVars_none hV
  obtain ⟨a0, len0, cap0, rfl⟩ := okWide_slice Try.underlying22 (hval 0 22 v0 rfl rfl)
  have k0 := h0
  have lt0 : ∀ x ∈ p0, x.block < W.heap.size := by obtain ⟨m, hm⟩ := k0; exact DataW.trod_lt m _ _ _ hm
  obtain ⟨ss0, rfl, w0, n0⟩ := openSS h0 lt0
  obtain ⟨a1, len1, cap1, rfl⟩ := okWide_slice Try.underlying22 (hval 1 22 v1 rfl rfl)
  have k1 := h1
  have lt1 : ∀ x ∈ p1, x.block < W.heap.size := by obtain ⟨m, hm⟩ := k1; exact DataW.trod_lt m _ _ _ hm
  obtain ⟨ss1, rfl, w1, n1⟩ := openSS h1 lt1
  obtain ⟨a2, len2, cap2, rfl⟩ := okWide_slice Try.underlying22 (hval 2 22 v2 rfl rfl)
  have k2 := h2
  have lt2 : ∀ x ∈ p2, x.block < W.heap.size := by obtain ⟨m, hm⟩ := k2; exact DataW.trod_lt m _ _ _ hm
  obtain ⟨ss2, rfl, w2, n2⟩ := openSS h2 lt2
  clear hA0 hval0
  refine (walk a0 cap0 ss0 a1 cap1 ss1 a2 cap2 ss2 W w0 n0 w1 n1 w2 n2).mono fun e W' ⟨he, bel⟩ => ?_
  subst he
  exact ⟨_, rfl, _, _, _, [], _, [], hW', trodAll_mk1 (shut_bool Try.underlying4 _), (trodAll_cons_mk (Below.trod laidOut (by kernel_rfl) (of_decide_eq_true (by kernel_rfl)) k0 bel lt0) (trodAll_cons_mk (Below.trod laidOut (by kernel_rfl) (of_decide_eq_true (by kernel_rfl)) k1 bel lt1) (trodAll_cons_mk (Below.trod laidOut (by kernel_rfl) (of_decide_eq_true (by kernel_rfl)) k2 bel lt2) trodAll_mk0))), rfl, bel.frame _, fun h => by cases h⟩

theorem over : Rows.fnExactChunksOfRow.holds Try.pinned (OpenSpec.ofChange Rows.fnExactChunksOfSpec) :=
  OpenClaim.holds_of_wide 3 Try.f3 rfl rfl rfl rfl rfl rfl rfl ⟨rfl, rfl, rfl, rfl, rfl⟩ rfl rfl rfl rfl rfl (by kernel_rfl) Try.func3 (by kernel_rfl)
    (of_decide_eq_true (by kernel_rfl)) (by unfold Func.isWrapper; first | (rw [if_pos (by decide +kernel)]; kernel_rfl) | (rw [if_neg (by decide +kernel)]; exact ⟨rfl, rfl⟩))
    (fun os started H enc _ => lifted os started H enc)

theorem proved : Rows.FnExactChunksOfSaid := over
end Go.Proofs.Ytlgeoaepjghdhaa.KkLaw
namespace Go.Proofs.Ytlgeoaepjghdhaa
theorem fnExactChunksOf_proved : Rows.FnExactChunksOfSaid := KkLaw.proved
end Go.Proofs.Ytlgeoaepjghdhaa
