/- Proved: at every list of hunks FnExactReverseHunks returns true (ReverseHunks answers as its specification, field by field; its answer owns its memory, behind another call too; the hunks are not changed). No condition: FnExactReverseHunksSaid itself. -/
import Derived.Test.YtidjcjeiigjmaaiRows
import Derived.Test.YtidjcjeiigjmaaiLem
import Derived.Test.YtidjcjeiigjmaaiStrs
import Derived.Test.YtidjcjeiigjmaaiMarks
import Derived.Test.YtidjcjeiigjmaaiHeld
import Derived.Test.YtidjcjeiigjmaaiLFLem
import Derived.Test.YtidjcjeiigjmaaiLF
import Derived.Test.YtidjcjeiigjmaaiDTab
import Derived.Test.YtidjcjeiigjmaaiOwn
import Derived.Test.YtidjcjeiigjmaaiFr
import Derived.Test.YtidjcjeiigjmaaiIn
import Derived.Test.YtidjcjeiigjmaaiHkL
import Derived.Test.YtidjcjeiigjmaaiHkC
import Derived.Test.YtidjcjeiigjmaaiHkS
import Derived.Test.YtidjcjeiigjmaaiHkT
import Derived.Test.YtidjcjeiigjmaaiHkE
import Derived.Test.YtidjcjeiigjmaaiHfL
import Derived.Test.YtidjcjeiigjmaaiHfC
import Derived.Test.YtidjcjeiigjmaaiHfI
import Derived.Test.YtidjcjeiigjmaaiHfS
import Derived.Test.YtidjcjeiigjmaaiHnL
import Derived.Test.YtidjcjeiigjmaaiHnT
import Derived.Test.YtidjcjeiigjmaaiOpH
import Derived.Test.YtidjcjeiigjmaaiOpN
import Derived.Test.YtidjcjeiigjmaaiRvL
import Derived.Test.YtidjcjeiigjmaaiRvI
import Derived.Test.YtidjcjeiigjmaaiRvS
import Derived.Test.YtidjcjeiigjmaaiHrR
import Derived.Test.YtidjcjeiigjmaaiRvP
import Derived.WalkKit
import Derived.ProofKit
import Derived.OpenShut
import Derived.Below
import Derived.Carry
namespace Go.Proofs.Ytidjcjeiigjmaai.RvLaw
open Go.ChangeShapes Go.WideShapes Go.ChangeAt Go.RowKit

set_option maxRecDepth 20000 in
set_option maxHeartbeats 8000000 in
theorem walk (a : Option Addr) (c : Nat) (l : List Hk) (w : World) (h : HB w.heap.size w a l) (hl : Long l) (hf : Fits l) (hn : l.length ≤ 9223372036854775807) :
    Calls Try.prog 4 #[.slice a l.length c] w fun e w' => e = .returned (.bool true) ∧ Below w.heap.size w w' := by
  have hZ := szHunkS a c l 1048576 w h hl hn (by omega) (by omega)
  by_cases hx : leftH 1048576 l < 0
  · go_enter Try.func4, Try.ntmps4
    go_wp2_with fail
    refine hZ.mono ?_; rintro e w1 ⟨rfl, b1⟩
    clear hZ
    go_wp2_with fail
    go_ret
    exact ⟨rfl, b1⟩
  obtain ⟨n1, n2, n3⟩ := leftH_nums hx
  have hs : Shortly l := fun x hx => by have := (n3 x hx).1; omega
  have hls : l.length ≤ 1048576 := by omega
  have hzz : ∀ x ∈ l, ∀ s ∈ x.2.2, s.size ≤ 1048576 := sum_short n3
  have hlm : 1 + mkN l l.length ≤ 4194304 := by rw [mkN_full]; omega
  clear n1 n2 n3
  have hS := fun (a : Option Addr) (c : Nat) W h => specReverseHunks a c l W h hls hs hzz
  have hI := fun (a : Option Addr) (c : Nat) W h => implReverseHunks a c l W h hls hs hzz
  have hT := fun W h => toHunkS a c l W h hs hls
  have hLs := rvL_short hs
  have hLf := rvL_fits hzz
  have hLn := rvL_length l
  have hLm := rvL_mk l
  obtain ⟨r, hr⟩ : ∃ r, Go.Proofs.Ytidjcjeiigjmaai.hf l = r := ⟨_, rfl⟩
  obtain ⟨L, hL⟩ : ∃ L, rvL l = L := ⟨_, rfl⟩
  rw [hr, hL] at hS hI
  rw [hL] at hLs hLf hLn hLm
  have hLn2 : L.length ≤ 1048576 := by omega
  have hLm2 : 1 + mkN L L.length ≤ 4194304 := by omega
  have hMf := mixM_fits hLm2
  have hMl := mixM_length L 1 L.length
  clear hr hL hLn hLm
  go_enter Try.func4, Try.ntmps4
  go_wp2_with fail
  refine hZ.mono ?_; rintro e w1 ⟨rfl, b⟩
  have A1 := h
  have BB := Below.refl w.heap.size w
  clear hZ h
  have F1 : Fr w.heap.size w.heap.size w w1 := Fr.ofBelow b
  replace A1 := A1.fr F1 (.inl (by omega))
  replace BB := F1.below BB (by omega) (by omega)
  have SF1 := F1.size
  clear b F1
  go_wp2_with fail
  refine (hT _ (A1.mono (by omega))).mono ?_; rintro e w2 ⟨rfl, ⟨slx, x⟩, b⟩
  have jx : ∀ j, (Value.slice (some ⟨w1.heap.size, 0, none⟩) l.length l.length).ownBlock = some j → w1.heap.size ≤ j ∧ j < w2.heap.size := fun j hj => x.row.lt j hj
  have sx : ∀ n, n < l.length → ∀ j, (slx n).ownBlock = some j → w1.heap.size ≤ j ∧ j < w2.heap.size := fun n hn j hj => (x.each n hn).lt j hj
  have F3 : Fr w.heap.size w.heap.size w1 w2 := Fr.ofBelow b
  replace A1 := A1.fr F3 (.inl (by omega))
  replace BB := F3.below BB (by omega) (by omega)
  have SF3 := F3.size
  clear b F3
  go_wp2_with fail
  refine (hS _ _ _ (x.read hf)).mono ?_; rintro e w4 ⟨vp, slp, rfl, p, bp⟩
  obtain ⟨pa, pc, ep⟩ := shape3 p.row
  subst ep
  have jp : ∀ j, (Value.slice pa L.length pc).ownBlock = some j → w2.heap.size ≤ j ∧ j < w4.heap.size := fun j hj => p.row.lt j hj
  have sp : ∀ n, n < L.length → ∀ j, (slp n).ownBlock = some j → w2.heap.size ≤ j ∧ j < w4.heap.size := fun n hn j hj => (p.each n hn).lt j hj
  have F5 : Fr w.heap.size w.heap.size w2 w4 := Fr.ofBelow bp
  replace A1 := A1.fr F5 (.inl (by omega))
  replace BB := F5.below BB (by omega) (by omega)
  have SF5 := F5.size
  clear bp F5
  clear x jx sx
  obtain ⟨W6, hW6⟩ : ∃ W, w4.alloc (.cells #[.int .i64 r, .int .i64 0, .slice pa L.length pc] 39) = W := ⟨_, rfl⟩
  have Rp : Rs W6 w4.heap.size [.int .i64 r, .int .i64 0, .slice pa L.length pc] := by rw [← hW6]; exact Rs.new _ _ _
  have F7 : Fr w.heap.size w.heap.size w4 W6 := by rw [← hW6]; exact Fr.ofAlloc _ _
  have zW6 : w4.heap.size < W6.heap.size := by rw [← hW6]; simp
  replace A1 := A1.fr F7 (.inl (by omega))
  replace BB := F7.below BB (by omega) (by omega)
  replace p := p.fr F7 (fun j hj => by have := jp j hj; omega) (fun n hn j hj => by have := sp n hn j hj; omega)
  have SF7 := F7.size
  clear F7
  go_wp2_with fail
  refine (hT _ (A1.mono (by omega))).mono ?_; rintro e w8 ⟨rfl, ⟨slX, X⟩, b⟩
  have jX : ∀ j, (Value.slice (some ⟨W6.heap.size, 0, none⟩) l.length l.length).ownBlock = some j → W6.heap.size ≤ j ∧ j < w8.heap.size := fun j hj => X.row.lt j hj
  have sX : ∀ n, n < l.length → ∀ j, (slX n).ownBlock = some j → W6.heap.size ≤ j ∧ j < w8.heap.size := fun n hn j hj => (X.each n hn).lt j hj
  have F9 : Fr w.heap.size w.heap.size W6 w8 := Fr.ofBelow b
  replace A1 := A1.fr F9 (.inl (by omega))
  replace BB := F9.below BB (by omega) (by omega)
  replace p := p.fr F9 (fun j hj => by have := jp j hj; omega) (fun n hn j hj => by have := sp n hn j hj; omega)
  replace Rp := F9.rs Rp (by omega)
  have SF9 := F9.size
  clear b F9
  clear hW6
  go_wp2_with fail
  refine (hI _ _ _ (X.read hf)).mono ?_; rintro e w10 ⟨vq, slq, rfl, q, bq⟩
  obtain ⟨qa, qc, eq⟩ := shape3 q.row
  subst eq
  have jq : ∀ j, (Value.slice qa L.length qc).ownBlock = some j → w8.heap.size ≤ j ∧ j < w10.heap.size := fun j hj => q.row.lt j hj
  have sq : ∀ n, n < L.length → ∀ j, (slq n).ownBlock = some j → w8.heap.size ≤ j ∧ j < w10.heap.size := fun n hn j hj => (q.each n hn).lt j hj
  have F11 : Fr w.heap.size w.heap.size w8 w10 := Fr.ofBelow bq
  replace A1 := A1.fr F11 (.inl (by omega))
  replace BB := F11.below BB (by omega) (by omega)
  replace p := p.fr F11 (fun j hj => by have := jp j hj; omega) (fun n hn j hj => by have := sp n hn j hj; omega)
  replace Rp := F11.rs Rp (by omega)
  replace X := X.fr F11 (fun j hj => by have := jX j hj; omega) (fun n hn j hj => by have := sX n hn j hj; omega)
  have SF11 := F11.size
  clear bq F11
  obtain ⟨W12, hW12⟩ : ∃ W, w10.alloc (.cells #[.int .i64 r, .int .i64 0, .slice qa L.length qc] 39) = W := ⟨_, rfl⟩
  have Rq : Rs W12 w10.heap.size [.int .i64 r, .int .i64 0, .slice qa L.length qc] := by rw [← hW12]; exact Rs.new _ _ _
  have F13 : Fr w.heap.size w.heap.size w10 W12 := by rw [← hW12]; exact Fr.ofAlloc _ _
  have zW12 : w10.heap.size < W12.heap.size := by rw [← hW12]; simp
  replace A1 := A1.fr F13 (.inl (by omega))
  replace BB := F13.below BB (by omega) (by omega)
  replace p := p.fr F13 (fun j hj => by have := jp j hj; omega) (fun n hn j hj => by have := sp n hn j hj; omega)
  replace Rp := F13.rs Rp (by omega)
  replace X := X.fr F13 (fun j hj => by have := jX j hj; omega) (fun n hn j hj => by have := sX n hn j hj; omega)
  replace q := q.fr F13 (fun j hj => by have := jq j hj; omega) (fun n hn j hj => by have := sq n hn j hj; omega)
  have SF13 := F13.size
  clear F13
  have dp0 := Rp 0 _ rfl
  have dp1 := Rp 1 _ rfl
  have dp2 := Rp 2 _ rfl
  have dq0 := Rq 0 _ rfl
  have dq1 := Rq 1 _ rfl
  have dq2 := Rq 2 _ rfl
  go_wp2_with fail
  refine (eqHunksResult _ _ _ _ _ _ L _ (q.read hLf) (p.read hLf) hLs hLn2).mono ?_; rintro e w14 ⟨rfl, b⟩
  have F15 : Fr w.heap.size w.heap.size W12 w14 := Fr.ofBelow b
  replace A1 := A1.fr F15 (.inl (by omega))
  replace BB := F15.below BB (by omega) (by omega)
  replace p := p.fr F15 (fun j hj => by have := jp j hj; omega) (fun n hn j hj => by have := sp n hn j hj; omega)
  replace Rp := F15.rs Rp (by omega)
  replace X := X.fr F15 (fun j hj => by have := jX j hj; omega) (fun n hn j hj => by have := sX n hn j hj; omega)
  replace q := q.fr F15 (fun j hj => by have := jq j hj; omega) (fun n hn j hj => by have := sq n hn j hj; omega)
  replace Rq := F15.rs Rq (by omega)
  have SF15 := F15.size
  clear b F15
  clear dp0 dp1 dp2
  clear dq0 dq1 dq2
  clear hW12
  go_wp2_with fail
  refine (hT _ (A1.mono (by omega))).mono ?_; rintro e w16 ⟨rfl, ⟨sly, y⟩, b⟩
  have jy : ∀ j, (Value.slice (some ⟨w14.heap.size, 0, none⟩) l.length l.length).ownBlock = some j → w14.heap.size ≤ j ∧ j < w16.heap.size := fun j hj => y.row.lt j hj
  have sy : ∀ n, n < l.length → ∀ j, (sly n).ownBlock = some j → w14.heap.size ≤ j ∧ j < w16.heap.size := fun n hn j hj => (y.each n hn).lt j hj
  have F17 : Fr w.heap.size w.heap.size w14 w16 := Fr.ofBelow b
  replace A1 := A1.fr F17 (.inl (by omega))
  replace BB := F17.below BB (by omega) (by omega)
  replace p := p.fr F17 (fun j hj => by have := jp j hj; omega) (fun n hn j hj => by have := sp n hn j hj; omega)
  replace Rp := F17.rs Rp (by omega)
  replace X := X.fr F17 (fun j hj => by have := jX j hj; omega) (fun n hn j hj => by have := sX n hn j hj; omega)
  replace q := q.fr F17 (fun j hj => by have := jq j hj; omega) (fun n hn j hj => by have := sq n hn j hj; omega)
  replace Rq := F17.rs Rq (by omega)
  have SF17 := F17.size
  clear b F17
  go_wp2_with fail
  refine (eqHunkS _ _ _ _ l _ (X.read hf) (y.read hf) hs hls).mono ?_; rintro e w18 ⟨rfl, b⟩
  clear y jy sy
  have F19 : Fr w.heap.size w.heap.size w16 w18 := Fr.ofBelow b
  replace A1 := A1.fr F19 (.inl (by omega))
  replace BB := F19.below BB (by omega) (by omega)
  replace p := p.fr F19 (fun j hj => by have := jp j hj; omega) (fun n hn j hj => by have := sp n hn j hj; omega)
  replace Rp := F19.rs Rp (by omega)
  replace X := X.fr F19 (fun j hj => by have := jX j hj; omega) (fun n hn j hj => by have := sX n hn j hj; omega)
  replace q := q.fr F19 (fun j hj => by have := jq j hj; omega) (fun n hn j hj => by have := sq n hn j hj; omega)
  replace Rq := F19.rs Rq (by omega)
  have SF19 := F19.size
  clear b F19
  go_wp2_with fail
  refine (markHunkS W6.heap.size w8.heap.size _ _ 1 l slX _ (by omega) hlm X (by have := (jX _ rfl).2; omega) (fun n hn j hj => (sX n hn j hj).2)).mono ?_; rintro e w20 ⟨rfl, X2, FX⟩
  clear X X2
  replace A1 := A1.fr FX (.inl (by omega))
  replace BB := FX.below BB (by omega) (by omega)
  replace p := p.fr FX (fun j hj => by have := jp j hj; omega) (fun n hn j hj => by have := sp n hn j hj; omega)
  replace Rp := FX.rs Rp (by omega)
  replace q := q.fr FX (fun j hj => by have := jq j hj; omega) (fun n hn j hj => by have := sq n hn j hj; omega)
  replace Rq := FX.rs Rq (by omega)
  have SFX := FX.size
  clear FX
  obtain ⟨K, hK⟩ : ∃ K : Int, ((1 + mkN l l.length : Nat) : Int) = K := ⟨_, rfl⟩
  have hK0 : ¬ K < 0 := by omega
  rw [hK]
  clear hK
  have dp0 := Rp 0 _ rfl
  have dp1 := Rp 1 _ rfl
  have dp2 := Rp 2 _ rfl
  have dq0 := Rq 0 _ rfl
  have dq1 := Rq 1 _ rfl
  have dq2 := Rq 2 _ rfl
  go_wp2_with fail
  refine (eqHunksResult _ _ _ _ _ _ L _ (q.read hLf) (p.read hLf) hLs hLn2).mono ?_; rintro e w21 ⟨rfl, b⟩
  have F22 : Fr w.heap.size w.heap.size w20 w21 := Fr.ofBelow b
  replace A1 := A1.fr F22 (.inl (by omega))
  replace BB := F22.below BB (by omega) (by omega)
  replace p := p.fr F22 (fun j hj => by have := jp j hj; omega) (fun n hn j hj => by have := sp n hn j hj; omega)
  replace Rp := F22.rs Rp (by omega)
  replace q := q.fr F22 (fun j hj => by have := jq j hj; omega) (fun n hn j hj => by have := sq n hn j hj; omega)
  replace Rq := F22.rs Rq (by omega)
  have SF22 := F22.size
  clear b F22
  clear dp0 dp1 dp2
  clear dq0 dq1 dq2
  have dq0 := Rq 0 _ rfl
  have dq1 := Rq 1 _ rfl
  have dq2 := Rq 2 _ rfl
  go_wp2_with fail
  refine (markHunksAny _ _ w8.heap.size w10.heap.size _ _ 1 L slq _ (by omega) hLm2 q (fun j hj => (jq j hj).2) (fun n hn j hj => (sq n hn j hj).2)).mono ?_; rintro e w23 ⟨rfl, Q, FM⟩
  clear q
  clear dq0 dq1 dq2
  replace A1 := A1.fr FM (.inl (by omega))
  replace BB := FM.below BB (by omega) (by omega)
  replace p := p.fr FM (fun j hj => by have := jp j hj; omega) (fun n hn j hj => by have := sp n hn j hj; omega)
  replace Rp := FM.rs Rp (by omega)
  replace Rq := FM.rs Rq (by omega)
  have SFM := FM.size
  clear FM
  have jQ := jq
  have sQ : ∀ n, n < (mixM L 1 L.length).length → ∀ j, (slq n).ownBlock = some j → w8.heap.size ≤ j ∧ j < w10.heap.size := fun n hn j hj => sq n (by rw [hMl] at hn; exact hn) j hj
  obtain ⟨M, hM⟩ : ∃ M : Int, ((1 + mkN L L.length : Nat) : Int) = M := ⟨_, rfl⟩
  have hM0 : ¬ M < 0 := by omega
  have hMM : (M != M) = false := by simp
  rw [hM]
  have dq0 := Rq 0 _ rfl
  have dq1 := Rq 1 _ rfl
  have dq2 := Rq 2 _ rfl
  go_wp2_with fail
  refine (heldHunksResult _ _ _ _ 1 L _ (by omega) hLm2 (HO.read (c := qc) (by rw [hMl]; exact Q) hMf)).mono ?_; rintro e w24 ⟨rfl, b⟩
  rw [hM]
  clear dq0 dq1 dq2
  have F25 : Fr w.heap.size w.heap.size w23 w24 := Fr.ofBelow b
  replace A1 := A1.fr F25 (.inl (by omega))
  replace BB := F25.below BB (by omega) (by omega)
  replace p := p.fr F25 (fun j hj => by have := jp j hj; omega) (fun n hn j hj => by have := sp n hn j hj; omega)
  replace Rp := F25.rs Rp (by omega)
  replace Rq := F25.rs Rq (by omega)
  replace Q := Q.fr F25 (fun j hj => by have := jQ j hj; omega) (fun n hn j hj => by have := sQ n hn j hj; omega)
  have SF25 := F25.size
  clear b F25
  go_wp2_with fail
  refine (hT _ (A1.mono (by omega))).mono ?_; rintro e w26 ⟨rfl, ⟨slz, z⟩, b⟩
  have jz : ∀ j, (Value.slice (some ⟨w24.heap.size, 0, none⟩) l.length l.length).ownBlock = some j → w24.heap.size ≤ j ∧ j < w26.heap.size := fun j hj => z.row.lt j hj
  have sz : ∀ n, n < l.length → ∀ j, (slz n).ownBlock = some j → w24.heap.size ≤ j ∧ j < w26.heap.size := fun n hn j hj => (z.each n hn).lt j hj
  have F27 : Fr w.heap.size w.heap.size w24 w26 := Fr.ofBelow b
  replace A1 := A1.fr F27 (.inl (by omega))
  replace BB := F27.below BB (by omega) (by omega)
  replace p := p.fr F27 (fun j hj => by have := jp j hj; omega) (fun n hn j hj => by have := sp n hn j hj; omega)
  replace Rp := F27.rs Rp (by omega)
  replace Rq := F27.rs Rq (by omega)
  replace Q := Q.fr F27 (fun j hj => by have := jQ j hj; omega) (fun n hn j hj => by have := sQ n hn j hj; omega)
  have SF27 := F27.size
  clear b F27
  go_wp2_with fail
  refine (hI _ _ _ (z.read hf)).mono ?_; rintro e w28 ⟨vs, sls, rfl, s, bs⟩
  obtain ⟨sa, sc, es⟩ := shape3 s.row
  subst es
  have js : ∀ j, (Value.slice sa L.length sc).ownBlock = some j → w26.heap.size ≤ j ∧ j < w28.heap.size := fun j hj => s.row.lt j hj
  have ss : ∀ n, n < L.length → ∀ j, (sls n).ownBlock = some j → w26.heap.size ≤ j ∧ j < w28.heap.size := fun n hn j hj => (s.each n hn).lt j hj
  have F29 : Fr w.heap.size w.heap.size w26 w28 := Fr.ofBelow bs
  replace A1 := A1.fr F29 (.inl (by omega))
  replace BB := F29.below BB (by omega) (by omega)
  replace p := p.fr F29 (fun j hj => by have := jp j hj; omega) (fun n hn j hj => by have := sp n hn j hj; omega)
  replace Rp := F29.rs Rp (by omega)
  replace Rq := F29.rs Rq (by omega)
  replace Q := Q.fr F29 (fun j hj => by have := jQ j hj; omega) (fun n hn j hj => by have := sQ n hn j hj; omega)
  have SF29 := F29.size
  clear bs F29
  clear z jz sz
  obtain ⟨W30, hW30⟩ : ∃ W, w28.alloc (.cells #[.int .i64 r, .int .i64 0, .slice sa L.length sc] 39) = W := ⟨_, rfl⟩
  have Rs : Rs W30 w28.heap.size [.int .i64 r, .int .i64 0, .slice sa L.length sc] := by rw [← hW30]; exact Rs.new _ _ _
  have F31 : Fr w.heap.size w.heap.size w28 W30 := by rw [← hW30]; exact Fr.ofAlloc _ _
  have zW30 : w28.heap.size < W30.heap.size := by rw [← hW30]; simp
  replace A1 := A1.fr F31 (.inl (by omega))
  replace BB := F31.below BB (by omega) (by omega)
  replace p := p.fr F31 (fun j hj => by have := jp j hj; omega) (fun n hn j hj => by have := sp n hn j hj; omega)
  replace Rp := F31.rs Rp (by omega)
  replace Rq := F31.rs Rq (by omega)
  replace Q := Q.fr F31 (fun j hj => by have := jQ j hj; omega) (fun n hn j hj => by have := sQ n hn j hj; omega)
  replace s := s.fr F31 (fun j hj => by have := js j hj; omega) (fun n hn j hj => by have := ss n hn j hj; omega)
  have SF31 := F31.size
  clear F31
  have dp0 := Rp 0 _ rfl
  have dp1 := Rp 1 _ rfl
  have dp2 := Rp 2 _ rfl
  have ds0 := Rs 0 _ rfl
  have ds1 := Rs 1 _ rfl
  have ds2 := Rs 2 _ rfl
  go_wp2_with fail
  refine (eqHunksResult _ _ _ _ _ _ L _ (s.read hLf) (p.read hLf) hLs hLn2).mono ?_; rintro e w32 ⟨rfl, b⟩
  have F33 : Fr w.heap.size w.heap.size W30 w32 := Fr.ofBelow b
  replace A1 := A1.fr F33 (.inl (by omega))
  replace BB := F33.below BB (by omega) (by omega)
  replace p := p.fr F33 (fun j hj => by have := jp j hj; omega) (fun n hn j hj => by have := sp n hn j hj; omega)
  replace Rp := F33.rs Rp (by omega)
  replace Rq := F33.rs Rq (by omega)
  replace Q := Q.fr F33 (fun j hj => by have := jQ j hj; omega) (fun n hn j hj => by have := sQ n hn j hj; omega)
  replace s := s.fr F33 (fun j hj => by have := js j hj; omega) (fun n hn j hj => by have := ss n hn j hj; omega)
  replace Rs := F33.rs Rs (by omega)
  have SF33 := F33.size
  clear b F33
  clear dp0 dp1 dp2
  clear ds0 ds1 ds2
  clear hW30
  have dq0 := Rq 0 _ rfl
  have dq1 := Rq 1 _ rfl
  have dq2 := Rq 2 _ rfl
  go_wp2_with fail
  refine (heldHunksResult _ _ _ _ 1 L _ (by omega) hLm2 (HO.read (c := qc) (by rw [hMl]; exact Q) hMf)).mono ?_; rintro e w34 ⟨rfl, b⟩
  rw [hM]
  clear dq0 dq1 dq2
  have F35 : Fr w.heap.size w.heap.size w32 w34 := Fr.ofBelow b
  replace A1 := A1.fr F35 (.inl (by omega))
  replace BB := F35.below BB (by omega) (by omega)
  replace p := p.fr F35 (fun j hj => by have := jp j hj; omega) (fun n hn j hj => by have := sp n hn j hj; omega)
  replace Rp := F35.rs Rp (by omega)
  replace Rq := F35.rs Rq (by omega)
  replace Q := Q.fr F35 (fun j hj => by have := jQ j hj; omega) (fun n hn j hj => by have := sQ n hn j hj; omega)
  replace s := s.fr F35 (fun j hj => by have := js j hj; omega) (fun n hn j hj => by have := ss n hn j hj; omega)
  replace Rs := F35.rs Rs (by omega)
  have SF35 := F35.size
  clear b F35
  go_wp2_with fail
  go_ret
  exact ⟨rfl, BB⟩

set_option linter.unusedVariables false
theorem laidOut : laidOutB Try.prog = true := by kernel_rfl
theorem own : ownKnob Try.prog.godebug = none := by kernel_rfl
set_option maxRecDepth 100000 in
theorem lifted (os : Os) (started : os.Started) (H : Type) (enc : TypeId × Value → H) :
    ReturnsInHanded {} Try.checked os 4 .any (Rows.fnExactReverseHunksSpec.pre6 enc Try.prog Try.f4 Rows.fnExactReverseHunksRow.domain false) (Rows.fnExactReverseHunksSpec.post enc Try.prog Try.f4 false true false false) := by
  refine returnsInHanded_of_change (C := Try.checked) own started (by kernel_rfl) Try.func4
    (ChangeSpec.witness6 (enc := enc) (C := Try.checked) false ⟨#[], #[.slice none 0 0], []⟩ 8 (by kernel_rfl) (by kernel_rfl) (by kernel_rfl) (by kernel_rfl)) ?_
  intro W base args ds gs before hval0 hW hcnd _
  have hval : ∀ (j : Nat) t v, Try.f4.params[j]? = some t → args[j]? = some v → Value.okWide Try.prog W .any base t v := hval0
  have hW' := hW
  obtain ⟨p, q, hA0, hV, rfl, hfz, hnd⟩ := hW
  have hA : DataW.TrodAll enc Try.prog W 0 (fun _ => true) true Try.f4.params.toList args.toList ds p := hA0
  rw [Try.params4] at hA hval
  obtain ⟨v0, vs0, d0, ds0, p0, q0, hargs, rfl, rfl, h0, r0⟩ := trodAll_cons hA
  obtain ⟨rfl, rfl, rfl⟩ := trodAll_nil r0
  obtain rfl : args = #[v0] := by cases args; simp_all
  obtain ⟨rfl, rfl⟩ := trodVars_none hV
  obtain ⟨a0, len0, cap0, rfl⟩ := okWide_slice Try.underlying23 (hval 0 23 v0 rfl rfl)
  have k0 := h0
  have lt0 : ∀ x ∈ p0, x.block < W.heap.size := by obtain ⟨m, hm⟩ := k0; exact DataW.trod_lt m _ _ _ hm
  obtain ⟨ss0, rfl, w0, lg0, ft0, n0⟩ := openHB h0
  clear hA0 hval0
  refine (walk a0 cap0 ss0 W w0 lg0 ft0 n0).mono fun e W' ⟨he, bel⟩ => ?_
  subst he
  exact ⟨_, rfl, _, _, _, [], _, [], hW', trodAll_mk1 (shut_bool Try.underlying4 _), (trodAll_cons_mk (Below.trod laidOut (by kernel_rfl) (of_decide_eq_true (by kernel_rfl)) k0 bel lt0) trodAll_mk0), rfl, bel.frame _, fun h => by cases h⟩

theorem over : Rows.fnExactReverseHunksRow.holds Try.pinned (OpenSpec.ofChange Rows.fnExactReverseHunksSpec) :=
  OpenClaim.holds_of_wide 4 Try.f4 rfl rfl rfl rfl rfl rfl rfl ⟨rfl, rfl, rfl, rfl, rfl⟩ rfl rfl rfl rfl rfl (by kernel_rfl) Try.func4 (by kernel_rfl)
    (of_decide_eq_true (by kernel_rfl)) (by unfold Func.isWrapper; first | (rw [if_pos (by decide +kernel)]; kernel_rfl) | (rw [if_neg (by decide +kernel)]; exact ⟨rfl, rfl⟩))
    (fun os started H enc _ => lifted os started H enc)

theorem proved : Rows.FnExactReverseHunksSaid := over
end Go.Proofs.Ytidjcjeiigjmaai.RvLaw
namespace Go.Proofs.Ytidjcjeiigjmaai
theorem fnExactReverseHunks_proved : Rows.FnExactReverseHunksSaid := RvLaw.proved
end Go.Proofs.Ytidjcjeiigjmaai
