/- Proved: at every hunk FnExactSizesOf returns true (SizesOf answers as its specification, field by field; its answer owns its memory, behind another call too; the hunk is not changed). No condition: FnExactSizesOfSaid itself. -/
import Derived.Test.YtidjcjeiigjmaaiRows
import Derived.Test.YtidjcjeiigjmaaiLem
import Derived.Test.YtidjcjeiigjmaaiStrs
import Derived.Test.YtidjcjeiigjmaaiMarks
import Derived.Test.YtidjcjeiigjmaaiHeld
import Derived.Test.YtidjcjeiigjmaaiLFLem
import Derived.Test.YtidjcjeiigjmaaiLF
import Derived.Test.YtidjcjeiigjmaaiDTab
import Derived.Test.YtidjcjeiigjmaaiOwn
import Derived.Test.YtidjcjeiigjmaaiFr
import Derived.Test.YtidjcjeiigjmaaiIntS
import Derived.Test.YtidjcjeiigjmaaiHkL
import Derived.Test.YtidjcjeiigjmaaiHkC
import Derived.Test.YtidjcjeiigjmaaiHkS
import Derived.Test.YtidjcjeiigjmaaiHkT
import Derived.Test.YtidjcjeiigjmaaiHkE
import Derived.Test.YtidjcjeiigjmaaiInR
import Derived.Test.YtidjcjeiigjmaaiOpH
import Derived.WalkKit
import Derived.ProofKit
import Derived.OpenShut
import Derived.Below
import Derived.Carry
import Derived.Deep.QuietTactic
import Derived.BigQuiet
import Derived.Deep.RegionWith
import Derived.Deep.Cut
import Derived.Deep.CutRange
namespace Go.Proofs.Ytidjcjeiigjmaai.SzLaw
open Go.ChangeShapes Go.WideShapes Go.ChangeAt Go.RowKit

theorem ownOne (b n cap : Nat) : ∀ j, (Value.slice (some ⟨b, 0, none⟩) n cap).ownBlock = some j → b ≤ j ∧ j < b + 1 := by
  intro j hj
  have e : b = j := by simpa [Value.ownBlock] using hj
  omega

set_option maxRecDepth 20000 in
set_option maxHeartbeats 4000000 in
theorem walk (x0 x1 : Int) (a : Option Addr) (c : Nat) (ss : List ByteArray) (w : World) (h1 : SS w a ss) (hn : ss.length ≤ 9223372036854775807) :
    Calls Try.prog 5 #[.agg #[.int .i64 x0, .int .i64 x1, .slice a ss.length c]] w fun e w' => e = .returned (.bool true) ∧ Below w.heap.size w w' := by
  obtain ⟨W, hW⟩ : ∃ W, w.alloc (.cells #[.int .i64 x0, .int .i64 x1, .slice a ss.length c] 45) = W := ⟨_, rfl⟩
  have RB : Rs W w.heap.size [.int .i64 x0, .int .i64 x1, .slice a ss.length c] := by rw [← hW]; exact Rs.new _ _ _
  have BB : Below w.heap.size w W := by rw [← hW]; exact allocBelow _ _
  have zW : w.heap.size < W.heap.size := by rw [← hW]; simp
  have A1 : SSB w.heap.size W a ss := h1.toB.below BB
  have dB0 := RB 0 _ rfl
  have dB1 := RB 1 _ rfl
  have dB2 := RB 2 _ rfl
  have hsz := fun W h => szHunk x0 x1 a c ss 1048576 W h hn (by omega) (by omega)
  by_cases hx : left 1048576 ss < 0
  · go_enter Try.func5, Try.ntmps5
    go_wp2_with fail
    refine (hsz _ (A1.toSS (by omega))).mono ?_; rintro e w1 ⟨rfl, b⟩
    have BB1 := BB.trans (b.mono BB.size)
    clear b
    go_wp2_with fail
    go_ret
    exact ⟨rfl, BB1⟩
  obtain ⟨e1, g1, k1⟩ := left_ge hx
  have ht := tot_nonneg ss
  have hss : ss.length ≤ 1048576 := by omega
  have zx := h1.1
  have hS := fun (a : Option Addr) (c : Nat) W h => specSizesOf x0 x1 a c ss W h hss
  have hI := fun (a : Option Addr) (c : Nat) W h => implSizesOf x0 x1 a c ss W h hss
  have hT := fun W h => toHunk x0 x1 a c ss W h hss
  have hLn := szV_length ss
  obtain ⟨r, hr⟩ : ∃ r, szC ss = r := ⟨_, rfl⟩
  obtain ⟨L, hL⟩ : ∃ L, szV ss = L := ⟨_, rfl⟩
  rw [hr, hL] at hS hI
  rw [hL] at hLn
  clear hr hL e1 g1 k1 ht h1
  go_enter Try.func5, Try.ntmps5
  go_wp2_with fail
  refine (hsz _ (A1.toSS (by omega))).mono ?_; rintro e w1 ⟨rfl, b⟩
  clear hsz
  have F1 : Fr w.heap.size w.heap.size W w1 := Fr.ofBelow b
  replace A1 := F1.ssb A1 (by omega)
  replace BB := F1.below BB (by omega) (by omega)
  replace RB := F1.rs RB (by omega)
  have SF1 := F1.size
  clear b F1
  clear dB0 dB1 dB2
  have dB0 := RB 0 _ rfl
  have dB1 := RB 1 _ rfl
  have dB2 := RB 2 _ rfl
  go_wp2_with fail
  refine (hT _ (A1.toSS (by omega))).mono ?_; rintro e w2 ⟨gx, zgx, rfl, x, b⟩
  have F3 : Fr w.heap.size w.heap.size w1 w2 := Fr.ofBelow b
  replace A1 := F3.ssb A1 (by omega)
  replace BB := F3.below BB (by omega) (by omega)
  replace RB := F3.rs RB (by omega)
  have SF3 := F3.size
  clear b F3
  clear dB0 dB1 dB2
  have dB0 := RB 0 _ rfl
  have dB1 := RB 1 _ rfl
  have dB2 := RB 2 _ rfl
  go_wp2_with fail
  refine (hS _ _ _ (ownSS x zx)).mono ?_; rintro e w4 ⟨v, rfl, hp, bp⟩
  obtain ⟨pa, pc, rfl⟩ := shapeS hp
  have p1 := hp
  have jp1 : ∀ j, (Value.slice pa L.length pc).ownBlock = some j → w2.heap.size ≤ j ∧ j < w4.heap.size := fun j hj => p1.lt j hj
  clear hp
  have F5 : Fr w.heap.size w.heap.size w2 w4 := Fr.ofBelow bp
  replace A1 := F5.ssb A1 (by omega)
  replace BB := F5.below BB (by omega) (by omega)
  replace RB := F5.rs RB (by omega)
  have SF5 := F5.size
  clear bp F5
  clear dB0 dB1 dB2
  have dB0 := RB 0 _ rfl
  have dB1 := RB 1 _ rfl
  have dB2 := RB 2 _ rfl
  clear x
  obtain ⟨W6, hW6⟩ : ∃ W, w4.alloc (.cells #[.int .i64 r, .slice pa L.length pc] 49) = W := ⟨_, rfl⟩
  have Rp : Rs W6 w4.heap.size [.int .i64 r, .slice pa L.length pc] := by rw [← hW6]; exact Rs.new _ _ _
  have F7 : Fr w.heap.size w.heap.size w4 W6 := by rw [← hW6]; exact Fr.ofAlloc _ _
  have zW6 : w4.heap.size < W6.heap.size := by rw [← hW6]; simp
  replace A1 := F7.ssb A1 (by omega)
  replace BB := F7.below BB (by omega) (by omega)
  replace RB := F7.rs RB (by omega)
  replace p1 := F7.own p1 (fun j hj => by have := jp1 j hj; omega)
  have SF7 := F7.size
  clear F7
  clear dB0 dB1 dB2
  have dB0 := RB 0 _ rfl
  have dB1 := RB 1 _ rfl
  have dB2 := RB 2 _ rfl
  go_wp2_with fail
  refine (hT _ (A1.toSS (by omega))).mono ?_; rintro e w8 ⟨gX, zgX, rfl, X, b⟩
  have F9 : Fr w.heap.size w.heap.size W6 w8 := Fr.ofBelow b
  replace A1 := F9.ssb A1 (by omega)
  replace BB := F9.below BB (by omega) (by omega)
  replace RB := F9.rs RB (by omega)
  replace p1 := F9.own p1 (fun j hj => by have := jp1 j hj; omega)
  replace Rp := F9.rs Rp (by omega)
  have SF9 := F9.size
  clear b F9
  clear dB0 dB1 dB2
  have dB0 := RB 0 _ rfl
  have dB1 := RB 1 _ rfl
  have dB2 := RB 2 _ rfl
  clear hW6
  have jX : ∀ j, (Value.slice (some ⟨gX, 0, none⟩) ss.length ss.length).ownBlock = some j → W6.heap.size ≤ j ∧ j < w8.heap.size := fun j hj => X.lt j hj
  have zgX2 := (X.lt gX rfl).2
  obtain ⟨W10, hW10⟩ : ∃ W, w8.alloc (.cells #[.int .i64 x0, .int .i64 x1, .slice (some ⟨gX, 0, none⟩) ss.length ss.length] 51) = W := ⟨_, rfl⟩
  have RX : Rs W10 w8.heap.size [.int .i64 x0, .int .i64 x1, .slice (some ⟨gX, 0, none⟩) ss.length ss.length] := by rw [← hW10]; exact Rs.new _ _ _
  have F11 : Fr w.heap.size w.heap.size w8 W10 := by rw [← hW10]; exact Fr.ofAlloc _ _
  have zW10 : w8.heap.size < W10.heap.size := by rw [← hW10]; simp
  replace A1 := F11.ssb A1 (by omega)
  replace BB := F11.below BB (by omega) (by omega)
  replace RB := F11.rs RB (by omega)
  replace p1 := F11.own p1 (fun j hj => by have := jp1 j hj; omega)
  replace Rp := F11.rs Rp (by omega)
  replace X := F11.own X (fun j hj => by have := jX j hj; omega)
  have SF11 := F11.size
  clear F11
  clear dB0 dB1 dB2
  have dB0 := RB 0 _ rfl
  have dB1 := RB 1 _ rfl
  have dB2 := RB 2 _ rfl
  have dX0 := RX 0 _ rfl
  have dX1 := RX 1 _ rfl
  have dX2 := RX 2 _ rfl
  go_wp2_with fail
  refine (hI _ _ _ (ownSS X zx)).mono ?_; rintro e w12 ⟨v, rfl, hq, bq⟩
  obtain ⟨qa, qc, rfl⟩ := shapeS hq
  have q1 := hq
  have jq1 : ∀ j, (Value.slice qa L.length qc).ownBlock = some j → W10.heap.size ≤ j ∧ j < w12.heap.size := fun j hj => q1.lt j hj
  clear hq
  have F13 : Fr w.heap.size w.heap.size W10 w12 := Fr.ofBelow bq
  replace A1 := F13.ssb A1 (by omega)
  replace BB := F13.below BB (by omega) (by omega)
  replace RB := F13.rs RB (by omega)
  replace p1 := F13.own p1 (fun j hj => by have := jp1 j hj; omega)
  replace Rp := F13.rs Rp (by omega)
  replace X := F13.own X (fun j hj => by have := jX j hj; omega)
  replace RX := F13.rs RX (by omega)
  have SF13 := F13.size
  clear bq F13
  clear dB0 dB1 dB2
  have dB0 := RB 0 _ rfl
  have dB1 := RB 1 _ rfl
  have dB2 := RB 2 _ rfl
  clear hW10
  clear dX0 dX1 dX2
  obtain ⟨W14, hW14⟩ : ∃ W, w12.alloc (.cells #[.int .i64 r, .slice qa L.length qc] 49) = W := ⟨_, rfl⟩
  have Rq : Rs W14 w12.heap.size [.int .i64 r, .slice qa L.length qc] := by rw [← hW14]; exact Rs.new _ _ _
  have F15 : Fr w.heap.size w.heap.size w12 W14 := by rw [← hW14]; exact Fr.ofAlloc _ _
  have zW14 : w12.heap.size < W14.heap.size := by rw [← hW14]; simp
  replace A1 := F15.ssb A1 (by omega)
  replace BB := F15.below BB (by omega) (by omega)
  replace RB := F15.rs RB (by omega)
  replace p1 := F15.own p1 (fun j hj => by have := jp1 j hj; omega)
  replace Rp := F15.rs Rp (by omega)
  replace X := F15.own X (fun j hj => by have := jX j hj; omega)
  replace RX := F15.rs RX (by omega)
  replace q1 := F15.own q1 (fun j hj => by have := jq1 j hj; omega)
  have SF15 := F15.size
  clear F15
  clear dB0 dB1 dB2
  have dB0 := RB 0 _ rfl
  have dB1 := RB 1 _ rfl
  have dB2 := RB 2 _ rfl
  have dp0 := Rp 0 _ rfl
  have dp1 := Rp 1 _ rfl
  have dq0 := Rq 0 _ rfl
  have dq1 := Rq 1 _ rfl
  go_wp2_with fail
  refine (eqIntsResult _ _ _ L.length _ _ (irOf q1) (irOf p1) (by omega)).mono ?_; rintro e w16 ⟨rfl, b⟩
  have F17 : Fr w.heap.size w.heap.size W14 w16 := Fr.ofBelow b
  replace A1 := F17.ssb A1 (by omega)
  replace BB := F17.below BB (by omega) (by omega)
  replace RB := F17.rs RB (by omega)
  replace p1 := F17.own p1 (fun j hj => by have := jp1 j hj; omega)
  replace Rp := F17.rs Rp (by omega)
  replace X := F17.own X (fun j hj => by have := jX j hj; omega)
  replace RX := F17.rs RX (by omega)
  replace q1 := F17.own q1 (fun j hj => by have := jq1 j hj; omega)
  replace Rq := F17.rs Rq (by omega)
  have SF17 := F17.size
  clear b F17
  clear dB0 dB1 dB2
  have dB0 := RB 0 _ rfl
  have dB1 := RB 1 _ rfl
  have dB2 := RB 2 _ rfl
  clear dp0 dp1
  clear dq0 dq1
  clear hW14
  have dX0 := RX 0 _ rfl
  have dX1 := RX 1 _ rfl
  have dX2 := RX 2 _ rfl
  go_upto_region 10 with fail
  go_cut [31] from 27 to 68 (fun s wx => s = .bool false ∧ Below w16.heap.size w16 wx)
  case first =>
    have BD : Below w16.heap.size w16 w16.drew := (Below.refl _ _).drew
    have AD := A1.below BD
    have XD := X.kept (grownOfBelow BD none) (blockCases _ _ fun _ _ e => by cases e)
    have hX0 := dX0
    have hX1 := dX1
    have hX2 := dX2
    have zd : w16.drew.heap.size = w16.heap.size := rfl
    go_region_with (first | (go_at_call 26; refine (hT _ (AD.toSS (by rw [zd]; omega))).mono ?_; rintro e wt ⟨gt, zt, rfl, xt, bt⟩; have hX0 := (Fr.ofBelow (lo := 0) (hi := 0) bt).cell hX0 (.inr (Nat.zero_le _)); have hX1 := (Fr.ofBelow (lo := 0) (hi := 0) bt).cell hX1 (.inr (Nat.zero_le _)); have hX2 := (Fr.ofBelow (lo := 0) (hi := 0) bt).cell hX2 (.inr (Nat.zero_le _)); have Xt := (Fr.ofBelow (lo := 0) (hi := 0) bt).own XD (fun j _ => .inr (Nat.zero_le _))) | (go_at_call 29; refine (eqHunk x0 x1 _ _ _ _ ss _ (ownSS Xt zx) (ownSS xt zx) hss).mono ?_; rintro e wu ⟨rfl, bu⟩))
    all_goals (go_wp2_with fail; go_meet; exact ⟨rfl, below_step (BD.trans bt) (by have := bt.size; omega) bu⟩)
  case rest =>
  obtain ⟨rfl, b⟩ := hcut
  clear dX0 dX1 dX2
  have F18 : Fr w.heap.size w.heap.size w16 wc := Fr.ofBelow b
  replace A1 := F18.ssb A1 (by omega)
  replace BB := F18.below BB (by omega) (by omega)
  replace RB := F18.rs RB (by omega)
  replace p1 := F18.own p1 (fun j hj => by have := jp1 j hj; omega)
  replace Rp := F18.rs Rp (by omega)
  replace X := F18.own X (fun j hj => by have := jX j hj; omega)
  replace RX := F18.rs RX (by omega)
  replace q1 := F18.own q1 (fun j hj => by have := jq1 j hj; omega)
  replace Rq := F18.rs Rq (by omega)
  have SF18 := F18.size
  clear b F18
  clear dB0 dB1 dB2
  have dB0 := RB 0 _ rfl
  have dB1 := RB 1 _ rfl
  have dB2 := RB 2 _ rfl
  have dX0 := RX 0 _ rfl
  have dX1 := RX 1 _ rfl
  have dX2 := RX 2 _ rfl
  go_wp2_with fail
  refine (markHunk x0 x1 _ _ _ _ 1 _ _ (by omega) (by omega) X).mono ?_; rintro e w19 ⟨rfl, gg⟩
  have F20 : Fr gX (gX + 1) wc w19 := Fr.ofGrown gg (ownOne _ _ _)
  clear dX0 dX1 dX2
  clear gg X RX
  replace A1 := F20.ssb A1 (by omega)
  replace BB := F20.below BB (by omega) (by omega)
  replace RB := F20.rs RB (by omega)
  replace p1 := F20.own p1 (fun j hj => by have := jp1 j hj; omega)
  replace Rp := F20.rs Rp (by omega)
  replace q1 := F20.own q1 (fun j hj => by have := jq1 j hj; omega)
  replace Rq := F20.rs Rq (by omega)
  have SF20 := F20.size
  clear F20
  clear dB0 dB1 dB2
  have dB0 := RB 0 _ rfl
  have dB1 := RB 1 _ rfl
  have dB2 := RB 2 _ rfl
  obtain ⟨K, hK⟩ : ∃ K : Int, ((1 + ss.length : Nat) : Int) = K := ⟨_, rfl⟩
  have hK0 : ¬ K < 0 := by omega
  rw [hK]
  clear hK
  have dp0 := Rp 0 _ rfl
  have dp1 := Rp 1 _ rfl
  have dq0 := Rq 0 _ rfl
  have dq1 := Rq 1 _ rfl
  go_wp2_with fail
  refine (eqIntsResult _ _ _ L.length _ _ (irOf q1) (irOf p1) (by omega)).mono ?_; rintro e w21 ⟨rfl, b⟩
  have F22 : Fr w.heap.size w.heap.size w19 w21 := Fr.ofBelow b
  replace A1 := F22.ssb A1 (by omega)
  replace BB := F22.below BB (by omega) (by omega)
  replace RB := F22.rs RB (by omega)
  replace p1 := F22.own p1 (fun j hj => by have := jp1 j hj; omega)
  replace Rp := F22.rs Rp (by omega)
  replace q1 := F22.own q1 (fun j hj => by have := jq1 j hj; omega)
  replace Rq := F22.rs Rq (by omega)
  have SF22 := F22.size
  clear b F22
  clear dB0 dB1 dB2
  have dB0 := RB 0 _ rfl
  have dB1 := RB 1 _ rfl
  have dB2 := RB 2 _ rfl
  clear dp0 dp1
  clear dq0 dq1
  have dq0 := Rq 0 _ rfl
  have dq1 := Rq 1 _ rfl
  go_wp2_with fail
  refine (markIntsResult W10.heap.size w12.heap.size _ _ L.length 1 _ _ (by omega) q1 (fun j hj => (jq1 j hj).2)).mono ?_; rintro e w23 ⟨rfl, m1, FM⟩
  clear q1
  clear dq0 dq1
  replace A1 := FM.ssb A1 (by omega)
  replace BB := FM.below BB (by omega) (by omega)
  replace RB := FM.rs RB (by omega)
  replace p1 := FM.own p1 (fun j hj => by have := jp1 j hj; omega)
  replace Rp := FM.rs Rp (by omega)
  replace Rq := FM.rs Rq (by omega)
  have SFM := FM.size
  clear FM
  clear dB0 dB1 dB2
  have dB0 := RB 0 _ rfl
  have dB1 := RB 1 _ rfl
  have dB2 := RB 2 _ rfl
  obtain ⟨M, hM⟩ : ∃ M : Int, ((1 + L.length : Nat) : Int) = M := ⟨_, rfl⟩
  have hM0 : ¬ M < 0 := by omega
  have hMM : (M != M) = false := by simp
  rw [hM]
  have dq0 := Rq 0 _ rfl
  have dq1 := Rq 1 _ rfl
  go_wp2_with fail
  refine (heldIntsResult _ _ L.length 1 _ (by omega) (irMarks m1)).mono ?_; rintro e w24 ⟨rfl, b⟩
  rw [hM]
  clear dq0 dq1
  have F25 : Fr w.heap.size w.heap.size w23 w24 := Fr.ofBelow b
  replace A1 := F25.ssb A1 (by omega)
  replace BB := F25.below BB (by omega) (by omega)
  replace RB := F25.rs RB (by omega)
  replace p1 := F25.own p1 (fun j hj => by have := jp1 j hj; omega)
  replace Rp := F25.rs Rp (by omega)
  replace Rq := F25.rs Rq (by omega)
  replace m1 := F25.own m1 (fun j hj => by have := jq1 j hj; omega)
  have SF25 := F25.size
  clear b F25
  clear dB0 dB1 dB2
  have dB0 := RB 0 _ rfl
  have dB1 := RB 1 _ rfl
  have dB2 := RB 2 _ rfl
  go_wp2_with fail
  refine (hT _ (A1.toSS (by omega))).mono ?_; rintro e w26 ⟨gy, zgy, rfl, y, b⟩
  have F27 : Fr w.heap.size w.heap.size w24 w26 := Fr.ofBelow b
  replace A1 := F27.ssb A1 (by omega)
  replace BB := F27.below BB (by omega) (by omega)
  replace RB := F27.rs RB (by omega)
  replace p1 := F27.own p1 (fun j hj => by have := jp1 j hj; omega)
  replace Rp := F27.rs Rp (by omega)
  replace Rq := F27.rs Rq (by omega)
  replace m1 := F27.own m1 (fun j hj => by have := jq1 j hj; omega)
  have SF27 := F27.size
  clear b F27
  clear dB0 dB1 dB2
  have dB0 := RB 0 _ rfl
  have dB1 := RB 1 _ rfl
  have dB2 := RB 2 _ rfl
  go_wp2_with fail
  refine (hI _ _ _ (ownSS y zx)).mono ?_; rintro e w28 ⟨v, rfl, hs, bs⟩
  obtain ⟨sa, sc, rfl⟩ := shapeS hs
  have s1 := hs
  have js1 : ∀ j, (Value.slice sa L.length sc).ownBlock = some j → w26.heap.size ≤ j ∧ j < w28.heap.size := fun j hj => s1.lt j hj
  clear hs
  have F29 : Fr w.heap.size w.heap.size w26 w28 := Fr.ofBelow bs
  replace A1 := F29.ssb A1 (by omega)
  replace BB := F29.below BB (by omega) (by omega)
  replace RB := F29.rs RB (by omega)
  replace p1 := F29.own p1 (fun j hj => by have := jp1 j hj; omega)
  replace Rp := F29.rs Rp (by omega)
  replace Rq := F29.rs Rq (by omega)
  replace m1 := F29.own m1 (fun j hj => by have := jq1 j hj; omega)
  have SF29 := F29.size
  clear bs F29
  clear dB0 dB1 dB2
  have dB0 := RB 0 _ rfl
  have dB1 := RB 1 _ rfl
  have dB2 := RB 2 _ rfl
  clear y
  obtain ⟨W30, hW30⟩ : ∃ W, w28.alloc (.cells #[.int .i64 r, .slice sa L.length sc] 49) = W := ⟨_, rfl⟩
  have Rs : Rs W30 w28.heap.size [.int .i64 r, .slice sa L.length sc] := by rw [← hW30]; exact Rs.new _ _ _
  have F31 : Fr w.heap.size w.heap.size w28 W30 := by rw [← hW30]; exact Fr.ofAlloc _ _
  have zW30 : w28.heap.size < W30.heap.size := by rw [← hW30]; simp
  replace A1 := F31.ssb A1 (by omega)
  replace BB := F31.below BB (by omega) (by omega)
  replace RB := F31.rs RB (by omega)
  replace p1 := F31.own p1 (fun j hj => by have := jp1 j hj; omega)
  replace Rp := F31.rs Rp (by omega)
  replace Rq := F31.rs Rq (by omega)
  replace m1 := F31.own m1 (fun j hj => by have := jq1 j hj; omega)
  replace s1 := F31.own s1 (fun j hj => by have := js1 j hj; omega)
  have SF31 := F31.size
  clear F31
  clear dB0 dB1 dB2
  have dB0 := RB 0 _ rfl
  have dB1 := RB 1 _ rfl
  have dB2 := RB 2 _ rfl
  have dp0 := Rp 0 _ rfl
  have dp1 := Rp 1 _ rfl
  have ds0 := Rs 0 _ rfl
  have ds1 := Rs 1 _ rfl
  go_wp2_with fail
  refine (eqIntsResult _ _ _ L.length _ _ (irOf s1) (irOf p1) (by omega)).mono ?_; rintro e w32 ⟨rfl, b⟩
  have F33 : Fr w.heap.size w.heap.size W30 w32 := Fr.ofBelow b
  replace A1 := F33.ssb A1 (by omega)
  replace BB := F33.below BB (by omega) (by omega)
  replace RB := F33.rs RB (by omega)
  replace p1 := F33.own p1 (fun j hj => by have := jp1 j hj; omega)
  replace Rp := F33.rs Rp (by omega)
  replace Rq := F33.rs Rq (by omega)
  replace m1 := F33.own m1 (fun j hj => by have := jq1 j hj; omega)
  replace s1 := F33.own s1 (fun j hj => by have := js1 j hj; omega)
  replace Rs := F33.rs Rs (by omega)
  have SF33 := F33.size
  clear b F33
  clear dB0 dB1 dB2
  have dB0 := RB 0 _ rfl
  have dB1 := RB 1 _ rfl
  have dB2 := RB 2 _ rfl
  clear dp0 dp1
  clear ds0 ds1
  clear hW30
  have dq0 := Rq 0 _ rfl
  have dq1 := Rq 1 _ rfl
  go_wp2_with fail
  refine (heldIntsResult _ _ L.length 1 _ (by omega) (irMarks m1)).mono ?_; rintro e w34 ⟨rfl, b⟩
  rw [hM]
  clear dq0 dq1
  have F35 : Fr w.heap.size w.heap.size w32 w34 := Fr.ofBelow b
  replace A1 := F35.ssb A1 (by omega)
  replace BB := F35.below BB (by omega) (by omega)
  replace RB := F35.rs RB (by omega)
  replace p1 := F35.own p1 (fun j hj => by have := jp1 j hj; omega)
  replace Rp := F35.rs Rp (by omega)
  replace Rq := F35.rs Rq (by omega)
  replace m1 := F35.own m1 (fun j hj => by have := jq1 j hj; omega)
  replace s1 := F35.own s1 (fun j hj => by have := js1 j hj; omega)
  replace Rs := F35.rs Rs (by omega)
  have SF35 := F35.size
  clear b F35
  clear dB0 dB1 dB2
  have dB0 := RB 0 _ rfl
  have dB1 := RB 1 _ rfl
  have dB2 := RB 2 _ rfl
  go_wp2_with fail
  go_ret
  exact ⟨rfl, BB⟩

set_option linter.unusedVariables false
theorem laidOut : laidOutB Try.prog = true := by kernel_rfl
theorem own : ownKnob Try.prog.godebug = none := by kernel_rfl
set_option maxRecDepth 100000 in
theorem lifted (os : Os) (started : os.Started) (H : Type) (enc : TypeId × Value → H) :
    ReturnsInHanded {} Try.checked os 5 .any (Rows.fnExactSizesOfSpec.pre6 enc Try.prog Try.f5 Rows.fnExactSizesOfRow.domain false) (Rows.fnExactSizesOfSpec.post enc Try.prog Try.f5 false true false false) := by
  refine returnsInHanded_of_change (C := Try.checked) own started (by kernel_rfl) Try.func5
    (ChangeSpec.witness6 (enc := enc) (C := Try.checked) false ⟨#[], #[.agg #[.int .i64 0, .int .i64 0, .slice none 0 0]], []⟩ 8 (by kernel_rfl) (by kernel_rfl) (by kernel_rfl) (by kernel_rfl)) ?_
  intro W base args ds gs before hval0 hW hcnd _
  have hval : ∀ (j : Nat) t v, Try.f5.params[j]? = some t → args[j]? = some v → Value.okWide Try.prog W .any base t v := hval0
  have hW' := hW
  obtain ⟨p, q, hA0, hV, rfl, hfz, hnd⟩ := hW
  have hA : DataW.TrodAll enc Try.prog W 0 (fun _ => true) true Try.f5.params.toList args.toList ds p := hA0
  rw [Try.params5] at hA hval
  obtain ⟨v0, vs0, d0, ds0, p0, q0, hargs, rfl, rfl, h0, r0⟩ := trodAll_cons hA
  obtain ⟨rfl, rfl, rfl⟩ := trodAll_nil r0
  obtain rfl : args = #[v0] := by cases args; simp_all
  obtain ⟨rfl, rfl⟩ := trodVars_none hV
  obtain ⟨cs, rfl, hcs⟩ := okWide_struct Try.underlying45 (hval 0 45 v0 rfl rfl)
  have k0 := h0
  have lt0 : ∀ x ∈ p0, x.block < W.heap.size := by obtain ⟨m, hm⟩ := k0; exact DataW.trod_lt m _ _ _ hm
  obtain ⟨x0, x1, a0, cap0, ss0, hcc, w0, n0⟩ : ∃ x0 x1 a cap ss, cs.toList = [.int .i64 x0, .int .i64 x1, .slice a ss.length cap] ∧ SS W a ss ∧ ss.length ≤ 9223372036854775807 := by
    obtain ⟨m, hm⟩ := k0
    exact openHk hm lt0
  obtain rfl : cs = #[.int .i64 x0, .int .i64 x1, .slice a0 ss0.length cap0] := by
    cases cs; simp_all
  clear hA0 hval0
  refine (walk x0 x1 a0 cap0 ss0 W w0 n0).mono fun e W' ⟨he, bel⟩ => ?_
  subst he
  exact ⟨_, rfl, _, _, _, [], _, [], hW', trodAll_mk1 (shut_bool Try.underlying4 _), (trodAll_cons_mk (Below.trod laidOut (by kernel_rfl) (of_decide_eq_true (by kernel_rfl)) k0 bel lt0) trodAll_mk0), rfl, bel.frame _, fun h => by cases h⟩

theorem over : Rows.fnExactSizesOfRow.holds Try.pinned (OpenSpec.ofChange Rows.fnExactSizesOfSpec) :=
  OpenClaim.holds_of_wide 5 Try.f5 rfl rfl rfl rfl rfl rfl rfl ⟨rfl, rfl, rfl, rfl, rfl⟩ rfl rfl rfl rfl rfl (by kernel_rfl) Try.func5 (by kernel_rfl)
    (of_decide_eq_true (by kernel_rfl)) (by unfold Func.isWrapper; first | (rw [if_pos (by decide +kernel)]; kernel_rfl) | (rw [if_neg (by decide +kernel)]; exact ⟨rfl, rfl⟩))
    (fun os started H enc _ => lifted os started H enc)

theorem proved : Rows.FnExactSizesOfSaid := over
end Go.Proofs.Ytidjcjeiigjmaai.SzLaw
namespace Go.Proofs.Ytidjcjeiigjmaai
theorem fnExactSizesOf_proved : Rows.FnExactSizesOfSaid := SzLaw.proved
end Go.Proofs.Ytidjcjeiigjmaai
