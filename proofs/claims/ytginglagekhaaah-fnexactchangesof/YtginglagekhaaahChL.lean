/- Proved: at every two lists of lines FnExactChangesOf returns true (ChangesOf answers as its specification, field by field; its answer owns its memory, behind another call too; neither list is changed). No condition: FnExactChangesOfSaid itself. -/
import Derived.Test.YtginglagekhaaahRows
import Derived.Test.YtginglagekhaaahLem
import Derived.Test.YtginglagekhaaahStrs
import Derived.Test.YtginglagekhaaahMarks
import Derived.Test.YtginglagekhaaahLFLem
import Derived.Test.YtginglagekhaaahLF
import Derived.Test.YtginglagekhaaahCom
import Derived.Test.YtginglagekhaaahAsked
import Derived.Test.YtginglagekhaaahDTab
import Derived.Test.YtginglagekhaaahSTab
import Derived.Test.YtginglagekhaaahPairs
import Derived.Test.YtginglagekhaaahIntS
import Derived.Test.YtginglagekhaaahFr
import Derived.Test.YtginglagekhaaahChg
import Derived.Test.YtginglagekhaaahEdC
import Derived.Test.YtginglagekhaaahChR
import Derived.WalkKit
import Derived.ProofKit
import Derived.OpenShut
import Derived.Below
import Derived.Carry
namespace Go.Proofs.Ytginglagekhaaah.ChLaw
open Go.ChangeShapes Go.WideShapes Go.ChangeAt Go.RowKit

theorem ownOne (b n cap : Nat) : ∀ j, (Value.slice (some ⟨b, 0, none⟩) n cap).ownBlock = some j → b ≤ j ∧ j < b + 1 := by
  intro j hj
  have e : b = j := by simpa [Value.ownBlock] using hj
  omega

set_option maxRecDepth 20000 in
set_option maxHeartbeats 4000000 in
theorem walk (a1 a2 : Option Addr) (c1 c2 : Nat) (xs ys : List ByteArray) (w : World) (h1 : SS w a1 xs) (h2 : SS w a2 ys) (hn : xs.length ≤ 9223372036854775807) (hm : ys.length ≤ 9223372036854775807) :
    Calls Try.prog 3 #[.slice a1 xs.length c1, .slice a2 ys.length c2] w fun e w' => e = .returned (.bool true) ∧ Below w.heap.size w w' := by
  by_cases hx : left 1048576 xs < 0
  · go_enter Try.func3, Try.ntmps3
    go_wp2_with (go_at_call 7; refine (szStringS _ _ _ _ _ h1 hn (by omega) (by omega)).mono ?_; rintro e w' ⟨rfl, rfl⟩)
    go_ret
    exact ⟨rfl, Below.refl _ _⟩
  obtain ⟨e1, g1, k1⟩ := left_ge hx
  have ht := tot_nonneg xs
  have hl0 : 0 ≤ left 1048576 xs := by omega
  have hl1 : left 1048576 xs ≤ 1048576 := by omega
  by_cases hy : left (left 1048576 xs) ys < 0
  · clear e1 hx
    go_enter Try.func3, Try.ntmps3
    go_wp2_with fail
    refine (szStringS _ _ _ _ _ h1 hn (by omega) (by omega)).mono ?_; rintro e w' ⟨rfl, rfl⟩
    go_wp2_with fail
    refine (szStringS _ _ _ _ _ h2 hm hl0 hl1).mono ?_; rintro e w' ⟨rfl, rfl⟩
    go_wp2_with fail
    go_ret
    exact ⟨rfl, Below.refl _ _⟩
  obtain ⟨e2, g2, k2⟩ := left_ge hy
  have ht2 := tot_nonneg ys
  have hxs : xs.length ≤ 1048576 := by omega
  have hys : ys.length ≤ 1048576 := by omega
  have htx : tot xs ≤ 1048576 := by omega
  have hty : tot ys ≤ 1048576 := by omega
  have zx := h1.1
  have zy := h2.1
  have hS : ∀ (a1 a2 : Option Addr) (c1 c2 : Nat) w, SS w a1 xs → SS w a2 ys → Calls Try.prog 8 #[.slice a1 xs.length c1, .slice a2 ys.length c2] w fun e w' => CP (asked xs ys) (chL xs ys) w e w' := fun a1 a2 c1 c2 w h1 h2 => specChangesOf a1 a2 c1 c2 xs ys w h1 h2 hxs htx hys hty
  have hI : ∀ (a1 a2 : Option Addr) (c1 c2 : Nat) w, SS w a1 xs → SS w a2 ys → Calls Try.prog 10 #[.slice a1 xs.length c1, .slice a2 ys.length c2] w fun e w' => CP (asked xs ys) (chL xs ys) w e w' := fun a1 a2 c1 c2 w h1 h2 => implChangesOf a1 a2 c1 c2 xs ys w h1 h2 hxs hys
  have hLn := chL_length xs ys
  obtain ⟨r, hr⟩ : ∃ r, asked xs ys = r := ⟨_, rfl⟩
  obtain ⟨L, hL⟩ : ∃ L, chL xs ys = L := ⟨_, rfl⟩
  rw [hr, hL] at hS hI
  rw [hL] at hLn
  clear hr hL
  clear e1 e2 g1 k1 g2 k2 ht ht2
  have A1 : SSB w.heap.size w a1 xs := h1
  have A2 : SSB w.heap.size w a2 ys := h2
  have BB := Below.refl w.heap.size w
  clear h1 h2
  go_enter Try.func3, Try.ntmps3
  go_wp2_with fail
  refine (szStringS _ _ _ _ _ (A1.toSS (Nat.le_refl _)) hn (by omega) (by omega)).mono ?_; rintro e w ⟨rfl, rfl⟩
  go_wp2_with fail
  refine (szStringS _ _ _ _ _ (A2.toSS (Nat.le_refl _)) hm hl0 hl1).mono ?_; rintro e w ⟨rfl, rfl⟩
  go_wp2_with fail
  refine (toStringS' _ _ _ _ (A1.toSS (by omega)) hxs).mono ?_; rintro e w1 ⟨rfl, x, b, zw1⟩
  have F2 : Fr w.heap.size w.heap.size w w1 := Fr.ofBelow b
  replace A1 := F2.ssb A1 (by omega)
  replace A2 := F2.ssb A2 (by omega)
  replace BB := F2.below BB (by omega) (by omega)
  have SF2 := F2.size
  clear b F2
  go_wp2_with fail
  refine (toStringS' _ _ _ _ (A2.toSS (by omega)) hys).mono ?_; rintro e w3 ⟨rfl, y, b, zw3⟩
  have F4 : Fr w.heap.size w.heap.size w1 w3 := Fr.ofBelow b
  replace A1 := F4.ssb A1 (by omega)
  replace A2 := F4.ssb A2 (by omega)
  replace BB := F4.below BB (by omega) (by omega)
  replace x := x.below b
  have SF4 := F4.size
  clear b F4
  go_wp2_with fail
  refine (hS _ _ _ _ _ x y).mono ?_; rintro e w5 ⟨v, rfl, hp, bp⟩
  obtain ⟨pa, pc, rfl, _⟩ := CB.of hp
  have p1 := hp
  have jp1 : ∀ j, (Value.slice pa L.length pc).ownBlock = some j → w3.heap.size ≤ j ∧ j < w5.heap.size := fun j hj => p1.lt j hj
  clear hp
  have F6 : Fr w.heap.size w.heap.size w3 w5 := Fr.ofBelow bp
  replace A1 := F6.ssb A1 (by omega)
  replace A2 := F6.ssb A2 (by omega)
  replace BB := F6.below BB (by omega) (by omega)
  replace x := x.below bp
  replace y := y.below bp
  have SF6 := F6.size
  clear F6 bp
  clear x y
  go_wp2_with fail
  obtain ⟨W7, hW7⟩ : ∃ W, w5.alloc (.cells #[.int .i64 r, .slice pa L.length pc] 26) = W := ⟨_, rfl⟩
  have Rp : Rs W7 w5.heap.size [.int .i64 r, .slice pa L.length pc] := by rw [← hW7]; exact Rs.new _ _ _
  have F8 : Fr w.heap.size w.heap.size w5 W7 := by rw [← hW7]; exact Fr.ofAlloc _ _
  have zW7 : w5.heap.size < W7.heap.size := by rw [← hW7]; simp
  rw [hW7]
  clear hW7
  replace A1 := F8.ssb A1 (by omega)
  replace A2 := F8.ssb A2 (by omega)
  replace BB := F8.below BB (by omega) (by omega)
  replace p1 := F8.own p1 (fun j hj => by have := jp1 j hj; omega)
  have SF8 := F8.size
  clear F8
  refine (toStringS _ _ _ _ (A1.toSS (by omega)) hxs).mono ?_; rintro e w9 ⟨rfl, X, b⟩
  have zw9 := size_of_owns X
  have F10 : Fr w.heap.size w.heap.size W7 w9 := Fr.ofBelow b
  replace A1 := F10.ssb A1 (by omega)
  replace A2 := F10.ssb A2 (by omega)
  replace BB := F10.below BB (by omega) (by omega)
  replace p1 := F10.own p1 (fun j hj => by have := jp1 j hj; omega)
  replace Rp := F10.rs Rp (by omega)
  have SF10 := F10.size
  clear b F10
  have jX : ∀ j, (Value.slice (some ⟨W7.heap.size, 0, none⟩) xs.length xs.length).ownBlock = some j → W7.heap.size ≤ j ∧ j < w9.heap.size := fun j hj => X.lt j hj
  go_wp2_with fail
  refine (toStringS _ _ _ _ (A2.toSS (by omega)) hys).mono ?_; rintro e w11 ⟨rfl, Y, b⟩
  have zw11 := size_of_owns Y
  have F12 : Fr w.heap.size w.heap.size w9 w11 := Fr.ofBelow b
  replace A1 := F12.ssb A1 (by omega)
  replace A2 := F12.ssb A2 (by omega)
  replace BB := F12.below BB (by omega) (by omega)
  replace p1 := F12.own p1 (fun j hj => by have := jp1 j hj; omega)
  replace Rp := F12.rs Rp (by omega)
  replace X := F12.own X (fun j hj => by have := jX j hj; omega)
  have SF12 := F12.size
  clear b F12
  have jY : ∀ j, (Value.slice (some ⟨w9.heap.size, 0, none⟩) ys.length ys.length).ownBlock = some j → w9.heap.size ≤ j ∧ j < w11.heap.size := fun j hj => Y.lt j hj
  go_wp2_with fail
  refine (hI _ _ _ _ _ (ownSS X zx) (ownSS Y zy)).mono ?_; rintro e w13 ⟨v, rfl, hq, bq⟩
  obtain ⟨qa, qc, rfl, _⟩ := CB.of hq
  have q1 := hq
  have jq1 : ∀ j, (Value.slice qa L.length qc).ownBlock = some j → w11.heap.size ≤ j ∧ j < w13.heap.size := fun j hj => q1.lt j hj
  clear hq
  have F14 : Fr w.heap.size w.heap.size w11 w13 := Fr.ofBelow bq
  replace A1 := F14.ssb A1 (by omega)
  replace A2 := F14.ssb A2 (by omega)
  replace BB := F14.below BB (by omega) (by omega)
  replace p1 := F14.own p1 (fun j hj => by have := jp1 j hj; omega)
  replace Rp := F14.rs Rp (by omega)
  replace X := F14.own X (fun j hj => by have := jX j hj; omega)
  replace Y := F14.own Y (fun j hj => by have := jY j hj; omega)
  have SF14 := F14.size
  clear F14 bq
  have d0 := fun o => (Fr.ofAlloc (lo := 0) (hi := 0) w13 o).cell (Rp 0 _ rfl) (.inr (Nat.zero_le _))
  have d1 := fun o => (Fr.ofAlloc (lo := 0) (hi := 0) w13 o).cell (Rp 1 _ rfl) (.inr (Nat.zero_le _))
  go_wp2_with fail
  obtain ⟨W15, hW15⟩ : ∃ W, w13.alloc (.cells #[.int .i64 r, .slice qa L.length qc] 26) = W := ⟨_, rfl⟩
  have Rq : Rs W15 w13.heap.size [.int .i64 r, .slice qa L.length qc] := by rw [← hW15]; exact Rs.new _ _ _
  have F16 : Fr w.heap.size w.heap.size w13 W15 := by rw [← hW15]; exact Fr.ofAlloc _ _
  have zW15 : w13.heap.size < W15.heap.size := by rw [← hW15]; simp
  rw [hW15]
  clear hW15
  clear d0 d1
  replace A1 := F16.ssb A1 (by omega)
  replace A2 := F16.ssb A2 (by omega)
  replace BB := F16.below BB (by omega) (by omega)
  replace p1 := F16.own p1 (fun j hj => by have := jp1 j hj; omega)
  replace Rp := F16.rs Rp (by omega)
  replace X := F16.own X (fun j hj => by have := jX j hj; omega)
  replace Y := F16.own Y (fun j hj => by have := jY j hj; omega)
  replace q1 := F16.own q1 (fun j hj => by have := jq1 j hj; omega)
  have SF16 := F16.size
  clear F16
  refine (eqChangesResult _ _ _ _ _ _ _ _ _ (cbOf q1) (cbOf p1) (by omega)).mono ?_; rintro e w17 ⟨rfl, b⟩
  have F18 : Fr w.heap.size w.heap.size W15 w17 := Fr.ofBelow b
  replace A1 := F18.ssb A1 (by omega)
  replace A2 := F18.ssb A2 (by omega)
  replace BB := F18.below BB (by omega) (by omega)
  replace p1 := F18.own p1 (fun j hj => by have := jp1 j hj; omega)
  replace Rp := F18.rs Rp (by omega)
  replace X := F18.own X (fun j hj => by have := jX j hj; omega)
  replace Y := F18.own Y (fun j hj => by have := jY j hj; omega)
  replace q1 := F18.own q1 (fun j hj => by have := jq1 j hj; omega)
  replace Rq := F18.rs Rq (by omega)
  have SF18 := F18.size
  clear b F18
  go_wp2_with fail
  refine (toStringS' _ _ _ _ (A1.toSS (by omega)) hxs).mono ?_; rintro e w19 ⟨rfl, x, b, zw19⟩
  have F20 : Fr w.heap.size w.heap.size w17 w19 := Fr.ofBelow b
  replace A1 := F20.ssb A1 (by omega)
  replace A2 := F20.ssb A2 (by omega)
  replace BB := F20.below BB (by omega) (by omega)
  replace p1 := F20.own p1 (fun j hj => by have := jp1 j hj; omega)
  replace Rp := F20.rs Rp (by omega)
  replace X := F20.own X (fun j hj => by have := jX j hj; omega)
  replace Y := F20.own Y (fun j hj => by have := jY j hj; omega)
  replace q1 := F20.own q1 (fun j hj => by have := jq1 j hj; omega)
  replace Rq := F20.rs Rq (by omega)
  have SF20 := F20.size
  clear b F20
  go_wp2_with fail
  refine (eqStringS _ _ _ _ _ _ _ (ownSS X zx) x hxs hxs).mono ?_; rintro e w' ⟨rfl, nw19, rfl⟩
  rw [eqB_self]
  clear x
  obtain ⟨w22, hw22⟩ : ∃ W, w19.drewN nw19 = W := ⟨_, rfl⟩
  have F21 : Fr w.heap.size w.heap.size w19 w22 := by rw [← hw22]; exact (Fr.refl _ _ _).drewN _
  rw [hw22]
  clear hw22
  replace A1 := F21.ssb A1 (by omega)
  replace A2 := F21.ssb A2 (by omega)
  replace BB := F21.below BB (by omega) (by omega)
  replace p1 := F21.own p1 (fun j hj => by have := jp1 j hj; omega)
  replace Rp := F21.rs Rp (by omega)
  replace X := F21.own X (fun j hj => by have := jX j hj; omega)
  replace Y := F21.own Y (fun j hj => by have := jY j hj; omega)
  replace q1 := F21.own q1 (fun j hj => by have := jq1 j hj; omega)
  replace Rq := F21.rs Rq (by omega)
  have SF21 := F21.size
  clear F21
  go_wp2_with fail
  refine (toStringS' _ _ _ _ (A2.toSS (by omega)) hys).mono ?_; rintro e w23 ⟨rfl, x, b, zw23⟩
  have F24 : Fr w.heap.size w.heap.size w22 w23 := Fr.ofBelow b
  replace A1 := F24.ssb A1 (by omega)
  replace A2 := F24.ssb A2 (by omega)
  replace BB := F24.below BB (by omega) (by omega)
  replace p1 := F24.own p1 (fun j hj => by have := jp1 j hj; omega)
  replace Rp := F24.rs Rp (by omega)
  replace X := F24.own X (fun j hj => by have := jX j hj; omega)
  replace Y := F24.own Y (fun j hj => by have := jY j hj; omega)
  replace q1 := F24.own q1 (fun j hj => by have := jq1 j hj; omega)
  replace Rq := F24.rs Rq (by omega)
  have SF24 := F24.size
  clear b F24
  go_wp2_with fail
  refine (eqStringS _ _ _ _ _ _ _ (ownSS Y zy) x hys hys).mono ?_; rintro e w' ⟨rfl, nw23, rfl⟩
  rw [eqB_self]
  clear x
  obtain ⟨w26, hw26⟩ : ∃ W, w23.drewN nw23 = W := ⟨_, rfl⟩
  have F25 : Fr w.heap.size w.heap.size w23 w26 := by rw [← hw26]; exact (Fr.refl _ _ _).drewN _
  rw [hw26]
  clear hw26
  replace A1 := F25.ssb A1 (by omega)
  replace A2 := F25.ssb A2 (by omega)
  replace BB := F25.below BB (by omega) (by omega)
  replace p1 := F25.own p1 (fun j hj => by have := jp1 j hj; omega)
  replace Rp := F25.rs Rp (by omega)
  replace X := F25.own X (fun j hj => by have := jX j hj; omega)
  replace Y := F25.own Y (fun j hj => by have := jY j hj; omega)
  replace q1 := F25.own q1 (fun j hj => by have := jq1 j hj; omega)
  replace Rq := F25.rs Rq (by omega)
  have SF25 := F25.size
  clear F25
  go_wp2_with fail
  refine (markStringS _ _ _ _ (1) _ _ (by omega) (by omega) X).mono ?_; rintro e w27 ⟨rfl, o, gg⟩
  have F28 : Fr W7.heap.size (W7.heap.size + 1) w26 w27 := Fr.ofGrown gg (ownOne _ _ _)
  clear o gg X
  replace A1 := F28.ssb A1 (by omega)
  replace A2 := F28.ssb A2 (by omega)
  replace BB := F28.below BB (by omega) (by omega)
  replace p1 := F28.own p1 (fun j hj => by have := jp1 j hj; omega)
  replace Rp := F28.rs Rp (by omega)
  replace Y := F28.own Y (fun j hj => by have := jY j hj; omega)
  replace q1 := F28.own q1 (fun j hj => by have := jq1 j hj; omega)
  replace Rq := F28.rs Rq (by omega)
  have SF28 := F28.size
  clear F28
  go_wp2_with fail
  refine (markStringS _ _ _ _ (1 + xs.length) _ _ (by omega) (by omega) Y).mono ?_; rintro e w29 ⟨rfl, o, gg⟩
  have F30 : Fr w9.heap.size (w9.heap.size + 1) w27 w29 := Fr.ofGrown gg (ownOne _ _ _)
  clear o gg Y
  replace A1 := F30.ssb A1 (by omega)
  replace A2 := F30.ssb A2 (by omega)
  replace BB := F30.below BB (by omega) (by omega)
  replace p1 := F30.own p1 (fun j hj => by have := jp1 j hj; omega)
  replace Rp := F30.rs Rp (by omega)
  replace q1 := F30.own q1 (fun j hj => by have := jq1 j hj; omega)
  replace Rq := F30.rs Rq (by omega)
  have SF30 := F30.size
  clear F30
  obtain ⟨K, hK⟩ : ∃ K : Int, ((1 + xs.length + ys.length : Nat) : Int) = K := ⟨_, rfl⟩
  have hK0 : ¬ K < 0 := by omega
  rw [hK]
  clear hK
  have dp0 := Rp 0 _ rfl
  have dp1 := Rp 1 _ rfl
  have dq0 := Rq 0 _ rfl
  have dq1 := Rq 1 _ rfl
  go_wp2_with fail
  refine (eqChangesResult _ _ _ _ _ _ _ _ _ (cbOf q1) (cbOf p1) (by omega)).mono ?_; rintro e w31 ⟨rfl, b⟩
  have F32 : Fr w.heap.size w.heap.size w29 w31 := Fr.ofBelow b
  replace A1 := F32.ssb A1 (by omega)
  replace A2 := F32.ssb A2 (by omega)
  replace BB := F32.below BB (by omega) (by omega)
  replace p1 := F32.own p1 (fun j hj => by have := jp1 j hj; omega)
  replace Rp := F32.rs Rp (by omega)
  replace q1 := F32.own q1 (fun j hj => by have := jq1 j hj; omega)
  replace Rq := F32.rs Rq (by omega)
  have SF32 := F32.size
  clear b F32
  clear dp0 dp1
  clear dq0 dq1
  have dq0 := Rq 0 _ rfl
  have dq1 := Rq 1 _ rfl
  go_wp2_with fail
  refine (markChangesResult w11.heap.size w13.heap.size _ _ _ L.length 1 _ _ (by omega) q1 (fun j hj => (jq1 j hj).2)).mono ?_; rintro e w33 ⟨rfl, m1, FM⟩
  clear q1
  clear dq0 dq1
  replace A1 := FM.ssb A1 (by omega)
  replace A2 := FM.ssb A2 (by omega)
  replace BB := FM.below BB (by omega) (by omega)
  replace p1 := FM.own p1 (fun j hj => by have := jp1 j hj; omega)
  replace Rp := FM.rs Rp (by omega)
  replace Rq := FM.rs Rq (by omega)
  have SFM := FM.size
  clear FM
  obtain ⟨M, hM⟩ : ∃ M : Int, ((1 + L.length * 4 : Nat) : Int) = M := ⟨_, rfl⟩
  have hM0 : ¬ M < 0 := by omega
  have hMM : (M != M) = false := by simp
  rw [hM]
  have dq0 := Rq 0 _ rfl
  have dq1 := Rq 1 _ rfl
  go_wp2_with fail
  refine (heldChangesResult _ _ _ L.length 1 _ (by omega) (IR4.of m1)).mono ?_; rintro e w34 ⟨rfl, b⟩
  rw [hM]
  clear dq0 dq1
  have F35 : Fr w.heap.size w.heap.size w33 w34 := Fr.ofBelow b
  replace A1 := F35.ssb A1 (by omega)
  replace A2 := F35.ssb A2 (by omega)
  replace BB := F35.below BB (by omega) (by omega)
  replace p1 := F35.own p1 (fun j hj => by have := jp1 j hj; omega)
  replace Rp := F35.rs Rp (by omega)
  replace Rq := F35.rs Rq (by omega)
  replace m1 := F35.own m1 (fun j hj => by have := jq1 j hj; omega)
  have SF35 := F35.size
  clear b F35
  go_wp2_with fail
  refine (toStringS' _ _ _ _ (A1.toSS (by omega)) hxs).mono ?_; rintro e w36 ⟨rfl, x, b, zw36⟩
  have F37 : Fr w.heap.size w.heap.size w34 w36 := Fr.ofBelow b
  replace A1 := F37.ssb A1 (by omega)
  replace A2 := F37.ssb A2 (by omega)
  replace BB := F37.below BB (by omega) (by omega)
  replace p1 := F37.own p1 (fun j hj => by have := jp1 j hj; omega)
  replace Rp := F37.rs Rp (by omega)
  replace Rq := F37.rs Rq (by omega)
  replace m1 := F37.own m1 (fun j hj => by have := jq1 j hj; omega)
  have SF37 := F37.size
  clear b F37
  go_wp2_with fail
  refine (toStringS' _ _ _ _ (A2.toSS (by omega)) hys).mono ?_; rintro e w38 ⟨rfl, y, b, zw38⟩
  have F39 : Fr w.heap.size w.heap.size w36 w38 := Fr.ofBelow b
  replace A1 := F39.ssb A1 (by omega)
  replace A2 := F39.ssb A2 (by omega)
  replace BB := F39.below BB (by omega) (by omega)
  replace p1 := F39.own p1 (fun j hj => by have := jp1 j hj; omega)
  replace Rp := F39.rs Rp (by omega)
  replace Rq := F39.rs Rq (by omega)
  replace m1 := F39.own m1 (fun j hj => by have := jq1 j hj; omega)
  replace x := x.below b
  have SF39 := F39.size
  clear b F39
  go_wp2_with fail
  refine (hI _ _ _ _ _ x y).mono ?_; rintro e w40 ⟨v, rfl, hr, br⟩
  obtain ⟨ra, rc, rfl, _⟩ := CB.of hr
  have r1 := hr
  have jr1 : ∀ j, (Value.slice ra L.length rc).ownBlock = some j → w38.heap.size ≤ j ∧ j < w40.heap.size := fun j hj => r1.lt j hj
  clear hr
  have F41 : Fr w.heap.size w.heap.size w38 w40 := Fr.ofBelow br
  replace A1 := F41.ssb A1 (by omega)
  replace A2 := F41.ssb A2 (by omega)
  replace BB := F41.below BB (by omega) (by omega)
  replace p1 := F41.own p1 (fun j hj => by have := jp1 j hj; omega)
  replace Rp := F41.rs Rp (by omega)
  replace Rq := F41.rs Rq (by omega)
  replace m1 := F41.own m1 (fun j hj => by have := jq1 j hj; omega)
  replace x := x.below br
  replace y := y.below br
  have SF41 := F41.size
  clear F41 br
  clear x y
  have d0 := fun o => (Fr.ofAlloc (lo := 0) (hi := 0) w40 o).cell (Rp 0 _ rfl) (.inr (Nat.zero_le _))
  have d1 := fun o => (Fr.ofAlloc (lo := 0) (hi := 0) w40 o).cell (Rp 1 _ rfl) (.inr (Nat.zero_le _))
  go_wp2_with fail
  obtain ⟨W42, hW42⟩ : ∃ W, w40.alloc (.cells #[.int .i64 r, .slice ra L.length rc] 26) = W := ⟨_, rfl⟩
  have Rr : Rs W42 w40.heap.size [.int .i64 r, .slice ra L.length rc] := by rw [← hW42]; exact Rs.new _ _ _
  have F43 : Fr w.heap.size w.heap.size w40 W42 := by rw [← hW42]; exact Fr.ofAlloc _ _
  have zW42 : w40.heap.size < W42.heap.size := by rw [← hW42]; simp
  rw [hW42]
  clear hW42
  clear d0 d1
  replace A1 := F43.ssb A1 (by omega)
  replace A2 := F43.ssb A2 (by omega)
  replace BB := F43.below BB (by omega) (by omega)
  replace p1 := F43.own p1 (fun j hj => by have := jp1 j hj; omega)
  replace Rp := F43.rs Rp (by omega)
  replace Rq := F43.rs Rq (by omega)
  replace m1 := F43.own m1 (fun j hj => by have := jq1 j hj; omega)
  replace r1 := F43.own r1 (fun j hj => by have := jr1 j hj; omega)
  have SF43 := F43.size
  clear F43
  refine (eqChangesResult _ _ _ _ _ _ _ _ _ (cbOf r1) (cbOf p1) (by omega)).mono ?_; rintro e w44 ⟨rfl, b⟩
  have F45 : Fr w.heap.size w.heap.size W42 w44 := Fr.ofBelow b
  replace A1 := F45.ssb A1 (by omega)
  replace A2 := F45.ssb A2 (by omega)
  replace BB := F45.below BB (by omega) (by omega)
  replace p1 := F45.own p1 (fun j hj => by have := jp1 j hj; omega)
  replace Rp := F45.rs Rp (by omega)
  replace Rq := F45.rs Rq (by omega)
  replace m1 := F45.own m1 (fun j hj => by have := jq1 j hj; omega)
  replace r1 := F45.own r1 (fun j hj => by have := jr1 j hj; omega)
  replace Rr := F45.rs Rr (by omega)
  have SF45 := F45.size
  clear b F45
  have dq0 := Rq 0 _ rfl
  have dq1 := Rq 1 _ rfl
  go_wp2_with fail
  refine (heldChangesResult _ _ _ L.length 1 _ (by omega) (IR4.of m1)).mono ?_; rintro e w46 ⟨rfl, b⟩
  rw [hM]
  clear dq0 dq1
  have F47 : Fr w.heap.size w.heap.size w44 w46 := Fr.ofBelow b
  replace A1 := F47.ssb A1 (by omega)
  replace A2 := F47.ssb A2 (by omega)
  replace BB := F47.below BB (by omega) (by omega)
  replace p1 := F47.own p1 (fun j hj => by have := jp1 j hj; omega)
  replace Rp := F47.rs Rp (by omega)
  replace Rq := F47.rs Rq (by omega)
  replace m1 := F47.own m1 (fun j hj => by have := jq1 j hj; omega)
  replace r1 := F47.own r1 (fun j hj => by have := jr1 j hj; omega)
  replace Rr := F47.rs Rr (by omega)
  have SF47 := F47.size
  clear b F47
  go_wp2_with fail
  go_ret
  exact ⟨rfl, BB⟩

set_option linter.unusedVariables false
theorem laidOut : laidOutB Try.prog = true := by kernel_rfl
theorem own : ownKnob Try.prog.godebug = none := by kernel_rfl
set_option maxRecDepth 100000 in
theorem lifted (os : Os) (started : os.Started) (H : Type) (enc : TypeId × Value → H) :
    ReturnsInHanded {} Try.checked os 3 .any (Rows.fnExactChangesOfSpec.pre6 enc Try.prog Try.f3 Rows.fnExactChangesOfRow.domain false) (Rows.fnExactChangesOfSpec.post enc Try.prog Try.f3 false true false false) := by
  refine returnsInHanded_of_change (C := Try.checked) own started (by kernel_rfl) Try.func3
    (ChangeSpec.witness6 (enc := enc) (C := Try.checked) false ⟨#[], #[.slice none 0 0, .slice none 0 0], []⟩ 8 (by kernel_rfl) (by kernel_rfl) (by kernel_rfl) (by kernel_rfl)) ?_
  intro W base args ds gs before hval0 hW hcnd _
  have hval : ∀ (j : Nat) t v, Try.f3.params[j]? = some t → args[j]? = some v → Value.okWide Try.prog W .any base t v := hval0
  have hW' := hW
  obtain ⟨p, q, hA0, hV, rfl, hfz, hnd⟩ := hW
  have hA : DataW.TrodAll enc Try.prog W 0 (fun _ => true) true Try.f3.params.toList args.toList ds p := hA0
  rw [Try.params3] at hA hval
  obtain ⟨v0, vs0, d0, ds0, p0, q0, hargs, rfl, rfl, h0, r0⟩ := trodAll_cons hA
  obtain ⟨v1, vs1, d1, ds1, p1, q1, rfl, rfl, rfl, h1, r1⟩ := trodAll_cons r0
  obtain ⟨rfl, rfl, rfl⟩ := trodAll_nil r1
  obtain rfl : args = #[v0, v1] := by cases args; simp_all
  obtain ⟨rfl, rfl⟩ := trodVars_none hV
  obtain ⟨a0, len0, cap0, rfl⟩ := okWide_slice Try.underlying22 (hval 0 22 v0 rfl rfl)
  have k0 := h0
  have lt0 : ∀ x ∈ p0, x.block < W.heap.size := by obtain ⟨m, hm⟩ := k0; exact DataW.trod_lt m _ _ _ hm
  obtain ⟨ss0, rfl, w0, n0⟩ := openSS h0 lt0
  obtain ⟨a1, len1, cap1, rfl⟩ := okWide_slice Try.underlying22 (hval 1 22 v1 rfl rfl)
  have k1 := h1
  have lt1 : ∀ x ∈ p1, x.block < W.heap.size := by obtain ⟨m, hm⟩ := k1; exact DataW.trod_lt m _ _ _ hm
  obtain ⟨ss1, rfl, w1, n1⟩ := openSS h1 lt1
  clear hA0 hval0
  refine (walk a0 a1 cap0 cap1 ss0 ss1 W w0 w1 n0 n1).mono fun e W' ⟨he, bel⟩ => ?_
  subst he
  exact ⟨_, rfl, _, _, _, [], _, [], hW', trodAll_mk1 (shut_bool Try.underlying4 _), (trodAll_cons_mk (Below.trod laidOut (by kernel_rfl) (of_decide_eq_true (by kernel_rfl)) k0 bel lt0) (trodAll_cons_mk (Below.trod laidOut (by kernel_rfl) (of_decide_eq_true (by kernel_rfl)) k1 bel lt1) trodAll_mk0)), rfl, bel.frame _, fun h => by cases h⟩

theorem over : Rows.fnExactChangesOfRow.holds Try.pinned (OpenSpec.ofChange Rows.fnExactChangesOfSpec) :=
  OpenClaim.holds_of_wide 3 Try.f3 rfl rfl rfl rfl rfl rfl rfl ⟨rfl, rfl, rfl, rfl, rfl⟩ rfl rfl rfl rfl rfl (by kernel_rfl) Try.func3 (by kernel_rfl)
    (of_decide_eq_true (by kernel_rfl)) (by unfold Func.isWrapper; first | (rw [if_pos (by decide +kernel)]; kernel_rfl) | (rw [if_neg (by decide +kernel)]; exact ⟨rfl, rfl⟩))
    (fun os started H enc _ => lifted os started H enc)

theorem proved : Rows.FnExactChangesOfSaid := over
end Go.Proofs.Ytginglagekhaaah.ChLaw
namespace Go.Proofs.Ytginglagekhaaah
theorem fnExactChangesOf_proved : Rows.FnExactChangesOfSaid := ChLaw.proved
end Go.Proofs.Ytginglagekhaaah
