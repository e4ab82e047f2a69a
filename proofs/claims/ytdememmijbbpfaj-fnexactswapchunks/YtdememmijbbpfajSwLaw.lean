/- Proved: at every list of chunks FnExactSwapChunks returns true (SwapChunks answers as its specification, field by field; its answer owns its memory, behind another call too; no argument is changed). No condition: FnExactSwapChunksSaid itself. -/
import Derived.Test.YtdememmijbbpfajRows
import Derived.Test.YtdememmijbbpfajLem
import Derived.Test.YtdememmijbbpfajStrs
import Derived.Test.YtdememmijbbpfajMarks
import Derived.Test.YtdememmijbbpfajHeld
import Derived.Test.YtdememmijbbpfajLFLem
import Derived.Test.YtdememmijbbpfajLF
import Derived.Test.YtdememmijbbpfajDTab
import Derived.Test.YtdememmijbbpfajOwn
import Derived.Test.YtdememmijbbpfajFr
import Derived.Test.YtdememmijbbpfajIn
import Derived.Test.YtdememmijbbpfajSameC
import Derived.Test.YtdememmijbbpfajHkT
import Derived.Test.YtdememmijbbpfajCkL
import Derived.Test.YtdememmijbbpfajCkC
import Derived.Test.YtdememmijbbpfajCkB
import Derived.Test.YtdememmijbbpfajCkI
import Derived.Test.YtdememmijbbpfajCkS
import Derived.Test.YtdememmijbbpfajCkN
import Derived.Test.YtdememmijbbpfajCkT
import Derived.Test.YtdememmijbbpfajCkU
import Derived.Test.YtdememmijbbpfajOpK
import Derived.Test.YtdememmijbbpfajCkM
import Derived.Test.YtdememmijbbpfajCkR
import Derived.Test.YtdememmijbbpfajCkP
import Derived.Test.YtdememmijbbpfajCkQ
import Derived.Test.YtdememmijbbpfajCkX
import Derived.Test.YtdememmijbbpfajCkY
import Derived.WalkKit
import Derived.ProofKit
import Derived.OpenShut
import Derived.Below
import Derived.Carry
namespace Go.Proofs.Ytdememmijbbpfaj.SwLaw
open Go.ChangeShapes Go.WideShapes Go.ChangeAt Go.RowKit

theorem ownOne (b n cap : Nat) : ∀ j, (Value.slice (some ⟨b, 0, none⟩) n cap).ownBlock = some j → b ≤ j ∧ j < b + 1 := by
  intro j hj
  have e : b = j := by simpa [Value.ownBlock] using hj
  omega
set_option maxRecDepth 20000 in
set_option maxHeartbeats 4000000 in
theorem walk (a1 : Option Addr) (c1 : Nat) (l1k : List Ck) (w : World) (h1 : KB w.heap.size w a1 l1k) (hl1 : LongK l1k) (hf1 : FitsK l1k) (n1 : l1k.length ≤ 9223372036854775807) :
    Calls Try.prog 3 #[.slice a1 l1k.length c1] w fun e w' => e = .returned (.bool true) ∧ Below w.heap.size w w' := by
  have BB := Below.refl w.heap.size w
  have A1 := h1
  clear h1
  obtain ⟨Q1, hQ1⟩ : ∃ Q, leftK 1048576 l1k = Q := ⟨_, rfl⟩
  have HQ1 : Hid (leftK 1048576 l1k = Q1) := hQ1
  have hZ1 := fun W h => szChunkS a1 c1 l1k 1048576 W h hl1 n1 (by omega) (by omega)
  rw [hQ1] at hZ1
  by_cases hx1 : Q1 < 0
  · clear hQ1
    go_enter Try.func3, Try.ntmps3
    go_wp2_with fail
    refine (hZ1 _ (A1.mono (by omega))).mono ?_; rintro e w1 ⟨rfl, b⟩
    have F2 : Fr w.heap.size w.heap.size w w1 := Fr.ofBelow b
    replace A1 := A1.fr F2 (.inl (by omega))
    replace BB := F2.below BB (by omega) (by omega)
    have SF2 := F2.size
    clear b F2
    go_wp2_with fail
    go_ret
    exact ⟨rfl, BB⟩
  have hq1a : 0 ≤ Q1 := by omega
  have hq1b : Q1 ≤ 1048576 := by rw [← HQ1.out]; exact leftK_le (by omega) (by omega)
  have hx1' : ¬ leftK 1048576 l1k < 0 := by rw [hQ1]; exact hx1
  obtain ⟨p1, g1⟩ := leftK_nums hx1'
  have at1 := allT_nonneg (lnsAll l1k)
  have hs1 : ShortK l1k := short_of (by omega)
  have l1 : l1k.length ≤ 1048576 := by omega
  have sd1 : ∀ i, i < 3 → (sideL i l1k).length ≤ 1048576 := fun i _ => by have := (side_le i l1k).1; omega
  have st1 : ∀ i, i < 3 → tot (sideL i l1k) ≤ 1048576 := fun i _ => by have := (side_le i l1k).2; omega
  have hm1 : mkK l1k l1k.length ≤ 2097152 := by rw [mkK_full]; omega
  clear hQ1
  have hT1 : TinyK l1k := tiny_of (by omega)
  have hS : ∀ (a1 : Option Addr) (c1 : Nat) W, KB W.heap.size W a1 l1k → Calls Try.prog 10 #[.slice a1 l1k.length c1] W fun e w' => KP2 (cf l1k) (swL l1k) W e w' := fun a1 c1 W h1 => specSwapChunks a1 c1 l1k W h1 l1 hs1 hf1 sd1 st1
  have hI : ∀ (a1 : Option Addr) (c1 : Nat) W, KB W.heap.size W a1 l1k → Calls Try.prog 12 #[.slice a1 l1k.length c1] W fun e w' => KP2 (cf l1k) (swL l1k) W e w' := fun a1 c1 W h1 => implSwapChunks a1 c1 l1k W h1 l1 hs1 hf1 sd1 hT1
  have hLs : ShortK (swL l1k) := sw_short hs1
  have hLf : FitsK (swL l1k) := sw_fits hf1
  have hLn2 : (swL l1k).length ≤ 1048576 := by have := sw_length l1k; omega
  have hLm2 : 1 + mkK (swL l1k) (swL l1k).length ≤ 4194304 := by have := sw_marks l1k; omega
  obtain ⟨r, hrr⟩ : ∃ r, cf l1k = r := ⟨_, rfl⟩
  obtain ⟨L, hL⟩ : ∃ L, swL l1k = L := ⟨_, rfl⟩
  rw [hrr, hL] at hS hI
  rw [hL] at hLs hLf hLn2 hLm2
  have hMf := mixX_fits hLm2
  have hMl := mixX_length L 1 L.length
  clear hrr hL hx1' p1 g1 at1 sd1 st1 hT1
  go_enter Try.func3, Try.ntmps3
  go_wp2_with fail
  refine (hZ1 _ (A1.mono (by omega))).mono ?_; rintro e w1 ⟨rfl, b⟩
  have F2 : Fr w.heap.size w.heap.size w w1 := Fr.ofBelow b
  replace A1 := A1.fr F2 (.inl (by omega))
  replace BB := F2.below BB (by omega) (by omega)
  have SF2 := F2.size
  clear b F2
  go_wp2_with fail
  refine (toChunkS a1 c1 l1k _ (A1.mono (by omega)) hs1 l1).mono ?_; rintro e w3 ⟨rfl, ⟨slx1, x1⟩, b⟩
  have jx1 : ∀ j, (Value.slice (some ⟨w1.heap.size, 0, none⟩) l1k.length l1k.length).ownBlock = some j → w1.heap.size ≤ j ∧ j < w3.heap.size := fun j hj => x1.row.lt j hj
  have sx1 : ∀ n, n < l1k.length * 3 → ∀ j, (slx1 n).ownBlock = some j → w1.heap.size ≤ j ∧ j < w3.heap.size := fun n hn j hj => (x1.each n hn).lt j hj
  have F4 : Fr w.heap.size w.heap.size w1 w3 := Fr.ofBelow b
  replace A1 := A1.fr F4 (.inl (by omega))
  replace BB := F4.below BB (by omega) (by omega)
  have SF4 := F4.size
  clear b F4
  go_wp2_with fail
  refine (hS _ _ _ (x1.read hf1)).mono ?_; rintro e w5 ⟨vp, slp, rfl, p, bp⟩
  obtain ⟨pa, pc, ep⟩ := shapeK p.row
  subst ep
  have jp : ∀ j, (Value.slice pa L.length pc).ownBlock = some j → w3.heap.size ≤ j ∧ j < w5.heap.size := fun j hj => p.row.lt j hj
  have sp : ∀ n, n < L.length * 3 → ∀ j, (slp n).ownBlock = some j → w3.heap.size ≤ j ∧ j < w5.heap.size := fun n hn j hj => (p.each n hn).lt j hj
  have F6 : Fr w.heap.size w.heap.size w3 w5 := Fr.ofBelow bp
  replace A1 := A1.fr F6 (.inl (by omega))
  replace BB := F6.below BB (by omega) (by omega)
  replace x1 := x1.fr F6 (fun j hj => by have := jx1 j hj; omega) (fun n hn j hj => by have := sx1 n hn j hj; omega)
  have SF6 := F6.size
  clear bp F6
  clear x1 jx1 sx1
  obtain ⟨W7, hW7⟩ : ∃ W, w5.alloc (.cells #[.int .i64 r, .slice pa L.length pc] 26) = W := ⟨_, rfl⟩
  have Rp : Rs W7 w5.heap.size [.int .i64 r, .slice pa L.length pc] := by rw [← hW7]; exact Rs.new _ _ _
  have F8 : Fr w.heap.size w.heap.size w5 W7 := by rw [← hW7]; exact Fr.ofAlloc _ _
  have zW7 : w5.heap.size < W7.heap.size := by rw [← hW7]; simp
  replace A1 := A1.fr F8 (.inl (by omega))
  replace BB := F8.below BB (by omega) (by omega)
  replace p := p.fr F8 (fun j hj => by have := jp j hj; omega) (fun n hn j hj => by have := sp n hn j hj; omega)
  have SF8 := F8.size
  clear F8
  go_wp2_with fail
  refine (toChunkS a1 c1 l1k _ (A1.mono (by omega)) hs1 l1).mono ?_; rintro e w9 ⟨rfl, ⟨slX1, X1⟩, b⟩
  have jX1 : ∀ j, (Value.slice (some ⟨W7.heap.size, 0, none⟩) l1k.length l1k.length).ownBlock = some j → W7.heap.size ≤ j ∧ j < w9.heap.size := fun j hj => X1.row.lt j hj
  have sX1 : ∀ n, n < l1k.length * 3 → ∀ j, (slX1 n).ownBlock = some j → W7.heap.size ≤ j ∧ j < w9.heap.size := fun n hn j hj => (X1.each n hn).lt j hj
  have F10 : Fr w.heap.size w.heap.size W7 w9 := Fr.ofBelow b
  replace A1 := A1.fr F10 (.inl (by omega))
  replace BB := F10.below BB (by omega) (by omega)
  replace p := p.fr F10 (fun j hj => by have := jp j hj; omega) (fun n hn j hj => by have := sp n hn j hj; omega)
  replace Rp := F10.rs Rp (by omega)
  have SF10 := F10.size
  clear b F10
  clear hW7
  go_wp2_with fail
  refine (hI _ _ _ (X1.read hf1)).mono ?_; rintro e w11 ⟨vq, slq, rfl, q, bq⟩
  obtain ⟨qa, qc, eq⟩ := shapeK q.row
  subst eq
  have jq : ∀ j, (Value.slice qa L.length qc).ownBlock = some j → w9.heap.size ≤ j ∧ j < w11.heap.size := fun j hj => q.row.lt j hj
  have sq : ∀ n, n < L.length * 3 → ∀ j, (slq n).ownBlock = some j → w9.heap.size ≤ j ∧ j < w11.heap.size := fun n hn j hj => (q.each n hn).lt j hj
  have F12 : Fr w.heap.size w.heap.size w9 w11 := Fr.ofBelow bq
  replace A1 := A1.fr F12 (.inl (by omega))
  replace BB := F12.below BB (by omega) (by omega)
  replace p := p.fr F12 (fun j hj => by have := jp j hj; omega) (fun n hn j hj => by have := sp n hn j hj; omega)
  replace Rp := F12.rs Rp (by omega)
  replace X1 := X1.fr F12 (fun j hj => by have := jX1 j hj; omega) (fun n hn j hj => by have := sX1 n hn j hj; omega)
  have SF12 := F12.size
  clear bq F12
  obtain ⟨W13, hW13⟩ : ∃ W, w11.alloc (.cells #[.int .i64 r, .slice qa L.length qc] 26) = W := ⟨_, rfl⟩
  have Rq : Rs W13 w11.heap.size [.int .i64 r, .slice qa L.length qc] := by rw [← hW13]; exact Rs.new _ _ _
  have F14 : Fr w.heap.size w.heap.size w11 W13 := by rw [← hW13]; exact Fr.ofAlloc _ _
  have zW13 : w11.heap.size < W13.heap.size := by rw [← hW13]; simp
  replace A1 := A1.fr F14 (.inl (by omega))
  replace BB := F14.below BB (by omega) (by omega)
  replace p := p.fr F14 (fun j hj => by have := jp j hj; omega) (fun n hn j hj => by have := sp n hn j hj; omega)
  replace Rp := F14.rs Rp (by omega)
  replace X1 := X1.fr F14 (fun j hj => by have := jX1 j hj; omega) (fun n hn j hj => by have := sX1 n hn j hj; omega)
  replace q := q.fr F14 (fun j hj => by have := jq j hj; omega) (fun n hn j hj => by have := sq n hn j hj; omega)
  have SF14 := F14.size
  clear F14
  have dp0 := Rp 0 _ rfl
  have dp1 := Rp 1 _ rfl
  have dq0 := Rq 0 _ rfl
  have dq1 := Rq 1 _ rfl
  go_wp2_with fail
  refine (eqChunksResult _ _ _ _ _ L _ (q.read hLf) (p.read hLf) hLs hLn2).mono ?_; rintro e w15 ⟨rfl, b⟩
  have F16 : Fr w.heap.size w.heap.size W13 w15 := Fr.ofBelow b
  replace A1 := A1.fr F16 (.inl (by omega))
  replace BB := F16.below BB (by omega) (by omega)
  replace p := p.fr F16 (fun j hj => by have := jp j hj; omega) (fun n hn j hj => by have := sp n hn j hj; omega)
  replace Rp := F16.rs Rp (by omega)
  replace X1 := X1.fr F16 (fun j hj => by have := jX1 j hj; omega) (fun n hn j hj => by have := sX1 n hn j hj; omega)
  replace q := q.fr F16 (fun j hj => by have := jq j hj; omega) (fun n hn j hj => by have := sq n hn j hj; omega)
  replace Rq := F16.rs Rq (by omega)
  have SF16 := F16.size
  clear b F16
  clear dp0 dp1
  clear dq0 dq1
  clear hW13
  go_wp2_with fail
  refine (toChunkS a1 c1 l1k _ (A1.mono (by omega)) hs1 l1).mono ?_; rintro e w17 ⟨rfl, ⟨sly, y⟩, b⟩
  have jy : ∀ j, (Value.slice (some ⟨w15.heap.size, 0, none⟩) l1k.length l1k.length).ownBlock = some j → w15.heap.size ≤ j ∧ j < w17.heap.size := fun j hj => y.row.lt j hj
  have sy : ∀ n, n < l1k.length * 3 → ∀ j, (sly n).ownBlock = some j → w15.heap.size ≤ j ∧ j < w17.heap.size := fun n hn j hj => (y.each n hn).lt j hj
  have F18 : Fr w.heap.size w.heap.size w15 w17 := Fr.ofBelow b
  replace A1 := A1.fr F18 (.inl (by omega))
  replace BB := F18.below BB (by omega) (by omega)
  replace p := p.fr F18 (fun j hj => by have := jp j hj; omega) (fun n hn j hj => by have := sp n hn j hj; omega)
  replace Rp := F18.rs Rp (by omega)
  replace X1 := X1.fr F18 (fun j hj => by have := jX1 j hj; omega) (fun n hn j hj => by have := sX1 n hn j hj; omega)
  replace q := q.fr F18 (fun j hj => by have := jq j hj; omega) (fun n hn j hj => by have := sq n hn j hj; omega)
  replace Rq := F18.rs Rq (by omega)
  have SF18 := F18.size
  clear b F18
  go_wp2_with fail
  refine (eqChunkS _ _ _ _ l1k _ (X1.read hf1) (y.read hf1) hs1 l1).mono ?_; rintro e w19 ⟨rfl, b⟩
  clear y jy sy
  have F20 : Fr w.heap.size w.heap.size w17 w19 := Fr.ofBelow b
  replace A1 := A1.fr F20 (.inl (by omega))
  replace BB := F20.below BB (by omega) (by omega)
  replace p := p.fr F20 (fun j hj => by have := jp j hj; omega) (fun n hn j hj => by have := sp n hn j hj; omega)
  replace Rp := F20.rs Rp (by omega)
  replace X1 := X1.fr F20 (fun j hj => by have := jX1 j hj; omega) (fun n hn j hj => by have := sX1 n hn j hj; omega)
  replace q := q.fr F20 (fun j hj => by have := jq j hj; omega) (fun n hn j hj => by have := sq n hn j hj; omega)
  replace Rq := F20.rs Rq (by omega)
  have SF20 := F20.size
  clear b F20
  go_wp2_with fail
  refine (markChunkS W7.heap.size w9.heap.size _ _ (1) l1k slX1 _ (by omega) (by omega) X1 (by have := (jX1 _ rfl).2; omega) (fun n hn j hj => (sX1 n hn j hj).2)).mono ?_; rintro e w21 ⟨rfl, XM, FX⟩
  clear X1 XM
  replace A1 := A1.fr FX (.inl (by omega))
  replace BB := FX.below BB (by omega) (by omega)
  replace p := p.fr FX (fun j hj => by have := jp j hj; omega) (fun n hn j hj => by have := sp n hn j hj; omega)
  replace Rp := FX.rs Rp (by omega)
  replace q := q.fr FX (fun j hj => by have := jq j hj; omega) (fun n hn j hj => by have := sq n hn j hj; omega)
  replace Rq := FX.rs Rq (by omega)
  have SFX := FX.size
  clear FX jX1 sX1
  obtain ⟨K, hK⟩ : ∃ K : Int, ((1 + mkK l1k l1k.length : Nat) : Int) = K := ⟨_, rfl⟩
  have hK0 : ¬ K < 0 := by omega
  rw [hK]
  clear hK
  have dp0 := Rp 0 _ rfl
  have dp1 := Rp 1 _ rfl
  have dq0 := Rq 0 _ rfl
  have dq1 := Rq 1 _ rfl
  go_wp2_with fail
  refine (eqChunksResult _ _ _ _ _ L _ (q.read hLf) (p.read hLf) hLs hLn2).mono ?_; rintro e w22 ⟨rfl, b⟩
  have F23 : Fr w.heap.size w.heap.size w21 w22 := Fr.ofBelow b
  replace A1 := A1.fr F23 (.inl (by omega))
  replace BB := F23.below BB (by omega) (by omega)
  replace p := p.fr F23 (fun j hj => by have := jp j hj; omega) (fun n hn j hj => by have := sp n hn j hj; omega)
  replace Rp := F23.rs Rp (by omega)
  replace q := q.fr F23 (fun j hj => by have := jq j hj; omega) (fun n hn j hj => by have := sq n hn j hj; omega)
  replace Rq := F23.rs Rq (by omega)
  have SF23 := F23.size
  clear b F23
  clear dp0 dp1
  clear dq0 dq1
  have dq0 := Rq 0 _ rfl
  have dq1 := Rq 1 _ rfl
  go_wp2_with fail
  refine (markChunksAny _ w9.heap.size w11.heap.size _ _ 1 L slq _ (by omega) hLm2 q (fun j hj => (jq j hj).2) (fun n hn j hj => (sq n hn j hj).2)).mono ?_; rintro e w24 ⟨rfl, Q, FM⟩
  clear q
  clear dq0 dq1
  replace A1 := A1.fr FM (.inl (by omega))
  replace BB := FM.below BB (by omega) (by omega)
  replace p := p.fr FM (fun j hj => by have := jp j hj; omega) (fun n hn j hj => by have := sp n hn j hj; omega)
  replace Rp := FM.rs Rp (by omega)
  replace Rq := FM.rs Rq (by omega)
  have SFM := FM.size
  clear FM
  have jQ := jq
  have sQ : ∀ n, n < (mixX L 1 L.length).length * 3 → ∀ j, (slq n).ownBlock = some j → w9.heap.size ≤ j ∧ j < w11.heap.size := fun n hn j hj => sq n (by rw [hMl] at hn; exact hn) j hj
  obtain ⟨M, hM⟩ : ∃ M : Int, ((1 + mkK L L.length : Nat) : Int) = M := ⟨_, rfl⟩
  have hM0 : ¬ M < 0 := by omega
  have hMM : (M != M) = false := by simp
  rw [hM]
  have dq0 := Rq 0 _ rfl
  have dq1 := Rq 1 _ rfl
  go_wp2_with fail
  refine (heldChunksResult _ _ _ 1 L _ (by omega) hLm2 (KO.read (c := qc) (by rw [hMl]; exact Q) hMf)).mono ?_; rintro e w25 ⟨rfl, b⟩
  rw [hM]
  clear dq0 dq1
  have F26 : Fr w.heap.size w.heap.size w24 w25 := Fr.ofBelow b
  replace A1 := A1.fr F26 (.inl (by omega))
  replace BB := F26.below BB (by omega) (by omega)
  replace p := p.fr F26 (fun j hj => by have := jp j hj; omega) (fun n hn j hj => by have := sp n hn j hj; omega)
  replace Rp := F26.rs Rp (by omega)
  replace Rq := F26.rs Rq (by omega)
  replace Q := Q.fr F26 (fun j hj => by have := jQ j hj; omega) (fun n hn j hj => by have := sQ n hn j hj; omega)
  have SF26 := F26.size
  clear b F26
  go_wp2_with fail
  refine (toChunkS a1 c1 l1k _ (A1.mono (by omega)) hs1 l1).mono ?_; rintro e w27 ⟨rfl, ⟨slz1, z1⟩, b⟩
  have jz1 : ∀ j, (Value.slice (some ⟨w25.heap.size, 0, none⟩) l1k.length l1k.length).ownBlock = some j → w25.heap.size ≤ j ∧ j < w27.heap.size := fun j hj => z1.row.lt j hj
  have sz1 : ∀ n, n < l1k.length * 3 → ∀ j, (slz1 n).ownBlock = some j → w25.heap.size ≤ j ∧ j < w27.heap.size := fun n hn j hj => (z1.each n hn).lt j hj
  have F28 : Fr w.heap.size w.heap.size w25 w27 := Fr.ofBelow b
  replace A1 := A1.fr F28 (.inl (by omega))
  replace BB := F28.below BB (by omega) (by omega)
  replace p := p.fr F28 (fun j hj => by have := jp j hj; omega) (fun n hn j hj => by have := sp n hn j hj; omega)
  replace Rp := F28.rs Rp (by omega)
  replace Rq := F28.rs Rq (by omega)
  replace Q := Q.fr F28 (fun j hj => by have := jQ j hj; omega) (fun n hn j hj => by have := sQ n hn j hj; omega)
  have SF28 := F28.size
  clear b F28
  go_wp2_with fail
  refine (hI _ _ _ (z1.read hf1)).mono ?_; rintro e w29 ⟨vs, sls, rfl, s, bs⟩
  obtain ⟨sa, sc, es⟩ := shapeK s.row
  subst es
  have js : ∀ j, (Value.slice sa L.length sc).ownBlock = some j → w27.heap.size ≤ j ∧ j < w29.heap.size := fun j hj => s.row.lt j hj
  have ss : ∀ n, n < L.length * 3 → ∀ j, (sls n).ownBlock = some j → w27.heap.size ≤ j ∧ j < w29.heap.size := fun n hn j hj => (s.each n hn).lt j hj
  have F30 : Fr w.heap.size w.heap.size w27 w29 := Fr.ofBelow bs
  replace A1 := A1.fr F30 (.inl (by omega))
  replace BB := F30.below BB (by omega) (by omega)
  replace p := p.fr F30 (fun j hj => by have := jp j hj; omega) (fun n hn j hj => by have := sp n hn j hj; omega)
  replace Rp := F30.rs Rp (by omega)
  replace Rq := F30.rs Rq (by omega)
  replace Q := Q.fr F30 (fun j hj => by have := jQ j hj; omega) (fun n hn j hj => by have := sQ n hn j hj; omega)
  replace z1 := z1.fr F30 (fun j hj => by have := jz1 j hj; omega) (fun n hn j hj => by have := sz1 n hn j hj; omega)
  have SF30 := F30.size
  clear bs F30
  clear z1 jz1 sz1
  obtain ⟨W31, hW31⟩ : ∃ W, w29.alloc (.cells #[.int .i64 r, .slice sa L.length sc] 26) = W := ⟨_, rfl⟩
  have Rs : Rs W31 w29.heap.size [.int .i64 r, .slice sa L.length sc] := by rw [← hW31]; exact Rs.new _ _ _
  have F32 : Fr w.heap.size w.heap.size w29 W31 := by rw [← hW31]; exact Fr.ofAlloc _ _
  have zW31 : w29.heap.size < W31.heap.size := by rw [← hW31]; simp
  replace A1 := A1.fr F32 (.inl (by omega))
  replace BB := F32.below BB (by omega) (by omega)
  replace p := p.fr F32 (fun j hj => by have := jp j hj; omega) (fun n hn j hj => by have := sp n hn j hj; omega)
  replace Rp := F32.rs Rp (by omega)
  replace Rq := F32.rs Rq (by omega)
  replace Q := Q.fr F32 (fun j hj => by have := jQ j hj; omega) (fun n hn j hj => by have := sQ n hn j hj; omega)
  replace s := s.fr F32 (fun j hj => by have := js j hj; omega) (fun n hn j hj => by have := ss n hn j hj; omega)
  have SF32 := F32.size
  clear F32
  have dp0 := Rp 0 _ rfl
  have dp1 := Rp 1 _ rfl
  have ds0 := Rs 0 _ rfl
  have ds1 := Rs 1 _ rfl
  go_wp2_with fail
  refine (eqChunksResult _ _ _ _ _ L _ (s.read hLf) (p.read hLf) hLs hLn2).mono ?_; rintro e w33 ⟨rfl, b⟩
  have F34 : Fr w.heap.size w.heap.size W31 w33 := Fr.ofBelow b
  replace A1 := A1.fr F34 (.inl (by omega))
  replace BB := F34.below BB (by omega) (by omega)
  replace p := p.fr F34 (fun j hj => by have := jp j hj; omega) (fun n hn j hj => by have := sp n hn j hj; omega)
  replace Rp := F34.rs Rp (by omega)
  replace Rq := F34.rs Rq (by omega)
  replace Q := Q.fr F34 (fun j hj => by have := jQ j hj; omega) (fun n hn j hj => by have := sQ n hn j hj; omega)
  replace s := s.fr F34 (fun j hj => by have := js j hj; omega) (fun n hn j hj => by have := ss n hn j hj; omega)
  replace Rs := F34.rs Rs (by omega)
  have SF34 := F34.size
  clear b F34
  clear dp0 dp1
  clear ds0 ds1
  clear hW31
  have dq0 := Rq 0 _ rfl
  have dq1 := Rq 1 _ rfl
  go_wp2_with fail
  refine (heldChunksResult _ _ _ 1 L _ (by omega) hLm2 (KO.read (c := qc) (by rw [hMl]; exact Q) hMf)).mono ?_; rintro e w35 ⟨rfl, b⟩
  rw [hM]
  clear dq0 dq1
  have F36 : Fr w.heap.size w.heap.size w33 w35 := Fr.ofBelow b
  replace A1 := A1.fr F36 (.inl (by omega))
  replace BB := F36.below BB (by omega) (by omega)
  replace p := p.fr F36 (fun j hj => by have := jp j hj; omega) (fun n hn j hj => by have := sp n hn j hj; omega)
  replace Rp := F36.rs Rp (by omega)
  replace Rq := F36.rs Rq (by omega)
  replace Q := Q.fr F36 (fun j hj => by have := jQ j hj; omega) (fun n hn j hj => by have := sQ n hn j hj; omega)
  replace s := s.fr F36 (fun j hj => by have := js j hj; omega) (fun n hn j hj => by have := ss n hn j hj; omega)
  replace Rs := F36.rs Rs (by omega)
  have SF36 := F36.size
  clear b F36
  go_wp2_with fail
  go_ret
  exact ⟨rfl, BB⟩

set_option linter.unusedVariables false
theorem laidOut : laidOutB Try.prog = true := by kernel_rfl
theorem own : ownKnob Try.prog.godebug = none := by kernel_rfl
set_option maxRecDepth 100000 in
theorem lifted (os : Os) (started : os.Started) (H : Type) (enc : TypeId × Value → H) :
    ReturnsInHanded {} Try.checked os 3 .any (Rows.fnExactSwapChunksSpec.pre6 enc Try.prog Try.f3 Rows.fnExactSwapChunksRow.domain false) (Rows.fnExactSwapChunksSpec.post enc Try.prog Try.f3 false true false false) := by
  refine returnsInHanded_of_change (C := Try.checked) own started (by kernel_rfl) Try.func3
    (ChangeSpec.witness6 (enc := enc) (C := Try.checked) false ⟨#[], #[.slice none 0 0], []⟩ 8 (by kernel_rfl) (by kernel_rfl) (by kernel_rfl) (by kernel_rfl)) ?_
  intro W base args ds gs before hval0 hW hcnd _
  have hval : ∀ (j : Nat) t v, Try.f3.params[j]? = some t → args[j]? = some v → Value.okWide Try.prog W .any base t v := hval0
  have hW' := hW
  obtain ⟨p, q, hA0, hV, rfl, hfz, hnd⟩ := hW
  have hA : DataW.TrodAll enc Try.prog W 0 (fun _ => true) true Try.f3.params.toList args.toList ds p := hA0
  rw [Try.params3] at hA hval
  obtain ⟨v0, vs0, d0, ds0, p0, q0, hargs, rfl, rfl, h0, r0⟩ := trodAll_cons hA
  obtain ⟨rfl, rfl, rfl⟩ := trodAll_nil r0
  obtain rfl : args = #[v0] := by cases args; simp_all
  obtain ⟨rfl, rfl⟩ := trodVars_none hV
  obtain ⟨a0, len0, cap0, rfl⟩ := okWide_slice Try.underlying22 (hval 0 22 v0 rfl rfl)
  have k0 := h0
  have lt0 : ∀ x ∈ p0, x.block < W.heap.size := by obtain ⟨m, hm⟩ := k0; exact DataW.trod_lt m _ _ _ hm
  obtain ⟨ss0, rfl, w0, lg0, ft0, n0⟩ := openKB h0
  clear hA0 hval0
  refine (walk a0 cap0 ss0 W w0 lg0 ft0 n0).mono fun e W' ⟨he, bel⟩ => ?_
  subst he
  exact ⟨_, rfl, _, _, _, [], _, [], hW', trodAll_mk1 (shut_bool Try.underlying4 _), (trodAll_cons_mk (Below.trod laidOut (by kernel_rfl) (of_decide_eq_true (by kernel_rfl)) k0 bel lt0) trodAll_mk0), rfl, bel.frame _, fun h => by cases h⟩

theorem over : Rows.fnExactSwapChunksRow.holds Try.pinned (OpenSpec.ofChange Rows.fnExactSwapChunksSpec) :=
  OpenClaim.holds_of_wide 3 Try.f3 rfl rfl rfl rfl rfl rfl rfl ⟨rfl, rfl, rfl, rfl, rfl⟩ rfl rfl rfl rfl rfl (by kernel_rfl) Try.func3 (by kernel_rfl)
    (of_decide_eq_true (by kernel_rfl)) (by unfold Func.isWrapper; first | (rw [if_pos (by decide +kernel)]; kernel_rfl) | (rw [if_neg (by decide +kernel)]; exact ⟨rfl, rfl⟩))
    (fun os started H enc _ => lifted os started H enc)

theorem proved : Rows.FnExactSwapChunksSaid := over
end Go.Proofs.Ytdememmijbbpfaj.SwLaw
namespace Go.Proofs.Ytdememmijbbpfaj
theorem fnExactSwapChunks_proved : Rows.FnExactSwapChunksSaid := SwLaw.proved
end Go.Proofs.Ytdememmijbbpfaj
