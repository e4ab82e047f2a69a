/- The contracts of the laws' helpers over lists of chunks (szChunkS, toChunkS, eqChunkS). No statement is proved here. -/
import Derived.Test.YtdememmijbbpfajRows
import Derived.Test.YtdememmijbbpfajLem
import Derived.Test.YtdememmijbbpfajStrs
import Derived.Test.YtdememmijbbpfajLFLem
import Derived.Test.YtdememmijbbpfajDTab
import Derived.Test.YtdememmijbbpfajOwn
import Derived.Test.YtdememmijbbpfajFr
import Derived.Test.YtdememmijbbpfajIn
import Derived.Test.YtdememmijbbpfajHkT
import Derived.Test.YtdememmijbbpfajCkL
import Derived.Test.YtdememmijbbpfajCkN
import Derived.Test.YtdememmijbbpfajCkT
import Derived.WalkKit
import Derived.ProofKit
import Derived.Below
import Derived.WalkSpells
import Derived.Deep.QuietTactic
import Derived.BigQuiet
import Derived.Deep.RegionWith
import Derived.Maps.AppendAt
namespace Go.Proofs.Ytdememmijbbpfaj
open Go.ChangeShapes Go.WideShapes Go.ChangeAt Go.RowKit

set_option maxRecDepth 20000 in
set_option maxHeartbeats 2000000 in
theorem szChunkS (a : Option Addr) (c : Nat) (l : List Ck) (n : Int) (w : World) (h : KB w.heap.size w a l) (hl : LongK l) (hn : l.length ≤ 9223372036854775807) (h0 : 0 ≤ n) (h1 : n ≤ 1048576) :
    Calls Try.prog 9 #[.slice a l.length c, .int .i64 n] w fun e w' => e = .returned (.int .i64 (leftK n l)) ∧ Below w.heap.size w w' := by
  by_cases hneg : n - l.length < 0
  · have hC : Hid (leftK n l = -1) := if_pos hneg
    go_enter Try.func9, Try.ntmps9
    go_wp2
    go_ret
    exact ⟨ret_int hC.out.symm, Below.refl _ _⟩
  have HF : Hid (leftK n l = leftF (n - l.length) (lnsAll l)) := if_neg hneg
  obtain ⟨V, hV⟩ : ∃ V, leftK n l = V := ⟨_, rfl⟩
  rw [hV] at HF ⊢
  clear hV
  have hlen : l.length ≤ 1048576 := by omega
  go_enter Try.func9, Try.ntmps9
  go_wp2
  go_loopw [1, 5] (fun t i wr => ∃ (k : Nat) (m : Int), k ≤ l.length ∧ i = .int .i64 k ∧ t = .int .i64 m ∧ 0 ≤ m ∧ m ≤ 1048576 ∧ Hid (leftF m (lnsAll (l.drop k)) = leftF (n - l.length) (lnsAll l)) ∧ Below w.heap.size w wr) (fun _ i _ => l.length - (intOf i).toNat)
  case atStart => exact ⟨0, n - l.length, Nat.zero_le _, rfl, rfl, by omega, by omega, rfl, Below.refl _ _⟩
  case round =>
    obtain ⟨k, m, hk, rfl, rfl, hm0, hm1, hL, hbel⟩ := hrel
    have hsz := hbel.size
    by_cases hlt : k < l.length
    · have q : (k : Int) < (l.length : Int) := by omega
      obtain ⟨g, off, a1, c1, a2, c2, a3, c3, e, hg, d0, d1, d2, d3, s1, s2, s3⟩ := h.below hbel k hlt
      subst e
      have hdr := ck_drop l k hlt
      obtain ⟨m1, m2, m3⟩ := mem_lns (ck_mem l k hlt)
      have n1 := hl _ m1
      have n2 := hl _ m2
      have n3 := hl _ m3
      obtain ⟨C, hCe⟩ : ∃ C, l.getD k cnil = C := ⟨_, rfl⟩
      obtain ⟨x0, x1, x2, x3⟩ := C
      rw [hCe] at d0 d1 d2 d3 s1 s2 s3 hdr n1 n2 n3
      simp only [] at d0 d1 d2 d3 s1 s2 s3 n1 n2 n3
      rw [hdr] at hL
      have hZ := szChunk x0 a1 a2 a3 c1 c2 c3 x1 x2 x3 m wr (s1.1.toSS hsz) (s2.1.toSS hsz) (s3.1.toSS hsz) n1 n2 n3 hm0 hm1
      have hST : leftK1 m (x0, x1, x2, x3) < 0 → Hid (leftF (n - l.length) (lnsAll l) = -1) := fun h1 => by show _ = _; rw [← hL.out, leftK_stop (by omega) h1]
      have hGO : ¬ leftK1 m (x0, x1, x2, x3) < 0 → Hid (leftF (leftK1 m (x0, x1, x2, x3)) (lnsAll (l.drop (k + 1))) = leftF (n - l.length) (lnsAll l)) := fun h1 => by show _ = _; rw [← hL.out, leftK_go (by omega) h1]
      have hbd := leftK1_le (c := (x0, x1, x2, x3)) hm0 hm1
      obtain ⟨M, hM⟩ : ∃ M, leftK1 m (x0, x1, x2, x3) = M := ⟨_, rfl⟩
      rw [hM] at hZ hST hGO hbd
      clear hL hCe hdr hM m1 m2 m3 s1 s2 s3
      by_cases hneg2 : M < 0
      · have hC := hST hneg2
        clear hST hGO hbd
        go_wp2_with fail
        refine hZ.mono ?_; rintro e w2 ⟨rfl, b2⟩
        have HB := below_step hbel hsz b2
        clear b2 hZ
        go_wp2
        go_ret
        exact ⟨ret_int (hC.out.symm.trans HF.out.symm), HB⟩
      · have hC := hGO hneg2
        clear hST hGO
        go_wp2_with fail
        refine hZ.mono ?_; rintro e w2 ⟨rfl, b2⟩
        have HB := below_step hbel hsz b2
        clear b2 hZ
        go_wp2
        go_roundw
        case rel => exact ⟨k + 1, M, by omega, by first | rfl | go_num, rfl, by omega, hbd, hC, HB⟩
        case measure => first | (simp [intOf]; omega) | simp [intOf]
    · have q : ¬ (k : Int) < (l.length : Int) := by omega
      have hC : Hid (leftF (n - l.length) (lnsAll l) = m) := by
        show _ = _
        rw [← hL.out, List.drop_of_length_le (by omega)]; rfl
      clear hL
      go_wp2
      go_ret
      exact ⟨ret_int (hC.out.symm.trans HF.out.symm), hbel⟩

/-- The lists of the first k chunks, each in memory of its own, above block B. -/
structure KP (B : Nat) (w : World) (l : List Ck) (sl : Nat → Value) (k : Nat) : Prop where
  each : ∀ j, j < k * 3 → w.ownsRow B 9 1 (sl j) (lns l j).length ((lns l j).map Value.string)
  apart : ∀ i j, i < j → j < k * 3 → ∀ b, (sl i).ownBlock = some b → (sl j).ownBlock = some b → False
  bd : ∀ j, j < k * 3 → ∀ b, (sl j).ownBlock = some b → B < b ∧ b < w.heap.size
theorem KP.zero (B : Nat) (w : World) (l : List Ck) (sl : Nat → Value) : KP B w l sl 0 := ⟨fun _ h => absurd h (by omega), fun _ _ _ h => absurd h (by omega), fun _ h => absurd h (by omega)⟩
theorem KP.fr {lo hi B k : Nat} {w w' : World} {l : List Ck} {sl : Nat → Value} (h : KP B w l sl k) (hF : Fr lo hi w w') (hh : hi ≤ B + 1) : KP B w' l sl k :=
  ⟨fun j hj => hF.own (h.each j hj) (fun b hb => by have := h.bd j hj b hb; omega), h.apart, fun j hj b hb => by have := h.bd j hj b hb; have := hF.size; omega⟩
theorem three {i k : Nat} (h : i < (k + 1) * 3) : i < k * 3 ∨ i = k * 3 ∨ i = k * 3 + 1 ∨ i = k * 3 + 2 := by omega
theorem KP.add {B k M : Nat} {w : World} {l : List Ck} {sl : Nat → Value} {v1 v2 v3 : Value} (h : KP B w l sl k) (hM : ∀ j, j < k * 3 → ∀ b, (sl j).ownBlock = some b → b < M) (hB : B < M)
    (o1 : w.ownsRow B 9 1 v1 (lns l (k * 3)).length ((lns l (k * 3)).map Value.string)) (o2 : w.ownsRow B 9 1 v2 (lns l (k * 3 + 1)).length ((lns l (k * 3 + 1)).map Value.string)) (o3 : w.ownsRow B 9 1 v3 (lns l (k * 3 + 2)).length ((lns l (k * 3 + 2)).map Value.string))
    (a1 : ∀ b, v1.ownBlock = some b → M ≤ b) (a2 : ∀ b, v2.ownBlock = some b → M ≤ b) (a3 : ∀ b, v3.ownBlock = some b → M ≤ b)
    (d12 : ∀ b, v1.ownBlock = some b → v2.ownBlock = some b → False) (d13 : ∀ b, v1.ownBlock = some b → v3.ownBlock = some b → False) (d23 : ∀ b, v2.ownBlock = some b → v3.ownBlock = some b → False) : KP B w l (sl3 sl k v1 v2 v3) (k + 1) := by
  refine ⟨fun j hj => ?_, fun i j hij hj b hb hb' => ?_, fun j hj b hb => ?_⟩
  · rcases three hj with h' | rfl | rfl | rfl
    · rw [sl3_old _ _ _ _ _ _ h']; exact h.each j h'
    · rw [sl3_0]; exact o1
    · rw [sl3_1]; exact o2
    · rw [sl3_2]; exact o3
  · rcases three (show i < (k + 1) * 3 by omega) with hi | rfl | rfl | rfl
    · rw [sl3_old _ _ _ _ _ _ hi] at hb
      rcases three hj with h' | rfl | rfl | rfl
      · rw [sl3_old _ _ _ _ _ _ h'] at hb'; exact h.apart i j hij h' b hb hb'
      · rw [sl3_0] at hb'; have := hM i hi b hb; have := a1 b hb'; omega
      · rw [sl3_1] at hb'; have := hM i hi b hb; have := a2 b hb'; omega
      · rw [sl3_2] at hb'; have := hM i hi b hb; have := a3 b hb'; omega
    · rw [sl3_0] at hb
      rcases three hj with h' | h' | rfl | rfl
      · omega
      · omega
      · rw [sl3_1] at hb'; exact d12 b hb hb'
      · rw [sl3_2] at hb'; exact d13 b hb hb'
    · rw [sl3_1] at hb
      rcases three hj with h' | h' | h' | rfl
      · omega
      · omega
      · omega
      · rw [sl3_2] at hb'; exact d23 b hb hb'
    · omega
  · rcases three hj with h' | rfl | rfl | rfl
    · rw [sl3_old _ _ _ _ _ _ h'] at hb; exact h.bd j h' b hb
    · rw [sl3_0] at hb; have := a1 b hb; have := (o1.lt b hb).2; omega
    · rw [sl3_1] at hb; have := a2 b hb; have := (o2.lt b hb).2; omega
    · rw [sl3_2] at hb; have := a3 b hb; have := (o3.lt b hb).2; omega
theorem fourSets (w : World) (b o : Nat) (v0 v1 v2 v3 : Value) : Fr b (b + 1) w ((((w.setCell ⟨b, o, none⟩ v0).setCell ⟨b, o + 1, none⟩ v1).setCell ⟨b, o + 2, none⟩ v2).setCell ⟨b, o + 3, none⟩ v3) := by
  have G : ∀ (u : World) (o : Nat) (v : Value), Fr b (b + 1) u (u.setCell ⟨b, o, none⟩ v) := fun u o v => Fr.ofGrown (grownSet u b o v) (fun j hj => by cases hj; omega)
  exact (((G _ _ _).trans (G _ _ _)).trans (G _ _ _)).trans (G _ _ _)

set_option maxRecDepth 20000 in
set_option maxHeartbeats 4000000 in
theorem toChunkS (a : Option Addr) (c : Nat) (l : List Ck) (w : World) (h : KB w.heap.size w a l) (hs : ShortK l) (hn : l.length ≤ 1048576) :
    Calls Try.prog 11 #[.slice a l.length c] w fun e w' => e = .returned (.slice (some ⟨w.heap.size, 0, none⟩) l.length l.length) ∧
      (∃ sl, KO w.heap.size w' (.slice (some ⟨w.heap.size, 0, none⟩) l.length l.length) l sl) ∧ Below w.heap.size w w' := by
  obtain ⟨i0, hi, hz0, hz1, hz2⟩ := info_parts infoChunk
  go_enter Try.func11, Try.ntmps11
  go_wp2_with (first | (at_make; refine wpList_make_full _ rfl (.tmp 6) (.tmp 6) 24 rfl w.heap.size 53 i0 (.agg #[.int .i64 0, .slice none 0 0, .slice none 0 0, .slice none 0 0]) 4 Try.underlying24 hi hz0 hz1 .i64 .i64 _ _ l.length rfl rfl (by omega) (by omega) (by rw [hz2]; omega) (by unfold maxLen; omega) (Nat.le_refl _) ?_; intro w1 hown1 hg1))
  have hown : w1.ownsRow w.heap.size 53 4 (.slice (some ⟨w.heap.size, 0, none⟩) l.length l.length) l.length (rowK (mixK l (fun _ => .slice none 0 0) 0) (l.length * 4)) := by
    rw [← mixK_zero]
    exact hown1
  have hbel : Below w.heap.size w w1 := (Below.refl _ _).grown hg1 (Nat.le_refl _) (by intro k h; cases h)
  have hz : w.heap.size < w1.heap.size := (hown.lt w.heap.size rfl).2
  clear hown1 hg1
  go_loopw [4] (fun i wr => ∃ (k : Nat) (sl : Nat → Value), k ≤ l.length ∧ i = .int .i64 k ∧ wr.ownsRow w.heap.size 53 4 (.slice (some ⟨w.heap.size, 0, none⟩) l.length l.length) l.length (rowK (mixK l sl k) (l.length * 4)) ∧
      KP w.heap.size wr l sl k ∧ Below w.heap.size w wr ∧ w.heap.size < wr.heap.size) (fun i _ => l.length - (intOf i).toNat)
  case atStart => exact ⟨0, fun _ => .slice none 0 0, Nat.zero_le _, rfl, hown, KP.zero _ _ _ _, hbel, hz⟩
  case round =>
    clear hown hbel hz
    obtain ⟨k, sl, hk, rfl, howr, hP, hbr, hzr⟩ := hrel
    have hsz := hbr.size
    by_cases hlt : k < l.length
    · have q : (k : Int) < (l.length : Int) := by omega
      obtain ⟨g, off, a1, c1, a2, c2, a3, c3, e, hg, d0, d1, d2, d3, s1, s2, s3⟩ := h.below hbr k hlt
      subst e
      have hset := mixK_set l sl k (l.length * 4)
      obtain ⟨m1, m2, m3⟩ := mem_lns (ck_mem l k hlt)
      have n1 := hs _ m1
      have n2 := hs _ m2
      have n3 := hs _ m3
      have L0 := lns0 l k
      have L1 := lns1 l k
      have L2 := lns2 l k
      obtain ⟨C, hCe⟩ : ∃ C, l.getD k cnil = C := ⟨_, rfl⟩
      obtain ⟨x0, x1, x2, x3⟩ := C
      rw [hCe] at d0 d1 d2 d3 s1 s2 s3 n1 n2 n3 hset L0 L1 L2
      simp only [] at d0 d1 d2 d3 s1 s2 s3 n1 n2 n3 hset
      have HL0 : Hid (lns l (k * 3) = x1) := L0
      have HL1 : Hid (lns l (k * 3 + 1) = x2) := L1
      have HL2 : Hid (lns l (k * 3 + 2) = x3) := L2
      clear hCe L0 L1 L2 m1 m2 m3
      go_wp2_with fail
      refine (toChunk x0 a1 a2 a3 c1 c2 c3 x1 x2 x3 _ (s1.1.toSS hsz) (s2.1.toSS hsz) (s3.1.toSS hsz) n1 n2 n3).mono ?_; rintro e w2 ⟨g1, g2, g3, hg1, hg2, hg3, rfl, o1, o2, o3, b2⟩
      have ho2 := howr.kept (grownOfBelow b2 none) (.inr (by simp [Value.ownBlock]))
      have hP2 := hP.fr (Fr.ofBelow (lo := 0) (hi := 0) b2) (by omega)
      have hb2 : Below w.heap.size w w2 := below_step hbr hsz b2
      have z2 := b2.size
      have hlen : (rowK (mixK l sl k) (l.length * 4)).length = l.length * 4 := ho2.1
      have hcell : ∀ j, j < 4 → ∃ u, w2.cell? ⟨w.heap.size, k * 4 + j, none⟩ = some u := fun j hj => by
        rw [ho2.cellAt (k * 4 + j) (by omega), List.getElem?_eq_getElem (by omega)]; exact ⟨_, rfl⟩
      obtain ⟨u0, e0⟩ := hcell 0 (by omega)
      obtain ⟨u1, e1⟩ := hcell 1 (by omega)
      obtain ⟨u2, e2⟩ := hcell 2 (by omega)
      obtain ⟨u3, e3⟩ := hcell 3 (by omega)
      rw [Nat.add_zero] at e0
      have f0 := ho2.frozenAt (k * 4)
      have f1 := ho2.frozenAt (k * 4 + 1)
      have f2 := ho2.frozenAt (k * 4 + 2)
      have f3 := ho2.frozenAt (k * 4 + 3)
      have t0 := ho2.stored (k * 4) (.int .i64 x0)
      have t1 := t0.1.stored (k * 4 + 1) (.slice (some ⟨g1, 0, none⟩) x1.length x1.length)
      have t2 := t1.1.stored (k * 4 + 2) (.slice (some ⟨g2, 0, none⟩) x2.length x2.length)
      have t3 := t2.1.stored (k * 4 + 3) (.slice (some ⟨g3, 0, none⟩) x3.length x3.length)
      have hs3 := t3.1
      rw [hset] at hs3
      have hF := fourSets w2 w.heap.size (k * 4) (.int .i64 x0) (.slice (some ⟨g1, 0, none⟩) x1.length x1.length) (.slice (some ⟨g2, 0, none⟩) x2.length x2.length) (.slice (some ⟨g3, 0, none⟩) x3.length x3.length)
      obtain ⟨W9, hW9⟩ : ∃ W, ((((w2.setCell ⟨w.heap.size, k * 4, none⟩ (.int .i64 x0)).setCell ⟨w.heap.size, k * 4 + 1, none⟩ (.slice (some ⟨g1, 0, none⟩) x1.length x1.length)).setCell ⟨w.heap.size, k * 4 + 2, none⟩ (.slice (some ⟨g2, 0, none⟩) x2.length x2.length)).setCell ⟨w.heap.size, k * 4 + 3, none⟩ (.slice (some ⟨g3, 0, none⟩) x3.length x3.length)) = W := ⟨_, rfl⟩
      rw [hW9] at hs3 hF
      have HW9 : Hid (_ = W9) := hW9
      have HP : KP w.heap.size W9 l (sl3 sl k (.slice (some ⟨g1, 0, none⟩) x1.length x1.length) (.slice (some ⟨g2, 0, none⟩) x2.length x2.length) (.slice (some ⟨g3, 0, none⟩) x3.length x3.length)) (k + 1) := by
        refine KP.add (M := wr.heap.size) (hP2.fr hF (by omega)) (fun j hj b hb => (hP.bd j hj b hb).2) hzr ?_ ?_ ?_ (fun b hb => by have := blkOf hb; omega) (fun b hb => by have := blkOf hb; omega) (fun b hb => by have := blkOf hb; omega) (fun b hb hb' => by have := blkOf hb; have := blkOf hb'; omega) (fun b hb hb' => by have := blkOf hb; have := blkOf hb'; omega) (fun b hb hb' => by have := blkOf hb; have := blkOf hb'; omega)
        · rw [HL0.out]; exact ownMono (hF.own o1 (fun j hj => by have := blkOf hj; omega)) hsz
        · rw [HL1.out]; exact ownMono (hF.own o2 (fun j hj => by have := blkOf hj; omega)) hsz
        · rw [HL2.out]; exact ownMono (hF.own o3 (fun j hj => by have := blkOf hj; omega)) hsz
      have HB : Below w.heap.size w W9 := hF.below hb2 (Nat.le_refl _) hb2.size
      have HZ : w.heap.size < W9.heap.size := by have := hF.size; omega
      clear t0 t1 t2 t3 hset hb2 ho2 howr hbr b2 hcell hlen d0 d1 d2 d3 hP hP2 hF o1 o2 o3 s1 s2 s3 hW9
      go_wp2
      rw [HW9.out]
      go_roundw
      case rel => exact ⟨k + 1, _, by omega, by go_num, hs3, HP, HB, HZ⟩
      case measure => first | (simp [intOf]; omega) | simp [intOf]
    · have q : ¬ (k : Int) < (l.length : Int) := by omega
      obtain rfl : k = l.length := by omega
      rw [mixK_full] at howr
      have HF : Hid (KO w.heap.size wr (.slice (some ⟨w.heap.size, 0, none⟩) l.length l.length) l sl) := ⟨howr, hP.each, hP.apart, fun j hj b c1 c2 => by
        have := blkOf c1
        have := (hP.bd j hj b c2).1
        omega⟩
      clear howr hP
      go_wp2
      go_ret
      exact ⟨rfl, ⟨sl, HF.out⟩, hbr⟩

set_option maxRecDepth 20000 in
set_option maxHeartbeats 2000000 in
theorem eqChunkS (a1 a2 : Option Addr) (c1 c2 : Nat) (l : List Ck) (w : World) (h1 : KB w.heap.size w a1 l) (h2 : KB w.heap.size w a2 l) (hs : ShortK l) (hn : l.length ≤ 1048576) :
    Calls Try.prog 14 #[.slice a1 l.length c1, .slice a2 l.length c2] w fun e w' => e = .returned (.bool true) ∧ Below w.heap.size w w' := by
  have hl : ((l.length : Int) != (l.length : Int)) = false := by simp
  go_enter Try.func14, Try.ntmps14
  go_wp2
  go_loopw [5] (fun i wr => ∃ k : Nat, k ≤ l.length ∧ i = .int .i64 k ∧ Below w.heap.size w wr) (fun i _ => l.length - (intOf i).toNat)
  case atStart => exact ⟨0, Nat.zero_le _, rfl, Below.refl _ _⟩
  case round =>
    obtain ⟨k, hk, rfl, hbel⟩ := hrel
    have hsz := hbel.size
    by_cases hlt : k < l.length
    · have q : (k : Int) < (l.length : Int) := by omega
      obtain ⟨g, off, a1, c1, a2, c2, a3, c3, e, hg, d0, d1, d2, d3, s1, s2, s3⟩ := h1.below hbel k hlt
      obtain ⟨g', off', b1, k1, b2, k2, b3, k3, e', hg', f0, f1, f2, f3, t1, t2, t3⟩ := h2.below hbel k hlt
      subst e e'
      obtain ⟨m1, m2, m3⟩ := mem_lns (ck_mem l k hlt)
      have n1 := hs _ m1
      have n2 := hs _ m2
      have n3 := hs _ m3
      obtain ⟨C, hCe⟩ : ∃ C, l.getD k cnil = C := ⟨_, rfl⟩
      obtain ⟨x0, x1, x2, x3⟩ := C
      rw [hCe] at d0 d1 d2 d3 s1 s2 s3 f0 f1 f2 f3 t1 t2 t3 n1 n2 n3
      simp only [] at d0 d1 d2 d3 s1 s2 s3 f0 f1 f2 f3 t1 t2 t3 n1 n2 n3
      have S1 : SS wr.drew a1 x1 := s1.1.toSS hsz
      have S2 : SS wr.drew a2 x2 := s2.1.toSS hsz
      have S3 : SS wr.drew a3 x3 := s3.1.toSS hsz
      have T1 : SS wr.drew b1 x1 := t1.1.toSS hsz
      have T2 : SS wr.drew b2 x2 := t2.1.toSS hsz
      have T3 : SS wr.drew b3 x3 := t3.1.toSS hsz
      clear hCe h1 h2 s1 s2 s3 t1 t2 t3 m1 m2 m3
      go_wp2
      go_region_with (go_at_call 33; refine (eqChunk x0 _ _ _ _ _ _ _ _ _ _ _ _ x1 x2 x3 _ S1 S2 S3 T1 T2 T3 n1 n2 n3).mono ?_; rintro e w' ⟨rfl, b⟩)
      all_goals
        have b' : Below wr.heap.size wr w' := (below_drew (Below.refl wr.heap.size wr)).trans b
        have HB : Hid (Below w.heap.size w w') := below_step hbel hsz b'
        clear d0 d1 d2 d3 f0 f1 f2 f3 b b' hbel
        go_wp2
        go_roundw
        case rel => exact ⟨k + 1, by omega, by go_num, by first | exact HB.out | exact below_drew HB.out | exact below_drewN' HB.out _⟩
        case measure => first | (simp [intOf]; omega) | simp [intOf]
    · have q : ¬ (k : Int) < (l.length : Int) := by omega
      go_wp2
      go_ret
      exact ⟨rfl, hbel⟩
end Go.Proofs.Ytdememmijbbpfaj
