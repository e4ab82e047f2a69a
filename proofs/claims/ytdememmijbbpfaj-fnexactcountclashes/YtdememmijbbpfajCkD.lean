/- The contracts of CountClashes (the program's and the specification's). No statement is proved here. -/
import Derived.Test.YtdememmijbbpfajRows
import Derived.Test.YtdememmijbbpfajLem
import Derived.Test.YtdememmijbbpfajStrs
import Derived.Test.YtdememmijbbpfajLFLem
import Derived.Test.YtdememmijbbpfajDTab
import Derived.Test.YtdememmijbbpfajOwn
import Derived.Test.YtdememmijbbpfajFr
import Derived.Test.YtdememmijbbpfajIn
import Derived.Test.YtdememmijbbpfajHkT
import Derived.Test.YtdememmijbbpfajCkL
import Derived.Test.YtdememmijbbpfajCkC
import Derived.Test.YtdememmijbbpfajCkB
import Derived.Test.YtdememmijbbpfajCkI
import Derived.Test.YtdememmijbbpfajCkS
import Derived.WalkKit
import Derived.ProofKit
import Derived.Below
import Derived.WalkSpells
import Derived.Deep.QuietTactic
import Derived.BigQuiet
namespace Go.Proofs.Ytdememmijbbpfaj
open Go.ChangeShapes Go.WideShapes Go.ChangeAt Go.RowKit

/-- How many clash. -/
def cc1 (c : Ck) : Int := if c.1 = 4 then 1 else 0
def cc (l : List Ck) : Int := (l.map cc1).sum
theorem cc_take (l : List Ck) (k : Nat) (h : k < l.length) : cc (l.take (k + 1)) = cc (l.take k) + cc1 (l.getD k cnil) := by
  unfold cc
  rw [List.take_succ_eq_append_getElem h, List.map_append, List.sum_append]
  simp [List.getD, h]
theorem cc_bd (l : List Ck) : 0 ≤ cc l ∧ cc l ≤ l.length := by
  unfold cc
  induction l with
  | nil => simp
  | cons c t ih =>
    have : 0 ≤ cc1 c ∧ cc1 c ≤ 1 := by unfold cc1; split <;> omega
    simp only [List.map_cons, List.sum_cons, List.length_cons]
    omega
def ccV (l : List Ck) : Int := if cf l = 0 then cc l else 0
theorem ret_2 {a b c d : Int} (h : a = c) (k : b = d) : Ending.returned (.agg #[.int .i64 a, .int .i64 b]) = .returned (.agg #[.int .i64 c, .int .i64 d]) := by rw [h, k]

set_option maxRecDepth 20000 in
set_option maxHeartbeats 2000000 in
theorem clashCount (a : Option Addr) (c : Nat) (l : List Ck) (w : World) (h : KB w.heap.size w a l) (hn : l.length ≤ 1048576) :
    Calls Try.prog 62 #[.slice a l.length c] w fun e w' => e = .returned (.int .i64 (cc l)) ∧ Below w.heap.size w w' := by
  go_enter Try.func62, Try.ntmps62
  go_wp2
  go_loopw [3, 8] (fun t i wr => ∃ k : Nat, k ≤ l.length ∧ i = .int .i64 k ∧ t = .int .i64 (cc (l.take k)) ∧ Below w.heap.size w wr) (fun _ i _ => l.length - (intOf i).toNat)
  case atStart => exact ⟨0, Nat.zero_le _, rfl, rfl, Below.refl _ _⟩
  case round =>
    obtain ⟨k, hk, rfl, rfl, hbel⟩ := hrel
    have hsz := hbel.size
    have hb := cc_bd (l.take k)
    have hb2 : ((l.take k).length : Int) ≤ 1048576 := by rw [List.length_take]; omega
    obtain ⟨hb0, hb1⟩ := hb
    by_cases hlt : k < l.length
    · have q : (k : Int) < (l.length : Int) := by omega
      obtain ⟨g, off, a1, c1, a2, c2, a3, c3, e, hg, d0, d1, d2, d3, s1, s2, s3⟩ := h.below hbel k hlt
      subst e
      have hT := cc_take l k hlt
      obtain ⟨C, hCe⟩ : ∃ C, l.getD k cnil = C := ⟨_, rfl⟩
      obtain ⟨x0, x1, x2, x3⟩ := C
      rw [hCe] at d0 d1 d2 d3 hT
      simp only [] at d0 d1 d2 d3
      obtain ⟨N, hN⟩ : ∃ N, cc (l.take k) = N := ⟨_, rfl⟩
      rw [hN] at hT hb0 hb1 ⊢
      have HB := below_step hbel hsz (allocBelow wr (.cells #[.int .i64 x0, .slice a1 x1.length c1, .slice a2 x2.length c2, .slice a3 x3.length c3] 53))
      by_cases e4 : x0 = 4
      · have HT : Hid (cc (l.take (k + 1)) = N + 1) := by show _ = _; rw [hT]; unfold cc1; rw [if_pos e4]
        have q4 : (x0 == 4) = true := by simp [e4]
        clear hT hCe s1 s2 s3 hN e4
        go_wp2
        go_roundw
        case rel => exact ⟨k + 1, by omega, by go_num, by rw [HT.out], HB⟩
        case measure => first | (simp [intOf]; omega) | simp [intOf]
      · have HT : Hid (cc (l.take (k + 1)) = N) := by show _ = _; rw [hT]; unfold cc1; rw [if_neg e4, Int.add_zero]
        have q4 : (x0 == 4) = false := by simp [e4]
        clear hT hCe s1 s2 s3 hN e4
        go_wp2
        go_roundw
        case rel => exact ⟨k + 1, by omega, by go_num, by rw [HT.out], HB⟩
        case measure => first | (simp [intOf]; omega) | simp [intOf]
    · have q : ¬ (k : Int) < (l.length : Int) := by omega
      have HT : Hid (cc l = cc (l.take k)) := by show _ = _; rw [List.take_of_length_le (by omega)]
      clear hb0 hb1 hb2
      go_wp2
      go_ret
      exact ⟨ret_int HT.out.symm, hbel⟩

set_option maxRecDepth 20000 in
set_option maxHeartbeats 2000000 in
theorem implCountClashes (a : Option Addr) (c : Nat) (l : List Ck) (w : World) (h : KB w.heap.size w a l) (hn : l.length ≤ 1048576) (hs : ShortK l) (hf : FitsK l) (hl : ∀ i, i < 3 → (sideL i l).length ≤ 1048576) :
    Calls Try.prog 35 #[.slice a l.length c] w fun e w' => e = .returned (.agg #[.int .i64 (cf l), .int .i64 (ccV l)]) ∧ Below w.heap.size w w' := by
  have hA := fun w h => implChunksFault a c l w h hn hs hf hl
  have hV0 : ¬ cf l = 0 → ccV l = 0 := fun e => if_neg e
  have hV1 : cf l = 0 → ccV l = cc l := fun e => if_pos e
  obtain ⟨F, hF⟩ : ∃ F, cf l = F := ⟨_, rfl⟩
  rw [hF] at hA hV0 hV1 ⊢
  clear hF
  obtain ⟨W1, hW1⟩ : ∃ W1, w.alloc (.cells #[.int .i64 0, .int .i64 0] 59) = W1 := ⟨_, rfl⟩
  have b1 : Below w.heap.size w W1 := by rw [← hW1]; exact allocBelow _ _
  have zW : w.heap.size < W1.heap.size := by rw [← hW1]; simp
  have r1 : Res2 W1 w.heap.size (.int .i64 0) (.int .i64 0) := by rw [← hW1]; exact Res2.new _ _ _ _
  have A1 := h.below b1
  by_cases e0 : F = 0
  · have hC : Hid (ccV l = cc l) := hV1 e0
    subst e0
    clear hV0 hV1
    go_enter Try.func35, Try.ntmps35
    go_wp2_with fail
    refine (hA _ (A1.mono (by omega))).mono ?_; rintro e w2 ⟨rfl, b2⟩
    have A2 := A1.below b2
    have r2 := r1.below zW b2
    have B2 := b1.trans (b2.mono b1.size)
    have z2 : w.heap.size < w2.heap.size := Nat.lt_of_lt_of_le zW b2.size
    clear A1 r1 b1 b2 hA hW1 h zW
    go_wp2_with fail
    refine (clashCount a c l _ (A2.mono (by omega)) hn).mono ?_; rintro e w3 ⟨rfl, b3⟩
    have r3 := r2.below z2 b3
    have B3 := B2.trans (b3.mono B2.size)
    have d0 := r3.c0
    have d1 := r3.c1
    have f0 := r3.f0
    have f1 := r3.f1
    have HB : Hid (Below w.heap.size w ((w3.setCell ⟨w.heap.size, 0, none⟩ (.int .i64 0)).setCell ⟨w.heap.size, 1, none⟩ (.int .i64 (cc l)))) := below_sets B3 (Nat.le_refl _) _ _
    obtain ⟨N, hN⟩ : ∃ N, cc l = N := ⟨_, rfl⟩
    rw [hN] at hC HB ⊢
    clear r2 r3 B2 B3 b3 A2 hN
    go_wp2
    refine bodyPost_ret (v := .agg #[.int .i64 0, .int .i64 N]) (by simp [results, Try.results35, go_sem, d0, d1]) rfl ?_
    exact ⟨ret_2 rfl hC.out.symm, HB.out⟩
  · have hC : Hid (ccV l = 0) := hV0 e0
    have q0 : (F != 0) = true := by simp [e0]
    clear hV0 hV1
    go_enter Try.func35, Try.ntmps35
    go_wp2_with fail
    refine (hA _ (A1.mono (by omega))).mono ?_; rintro e w2 ⟨rfl, b2⟩
    have r2 := r1.below zW b2
    have B2 := b1.trans (b2.mono b1.size)
    have d0 := r2.c0
    have d1 := r2.c1
    have f0 := r2.f0
    have f1 := r2.f1
    have HB : Hid (Below w.heap.size w ((w2.setCell ⟨w.heap.size, 0, none⟩ (.int .i64 F)).setCell ⟨w.heap.size, 1, none⟩ (.int .i64 0))) := below_sets B2 (Nat.le_refl _) _ _
    clear A1 r1 b1 b2 hA hW1 h zW r2 B2 e0
    go_wp2
    refine bodyPost_ret (v := .agg #[.int .i64 F, .int .i64 0]) (by simp [results, Try.results35, go_sem, d0, d1]) rfl ?_
    exact ⟨ret_2 rfl hC.out.symm, HB.out⟩

set_option maxRecDepth 20000 in
set_option maxHeartbeats 2000000 in
theorem specCountClashes (a : Option Addr) (c : Nat) (l : List Ck) (w : World) (h : KB w.heap.size w a l) (hn : l.length ≤ 1048576) (hs : ShortK l) (hf : FitsK l) (hl : ∀ i, i < 3 → (sideL i l).length ≤ 1048576) (ht : ∀ i, i < 3 → tot (sideL i l) ≤ 1048576) :
    Calls Try.prog 34 #[.slice a l.length c] w fun e w' => e = .returned (.agg #[.int .i64 (cf l), .int .i64 (ccV l)]) ∧ Below w.heap.size w w' := by
  have hA := fun w h => specChunksFault a c l w h hn hs hf hl ht
  have hV0 : ¬ cf l = 0 → ccV l = 0 := fun e => if_neg e
  have hV1 : cf l = 0 → ccV l = cc l := fun e => if_pos e
  obtain ⟨F, hF⟩ : ∃ F, cf l = F := ⟨_, rfl⟩
  rw [hF] at hA hV0 hV1 ⊢
  clear hF
  obtain ⟨W1, hW1⟩ : ∃ W1, w.alloc (.cells #[.int .i64 0, .int .i64 0] 59) = W1 := ⟨_, rfl⟩
  have b1 : Below w.heap.size w W1 := by rw [← hW1]; exact allocBelow _ _
  have zW : w.heap.size < W1.heap.size := by rw [← hW1]; simp
  have r1 : Res2 W1 w.heap.size (.int .i64 0) (.int .i64 0) := by rw [← hW1]; exact Res2.new _ _ _ _
  have A1 := h.below b1
  by_cases e0 : F = 0
  · have hC : Hid (ccV l = cc l) := hV1 e0
    subst e0
    clear hV0 hV1
    go_enter Try.func34, Try.ntmps34
    go_wp2_with fail
    refine (hA _ (A1.mono (by omega))).mono ?_; rintro e w2 ⟨rfl, b2⟩
    have A2 := A1.below b2
    have r2 := r1.below zW b2
    have B2 := b1.trans (b2.mono b1.size)
    have z2 : w.heap.size < w2.heap.size := Nat.lt_of_lt_of_le zW b2.size
    clear A1 r1 b1 b2 hA hW1 h zW
    go_wp2
    go_loopw [4, 5] (fun t i wr => ∃ k : Nat, k ≤ l.length ∧ i = .int .i64 k ∧ t = .int .i64 (cc (l.take k)) ∧ Below w2.heap.size w2 wr) (fun _ i _ => l.length - (intOf i).toNat)
    case atStart => exact ⟨0, Nat.zero_le _, rfl, rfl, Below.refl _ _⟩
    case round =>
      obtain ⟨k, hk, rfl, rfl, hbel⟩ := hrel
      have hsz := hbel.size
      have hb := cc_bd (l.take k)
      have hb2 : ((l.take k).length : Int) ≤ 1048576 := by rw [List.length_take]; omega
      obtain ⟨hb0, hb1⟩ := hb
      by_cases hlt : k < l.length
      · have q : (k : Int) < (l.length : Int) := by omega
        obtain ⟨g, off, a1, c1, a2, c2, a3, c3, e, hg, d0, d1, d2, d3, s1, s2, s3⟩ := A2.below hbel k hlt
        subst e
        have hT := cc_take l k hlt
        obtain ⟨C, hCe⟩ : ∃ C, l.getD k cnil = C := ⟨_, rfl⟩
        obtain ⟨x0, x1, x2, x3⟩ := C
        rw [hCe] at d0 d1 d2 d3 hT
        simp only [] at d0 d1 d2 d3
        obtain ⟨N, hN⟩ : ∃ N, cc (l.take k) = N := ⟨_, rfl⟩
        rw [hN] at hT hb0 hb1 ⊢
        by_cases e4 : x0 = 4
        · have HT : Hid (cc (l.take (k + 1)) = N + 1) := by show _ = _; rw [hT]; unfold cc1; rw [if_pos e4]
          have q4 : (x0 == 4) = true := by simp [e4]
          clear hT hCe s1 s2 s3 hN e4
          go_wp2
          go_roundw
          case rel => exact ⟨k + 1, by omega, by go_num, by rw [HT.out], hbel⟩
          case measure => first | (simp [intOf]; omega) | simp [intOf]
        · have HT : Hid (cc (l.take (k + 1)) = N) := by show _ = _; rw [hT]; unfold cc1; rw [if_neg e4, Int.add_zero]
          have q4 : (x0 == 4) = false := by simp [e4]
          clear hT hCe s1 s2 s3 hN e4
          go_wp2
          go_roundw
          case rel => exact ⟨k + 1, by omega, by go_num, by rw [HT.out], hbel⟩
          case measure => first | (simp [intOf]; omega) | simp [intOf]
      · have q : ¬ (k : Int) < (l.length : Int) := by omega
        have HT : Hid (ccV l = cc (l.take k)) := by show _ = _; rw [List.take_of_length_le (by omega)]; exact hC.out
        have r3 := r2.below z2 hbel
        have B3 := B2.trans (hbel.mono B2.size)
        have d0 := r3.c0
        have d1 := r3.c1
        have f0 := r3.f0
        have f1 := r3.f1
        obtain ⟨N, hN⟩ : ∃ N, cc (l.take k) = N := ⟨_, rfl⟩
        rw [hN] at HT ⊢
        have HB : Hid (Below w.heap.size w ((wr.setCell ⟨w.heap.size, 0, none⟩ (.int .i64 0)).setCell ⟨w.heap.size, 1, none⟩ (.int .i64 N))) := below_sets B3 (Nat.le_refl _) _ _
        clear hb0 hb1 hb2 r2 r3 B2 B3 A2 hN
        go_wp2
        refine bodyPost_ret (v := .agg #[.int .i64 0, .int .i64 N]) (by simp [results, Try.results34, go_sem, d0, d1]) rfl ?_
        exact ⟨ret_2 rfl HT.out.symm, HB.out⟩
  · have hC : Hid (ccV l = 0) := hV0 e0
    have q0 : (F != 0) = true := by simp [e0]
    clear hV0 hV1
    go_enter Try.func34, Try.ntmps34
    go_wp2_with fail
    refine (hA _ (A1.mono (by omega))).mono ?_; rintro e w2 ⟨rfl, b2⟩
    have r2 := r1.below zW b2
    have B2 := b1.trans (b2.mono b1.size)
    have d0 := r2.c0
    have d1 := r2.c1
    have f0 := r2.f0
    have f1 := r2.f1
    have HB : Hid (Below w.heap.size w ((w2.setCell ⟨w.heap.size, 0, none⟩ (.int .i64 F)).setCell ⟨w.heap.size, 1, none⟩ (.int .i64 0))) := below_sets B2 (Nat.le_refl _) _ _
    clear A1 r1 b1 b2 hA hW1 h zW r2 B2 e0
    go_wp2
    refine bodyPost_ret (v := .agg #[.int .i64 F, .int .i64 0]) (by simp [results, Try.results34, go_sem, d0, d1]) rfl ?_
    exact ⟨ret_2 rfl hC.out.symm, HB.out⟩

theorem eqIntResK (c v : Int) (w : World) :
    Calls Try.prog 36 #[.agg #[.int .i64 c, .int .i64 v], .agg #[.int .i64 c, .int .i64 v]] w fun e w' => e = .returned (.bool true) ∧ Below w.heap.size w w' := by
  have q0 : (c != c) = false := by simp
  have q1 : (v != v) = false := by simp
  have hN : ∀ o1 o2, Below w.heap.size w ((w.alloc o1).alloc o2) := fun o1 o2 => ((Below.refl _ _).alloc (Nat.le_refl _) _).alloc (by simp) _
  go_enter Try.func36, Try.ntmps36
  go_wp2
  go_ret
  exact ⟨rfl, hN _ _⟩
end Go.Proofs.Ytdememmijbbpfaj
