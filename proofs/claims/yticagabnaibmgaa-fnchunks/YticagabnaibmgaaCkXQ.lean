/- The contracts of SwapChunks (the program's and the specification's). No statement is proved here. -/
import Derived.Test.YticagabnaibmgaaRows
import Derived.Test.YticagabnaibmgaaLemQ
import Derived.Test.YticagabnaibmgaaLFLemQ
import Derived.Test.YticagabnaibmgaaDTabQ
import Derived.Test.YticagabnaibmgaaInQ
import Derived.Test.YticagabnaibmgaaHkTQ
import Derived.Test.YticagabnaibmgaaCkLQ
import Derived.Test.YticagabnaibmgaaCkCQ
import Derived.Test.YticagabnaibmgaaCkBQ
import Derived.Test.YticagabnaibmgaaCkNQ
import Derived.Test.YticagabnaibmgaaCkTQ
import Derived.Test.YticagabnaibmgaaCkMQ
import Derived.Test.YticagabnaibmgaaCkPQ
import Derived.WalkKit
import Derived.ProofKit
import Derived.Below
import Derived.WalkSpells
import Derived.Deep.RegionHeld
import Derived.Maps.AppendAt
namespace Go.Proofs.Yticagabnaibmgaa
open Go.ChangeShapes Go.WideShapes Go.ChangeAt Go.RowKit

/-- Ours and Theirs changed. -/
def swC (c : Ck) : Ck := (kd c.2.1 c.2.2.2 c.2.2.1, c.2.1, c.2.2.2, c.2.2.1)
def swL (l : List Ck) : List Ck := if cf l = 0 then l.map swC else []
theorem swC_take (l : List Ck) (k : Nat) (h : k < l.length) : (l.take (k + 1)).map swC = (l.take k).map swC ++ [swC (l.getD k cnil)] := by
  rw [List.take_succ_eq_append_getElem h, List.map_append]
  simp [List.getD, h]
theorem ckF_zero {l : List Ck} (h : ckF l = 0) : ∀ c ∈ l, ck1 c = 0 := by
  induction l with
  | nil => intro c hc; cases hc
  | cons a t ih =>
    rw [ckF] at h
    by_cases e : ck1 a = 0
    · rw [if_pos e] at h
      intro c hc
      rcases List.mem_cons.1 hc with rfl | hc
      · exact e
      · exact ih h c hc
    · rw [if_neg e] at h; exact absurd h e
theorem ck1_full {c : Ck} (h : ck1 c = 0) : bare c = false := by
  cases e : bare c with
  | false => rfl
  | true =>
    cases e2 : inB c.1 0 4 with
    | false => rw [ck1_range e2] at h; exact absurd h (by decide)
    | true => rw [ck1_bare e2 e] at h; exact absurd h (by decide)
theorem cf_zero {l : List Ck} (h : cf l = 0) : ckF l = 0 := by
  unfold cf at h
  by_cases e : 201 < (l.length : Int)
  · rw [if_pos e] at h; exact absurd h (by decide)
  rw [if_neg e] at h
  by_cases k : ckF l = 0
  · exact k
  · rw [if_pos k] at h; exact absurd h k
theorem bareP {k : Int} {x1 x2 x3 : List ByteArray} (h : bare (k, x1, x2, x3) = false) : bare (0, x1, x3, x2) = false := by
  unfold bare at h ⊢
  have := of_decide_eq_false h
  simp only [] at this
  exact decide_eq_false (by simp only []; omega)
/-- Every line is short. -/
def TinyK (l : List Ck) : Prop := ∀ ss ∈ lnsAll l, ∀ k, k < ss.length → (ss.getD k ByteArray.empty).size ≤ 1048576
theorem KO.empty {base : Nat} {w : World} {v : Value} (sl : Nat → Value) (h : w.ownsRow base 38 4 v 0 []) : KO base w v [] sl :=
  ⟨h, fun _ h => absurd h (Nat.not_lt_zero _), fun _ _ _ h => absurd h (Nat.not_lt_zero _), fun _ h => absurd h (Nat.not_lt_zero _)⟩

set_option maxRecDepth 20000 in
set_option maxHeartbeats 4000000 in
theorem implSwapChunks (a : Option Addr) (c : Nat) (l : List Ck) (w : World) (h : KB w.heap.size w a l) (hn : l.length ≤ 1048576) (hs : ShortK l) (hf : FitsK l) (hl : ∀ i, i < 3 → (sideL i l).length ≤ 1048576) (hy : TinyK l) :
    Calls Try.prog 12 #[.slice a l.length c] w fun e w' => KP2 (cf l) (swL l) w e w' := by
  have hA := fun w h => implChunksFault a c l w h hn hs hf hl
  have hV0 : ¬ cf l = 0 → swL l = [] := fun e => if_neg e
  have hV1 : cf l = 0 → swL l = l.map swC := fun e => if_pos e
  obtain ⟨i1, hi', hy0, hy1, hy2⟩ := info_parts infoChunk
  obtain ⟨R, hR⟩ : ∃ R, swL l = R := ⟨_, rfl⟩
  rw [hR] at hV0 hV1 ⊢
  obtain ⟨F, hF⟩ : ∃ F, cf l = F := ⟨_, rfl⟩
  rw [hF] at hA hV0 hV1 ⊢
  clear hF hR
  obtain ⟨W1, hW1⟩ : ∃ W1, w.alloc (.cells #[.int .i64 0, .slice none 0 0] 29) = W1 := ⟨_, rfl⟩
  have b1 : Below w.heap.size w W1 := by rw [← hW1]; exact allocBelow _ _
  have zW : w.heap.size < W1.heap.size := by rw [← hW1]; simp
  have r1 : Res2 W1 w.heap.size (.int .i64 0) (.slice none 0 0) := by rw [← hW1]; exact Res2.new _ _ _ _
  have A1 := h.below b1
  by_cases e0 : F = 0
  · have hC : Hid (R = l.map swC) := hV1 e0
    subst e0
    clear hV0 hV1
    go_enter Try.func12, Try.ntmps12
    go_wp2_with fail
    refine (hA _ (A1.mono (by omega))).mono ?_; rintro e w2 ⟨rfl, b2⟩
    have A2 := A1.below b2
    have r2 := r1.below zW b2
    have B2 := b1.trans (b2.mono b1.size)
    have z2 : w.heap.size < w2.heap.size := Nat.lt_of_lt_of_le zW b2.size
    clear A1 r1 b1 b2 hA hW1 h zW
    go_wp2
    go_loopw [4, 16] (fun v i wr => ∃ (k : Nat) (sl : Nat → Value), k ≤ l.length ∧ i = .int .i64 k ∧ KO w2.heap.size wr v ((l.take k).map swC) sl ∧ Below w2.heap.size w2 wr) (fun _ i _ => l.length - (intOf i).toNat)
    case atStart => exact ⟨0, fun _ => .slice none 0 0, Nat.zero_le _, rfl, KO.nil _ _ _, Below.refl _ _⟩
    case round =>
      obtain ⟨k, sl, hk, rfl, hO, hbel⟩ := hrel
      have hsz := hbel.size
      by_cases hlt : k < l.length
      · have q : (k : Int) < (l.length : Int) := by omega
        obtain ⟨g, off, a1, c1, a2, c2, a3, c3, e, hg, d0, d1, d2, d3, s1, s2, s3⟩ := A2.below hbel k hlt
        subst e
        have hT := swC_take l k hlt
        obtain ⟨m1, m2, m3⟩ := mem_lns (ck_mem l k hlt)
        have n1 := hs _ m1
        have n2 := hs _ m2
        have n3 := hs _ m3
        have y1 := hy _ m1
        have y2 := hy _ m2
        have y3 := hy _ m3
        have hLl : ((l.take k).map swC).length ≤ 1048576 := by rw [List.length_map, List.length_take]; omega
        obtain ⟨C, hCe⟩ : ∃ C, l.getD k cnil = C := ⟨_, rfl⟩
        obtain ⟨x0, x1, x2, x3⟩ := C
        rw [hCe] at d0 d1 d2 d3 s1 s2 s3 n1 n2 n3 y1 y2 y3 hT
        simp only [] at d0 d1 d2 d3 s1 s2 s3 n1 n2 n3 y1 y2 y3
        have HT : Hid ((l.take (k + 1)).map swC = (l.take k).map swC ++ [(kd x1 x3 x2, x1, x3, x2)]) := hT
        obtain ⟨LL, hLL⟩ : ∃ LL, (l.take k).map swC = LL := ⟨_, rfl⟩
        rw [hLL] at hO hLl HT
        obtain ⟨ra, rc, er⟩ := shapeK hO.row
        subst er
        have hVb : ∀ b, (Value.slice ra LL.length rc).ownBlock = some b → w2.heap.size ≤ b ∧ b < wr.heap.size := fun b hb => hO.row.lt b hb
        have hSl : ∀ k, k < LL.length * 3 → ∀ b, (sl k).ownBlock = some b → b < wr.heap.size := fun k hk b hb => ((hO.each k hk).lt b hb).2
        have hwz : w.heap.size ≤ wr.heap.size := by omega
        obtain ⟨W3, hW3⟩ : ∃ W, wr.alloc (.cells #[.int .i64 x0, .slice a1 x1.length c1, .slice a2 x2.length c2, .slice a3 x3.length c3] 38) = W := ⟨_, rfl⟩
        have R3 : Rs W3 wr.heap.size [.int .i64 x0, .slice a1 x1.length c1, .slice a2 x2.length c2, .slice a3 x3.length c3] := by rw [← hW3]; exact Rs.new _ _ _
        have b3 : Below wr.heap.size wr W3 := by rw [← hW3]; exact allocBelow _ _
        have e1 := R3 1 _ rfl
        have e2 := R3 2 _ rfl
        have e3 := R3 3 _ rfl
        obtain ⟨W4, hW4⟩ : ∃ W, W3.alloc (.cells #[.slice a1 x1.length c1, .slice a3 x3.length c3, .slice a2 x2.length c2] 69) = W := ⟨_, rfl⟩
        have b4 : Below wr.heap.size wr W4 := by rw [← hW4]; exact goB (allocBelow _ _) b3
        have R4 : Rs W4 W3.heap.size [.slice a1 x1.length c1, .slice a3 x3.length c3, .slice a2 x2.length c2] := by rw [← hW4]; exact Rs.new _ _ _
        have g0 := R4 0 _ rfl
        have g1 := R4 1 _ rfl
        have g2 := R4 2 _ rfl
        have z4 := b4.size
        have hNC := newChunk a1 a3 a2 c1 c3 c2 x1 x3 x2 W4 (((s1.below b4).mono (by omega)).1) (((s3.below b4).mono (by omega)).1) (((s2.below b4).mono (by omega)).1) n1 n3 n2 y1 y3 y2
        have H4 := hO.below b4
        have B4 := below_step hbel hsz b4
        have HW4 : Hid (W3.alloc (.cells #[.slice a1 x1.length c1, .slice a3 x3.length c3, .slice a2 x2.length c2] 69) = W4) := hW4
        obtain ⟨K, hKe⟩ : ∃ K, kd x1 x3 x2 = K := ⟨_, rfl⟩
        unfold NP at hNC
        rw [hKe] at hNC HT
        clear hT hCe hLL m1 m2 m3 s1 s2 s3 hO n1 n2 n3 y1 y2 y3 R3 R4 hKe hW4 b3
        go_wp2_with fail
        rw [HW4.out]
        refine hNC.mono ?_; rintro e w5 ⟨v1, v2, v3, rfl, C5, b5⟩
        obtain ⟨va1, vc1, ev1⟩ := shapeS C5.o1
        obtain ⟨va2, vc2, ev2⟩ := shapeS C5.o2
        obtain ⟨va3, vc3, ev3⟩ := shapeS C5.o3
        simp only [] at ev1 ev2 ev3
        subst ev1 ev2 ev3
        have l1 := fun b hb => (C5.o1.lt b hb).1
        have l2 := fun b hb => (C5.o2.lt b hb).1
        have l3 := fun b hb => (C5.o3.lt b hb).1
        have H5 := H4.below b5
        have B5 := below_step B4 B4.size b5
        have s5 := b5.size
        have hPU := fun (W6 : World) (v' : Value) o p6 g6 k6 => KO.push (w6 := W6) (v' := v') (o := o) (M := W4.heap.size) (C := (K, x1, x3, x2)) H5 (C5.mono (by omega)) (fun b hb => by have := (hVb b hb).2; omega) (fun k hk b hb => by have := hSl k hk b hb; omega) l1 l2 l3 p6 g6 k6
        have hrow := H5.row
        clear hNC C5 l1 l2 l3 H4 B4 b5 d0 d1 d2 d3 e1 e2 e3 g0 g1 g2 hW3 HW4 hSl
        go_wp2_with ((at_builtin; refine wpList_append_own_at _ rfl (.tmp 27) (.tmp 30) 27 rfl w2.heap.size 38 i1 (.agg #[.int .i64 0, .slice none 0 0, .slice none 0 0, .slice none 0 0]) 4 80 Try.underlying27 hi' hy0 hy1 hy2 rfl (by decide) _ _ _ rfl (hrow.alloc _) ⟨w5.heap.size, 0, none⟩ 1 1 [.int .i64 K, .slice va1 x1.length vc1, .slice va2 x3.length vc2, .slice va3 x2.length vc3] rfl rfl (newsCells w5 #[.int .i64 K, .slice va1 x1.length vc1, .slice va2 x3.length vc2, .slice va3 x2.length vc3] 38) (by simp [Value.oneCell']) (by unfold maxLen; omega) (by omega) (by simp; omega) ?_; intro v' W6 p6 g6 _ k6))
        have O6 := hPU W6 v' _ p6 g6 k6
        have B6 : Below w2.heap.size w2 W6 := (B5.alloc B5.size _).grown g6 (by simp; omega) (fun j hj => (hVb j hj).1)
        rw [← HT.out] at O6
        clear hPU p6 g6 k6 hrow H5 B5
        go_roundw
        case rel => exact ⟨k + 1, _, by omega, by go_num, O6, B6⟩
        case measure => first | (simp [intOf]; omega) | simp [intOf]
      · have q : ¬ (k : Int) < (l.length : Int) := by omega
        rw [List.take_of_length_le (by omega), ← hC.out] at hO
        obtain ⟨ra, rc, er⟩ := shapeK hO.row
        subst er
        have r3 := r2.below z2 hbel
        have B3 := B2.trans (hbel.mono B2.size)
        have d0 := r3.c0
        have d1 := r3.c1
        have f0 := r3.f0
        have f1 := r3.f1
        have HB : Hid (Below w.heap.size w ((wr.setCell ⟨w.heap.size, 0, none⟩ (.int .i64 0)).setCell ⟨w.heap.size, 1, none⟩ (.slice ra R.length rc))) := below_sets B3 (Nat.le_refl _) _ _
        have HO : Hid (KO w.heap.size ((wr.setCell ⟨w.heap.size, 0, none⟩ (.int .i64 0)).setCell ⟨w.heap.size, 1, none⟩ (.slice ra R.length rc)) (.slice ra R.length rc) R sl) := by
          show KO _ _ _ _ _
          exact (hO.fr (Fr.ofGrown (lo := w.heap.size) (hi := w.heap.size + 1) (grownTrans (grownSet wr w.heap.size 0 (.int .i64 0)) (grownSet _ w.heap.size 1 (.slice ra R.length rc))) (fun j hj => by cases hj; omega)) (fun j hj => by have := (hO.row.lt j hj).1; omega) (fun n hn j hj => by have := ((hO.each n hn).lt j hj).1; omega)).mono (by omega)
        clear hO r2 r3 B2 B3 A2 hC
        go_wp2
        refine bodyPost_ret (v := .agg #[.int .i64 0, .slice ra R.length rc]) (by simp [results, Try.results12, go_sem, d0, d1]) rfl ?_
        exact ⟨_, _, rfl, HO.out, HB.out⟩
  · have hC : Hid (R = []) := hV0 e0
    have q0 : (F != 0) = true := by simp [e0]
    clear hV0 hV1
    go_enter Try.func12, Try.ntmps12
    go_wp2_with fail
    refine (hA _ (A1.mono (by omega))).mono ?_; rintro e w2 ⟨rfl, b2⟩
    have r2 := r1.below zW b2
    have B2 := b1.trans (b2.mono b1.size)
    have d0 := r2.c0
    have d1 := r2.c1
    have f0 := r2.f0
    have f1 := r2.f1
    have HB : Hid (Below w.heap.size w ((w2.setCell ⟨w.heap.size, 0, none⟩ (.int .i64 F)).setCell ⟨w.heap.size, 1, none⟩ (.slice none 0 0))) := below_sets B2 (Nat.le_refl _) _ _
    clear A1 r1 b1 b2 hA hW1 h zW r2 B2 e0
    go_wp2
    refine bodyPost_ret (v := .agg #[.int .i64 F, .slice none 0 0]) (by simp [results, Try.results12, go_sem, d0, d1]) rfl ?_
    exact ⟨_, fun _ => .slice none 0 0, rfl, by rw [hC.out]; exact KO.nil _ _ _, HB.out⟩
end Go.Proofs.Yticagabnaibmgaa
