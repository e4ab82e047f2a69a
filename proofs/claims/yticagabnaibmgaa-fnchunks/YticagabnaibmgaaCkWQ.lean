/- The contracts of WeaveSide (the program's and the specification's). No statement is proved here. -/
import Derived.Test.YticagabnaibmgaaRows
import Derived.Test.YticagabnaibmgaaLemQ
import Derived.Test.YticagabnaibmgaaLFLemQ
import Derived.Test.YticagabnaibmgaaDTabQ
import Derived.Test.YticagabnaibmgaaInQ
import Derived.Test.YticagabnaibmgaaHkTQ
import Derived.Test.YticagabnaibmgaaWvCQ
import Derived.Test.YticagabnaibmgaaCkLQ
import Derived.Test.YticagabnaibmgaaCkCQ
import Derived.Test.YticagabnaibmgaaCkBQ
import Derived.WalkKit
import Derived.ProofKit
import Derived.Below
import Derived.WalkSpells
import Derived.Deep.QuietTactic
import Derived.BigQuiet
namespace Go.Proofs.Yticagabnaibmgaa
open Go.ChangeShapes Go.WideShapes Go.ChangeAt Go.RowKit

theorem size_tot {ss : List ByteArray} (k : Nat) (h : k < ss.length) : ((ss.getD k ByteArray.empty).size : Int) ≤ tot ss := by
  have h1 := tot_take ss k h
  have h2 := tot_take_le ss (k + 1)
  have h3 := tot_nonneg (ss.take k)
  omega
/-- Lines that are copied into new memory. -/
theorem copyNew (ms : List ByteArray) (a : Option Addr) (c : Nat) (w : World) (hm : SS w a ms) (hz : ∀ k, k < ms.length → (ms.getD k ByteArray.empty).size ≤ 1048576) (hn : ms.length ≤ 1048576) :
    Calls Try.prog 35 #[.slice none 0 0, .slice a ms.length c] w fun e w' => RP ms w e w' :=
  (appendCopies w.heap.size (.slice none 0 0) [] ms a c w ⟨rfl, .inl ⟨rfl, rfl⟩⟩ hm (Nat.le_refl _) hz (by simpa using hn)).mono fun _ _ ⟨v, he, ho, hg, _⟩ => by
    refine ⟨v, he, by simpa using ho, ?_⟩
    exact ⟨hg.os, hg.tape, hg.output, hg.size, fun k hk => hg.block k hk (by simp [Value.ownBlock])⟩
/-- What WeaveSide answers. -/
def wsR (l : List Ck) (s : Int) : Int := if ¬ cf l = 0 then cf l else if inB s 0 2 = false then 3 else 0
def wsL (l : List Ck) (s : Int) : List ByteArray := if wsR l s = 0 then sideL s.toNat l else []
theorem wsR_fault {l : List Ck} {s : Int} (h : ¬ cf l = 0) : wsR l s = cf l := if_pos h
theorem wsR_range {l : List Ck} {s : Int} (h : cf l = 0) (k : inB s 0 2 = false) : wsR l s = 3 := by unfold wsR; rw [if_neg (by simp [h]), if_pos k]
theorem wsR_ok {l : List Ck} {s : Int} (h : cf l = 0) (k : inB s 0 2 = true) : wsR l s = 0 := by unfold wsR; rw [if_neg (by simp [h]), if_neg (by rw [k]; decide)]
theorem wsL_no {l : List Ck} {s : Int} (h : ¬ wsR l s = 0) : wsL l s = [] := if_neg h
theorem wsL_ok {l : List Ck} {s : Int} (h : wsR l s = 0) : wsL l s = sideL s.toNat l := if_pos h
theorem nilRow (base : Nat) (w : World) (t : TypeId) : w.ownsRow base t 1 (.slice none 0 0) 0 [] := ⟨rfl, .inl ⟨rfl, rfl⟩⟩

set_option maxRecDepth 20000 in
set_option maxHeartbeats 2000000 in
theorem implWeaveSide (a : Option Addr) (c : Nat) (l : List Ck) (sd : Int) (w : World) (h : KB w.heap.size w a l) (hn : l.length ≤ 1048576) (hs : ShortK l) (hf : FitsK l) (hl : ∀ i, i < 3 → (sideL i l).length ≤ 1048576) (ht : ∀ i, i < 3 → tot (sideL i l) ≤ 1048576) :
    Calls Try.prog 11 #[.slice a l.length c, .int .i64 sd] w fun e w' => LP (wsR l sd) (wsL l sd) w e w' := by
  have hA := fun w h => implChunksFault a c l w h hn hs hf hl
  have hFF : ¬ cf l = 0 → Hid (wsR l sd = cf l ∧ wsL l sd = []) := fun e => ⟨wsR_fault e, wsL_no (by rw [wsR_fault e]; exact e)⟩
  have hRR : cf l = 0 → inB sd 0 2 = false → Hid (wsR l sd = 3 ∧ wsL l sd = []) := fun e k => ⟨wsR_range e k, wsL_no (by rw [wsR_range e k]; decide)⟩
  have hOK : cf l = 0 → inB sd 0 2 = true → Hid (wsR l sd = 0 ∧ wsL l sd = sideL sd.toNat l) := fun e k => ⟨wsR_ok e k, wsL_ok (wsR_ok e k)⟩
  obtain ⟨R, hR⟩ : ∃ R, wsR l sd = R := ⟨_, rfl⟩
  obtain ⟨L, hL⟩ : ∃ L, wsL l sd = L := ⟨_, rfl⟩
  rw [hR, hL] at hFF hRR hOK ⊢
  obtain ⟨F, hF⟩ : ∃ F, cf l = F := ⟨_, rfl⟩
  rw [hF] at hA hFF hRR hOK
  clear hF hR hL
  obtain ⟨W1, hW1⟩ : ∃ W1, w.alloc (.cells #[.int .i64 0, .slice none 0 0] 32) = W1 := ⟨_, rfl⟩
  have b1 : Below w.heap.size w W1 := by rw [← hW1]; exact allocBelow _ _
  have zW : w.heap.size < W1.heap.size := by rw [← hW1]; simp
  have r1 : Res2 W1 w.heap.size (.int .i64 0) (.slice none 0 0) := by rw [← hW1]; exact Res2.new _ _ _ _
  have A1 := h.below b1
  by_cases e0 : F = 0
  · replace hRR := hRR e0
    replace hOK := hOK e0
    subst e0
    clear hFF
    go_enter Try.func11, Try.ntmps11
    go_wp2_with fail
    refine (hA _ (A1.mono (by omega))).mono ?_; rintro e w2 ⟨rfl, b2⟩
    have A2 := A1.below b2
    have r2 := r1.below zW b2
    have B2 := b1.trans (b2.mono b1.size)
    have z2 : w.heap.size < w2.heap.size := Nat.lt_of_lt_of_le zW b2.size
    clear A1 r1 b1 b2 hA hW1 h zW
    have d0 := r2.c0
    have d1 := r2.c1
    have f0 := r2.f0
    have f1 := r2.f1
    cases hin : inB sd 0 2 with
    | false =>
      have hC := hRR hin
      have HB : Hid (Below w.heap.size w ((w2.setCell ⟨w.heap.size, 0, none⟩ (.int .i64 3)).setCell ⟨w.heap.size, 1, none⟩ (.slice none 0 0))) := below_sets B2 (Nat.le_refl _) _ _
      clear r2 B2 A2 hRR hOK
      by_cases u0 : sd < 0
      · clear hin
        go_wp2
        refine bodyPost_ret (v := .agg #[.int .i64 3, .slice none 0 0]) (by simp [results, Try.results11, go_sem, d0, d1]) rfl ?_
        exact ⟨_, ret_agg2 (by rw [hC.out.1]) rfl, by rw [hC.out.2]; exact nilRow _ _ _, HB.out⟩
      · have u2 : 2 < sd := by
          have : ¬ (0 ≤ sd ∧ sd ≤ 2) := of_decide_eq_false hin
          omega
        clear hin
        go_wp2
        refine bodyPost_ret (v := .agg #[.int .i64 3, .slice none 0 0]) (by simp [results, Try.results11, go_sem, d0, d1]) rfl ?_
        exact ⟨_, ret_agg2 (by rw [hC.out.1]) rfl, by rw [hC.out.2]; exact nilRow _ _ _, HB.out⟩
    | true =>
      have hC := hOK hin
      have hbd : 0 ≤ sd ∧ sd ≤ 2 := of_decide_eq_true hin
      obtain ⟨u0, u2⟩ := hbd
      obtain ⟨i, rfl⟩ : ∃ i : Nat, sd = (i : Int) := ⟨sd.toNat, by omega⟩
      have hi3 : i < 3 := by omega
      rw [Int.toNat_natCast] at hC
      have lS := hl i hi3
      have zS := side_fits hf i
      have yS : ∀ k, k < (sideL i l).length → ((sideL i l).getD k ByteArray.empty).size ≤ 1048576 := fun k hk => by have := size_tot k hk; have := ht i hi3; omega
      have hLS := linesOfSide i hi3 a c l w2 (A2.mono (by omega)) hn lS
      obtain ⟨S, hS⟩ : ∃ S, sideL i l = S := ⟨_, rfl⟩
      rw [hS] at hC hLS lS zS yS
      clear hS hin hRR hOK d0 d1 f0 f1 A2
      go_wp2_with fail
      refine hLS.mono ?_; rintro e w3 ⟨v, rfl, o3, b3⟩
      obtain ⟨va, vc, ev⟩ := shapeS o3
      subst ev
      have r3 := r2.below z2 b3
      have B3 := B2.trans (b3.mono B2.size)
      have z3 : w.heap.size < w3.heap.size := Nat.lt_of_lt_of_le z2 b3.size
      clear r2 B2 z2 b3 hLS
      go_wp2_with fail
      refine (copyNew S va vc w3 (ownSS o3 zS) yS lS).mono ?_; rintro e w4 ⟨v4, rfl, o4, b4⟩
      obtain ⟨xa, xc, ex⟩ := shapeS o4
      subst ex
      have r4 := r3.below z3 b4
      have B4 := B3.trans (b4.mono B3.size)
      clear r3 B3 b4 o3
      have d0 := r4.c0
      have d1 := r4.c1
      have f0 := r4.f0
      have f1 := r4.f1
      have HB : Hid (Below w.heap.size w ((w4.setCell ⟨w.heap.size, 0, none⟩ (.int .i64 0)).setCell ⟨w.heap.size, 1, none⟩ (.slice xa S.length xc))) := below_sets B4 (Nat.le_refl _) _ _
      have HO : Hid (((w4.setCell ⟨w.heap.size, 0, none⟩ (.int .i64 0)).setCell ⟨w.heap.size, 1, none⟩ (.slice xa S.length xc)).ownsRow w.heap.size 9 1 (.slice xa S.length xc) S.length (S.map Value.string)) := by
        show World.ownsRow _ _ _ _ _ _ _
        exact ownMono ((Fr.ofGrown (lo := w.heap.size) (hi := w.heap.size + 1) (grownTrans (grownSet w4 w.heap.size 0 (.int .i64 0)) (grownSet _ w.heap.size 1 (.slice xa S.length xc))) (fun j hj => by cases hj; omega)).own o4 (fun j hj => by have := (o4.lt j hj).1; omega)) (by omega)
      clear r4 B4 o4
      go_wp2
      refine bodyPost_ret (v := .agg #[.int .i64 0, .slice xa S.length xc]) (by simp [results, Try.results11, go_sem, d0, d1]) rfl ?_
      exact ⟨_, ret_agg2 (by rw [hC.out.1]) rfl, by rw [hC.out.2]; exact HO.out, HB.out⟩
  · have hC := hFF e0
    have q0 : (F != 0) = true := by simp [e0]
    clear hFF hRR hOK
    go_enter Try.func11, Try.ntmps11
    go_wp2_with fail
    refine (hA _ (A1.mono (by omega))).mono ?_; rintro e w2 ⟨rfl, b2⟩
    have r2 := r1.below zW b2
    have B2 := b1.trans (b2.mono b1.size)
    have d0 := r2.c0
    have d1 := r2.c1
    have f0 := r2.f0
    have f1 := r2.f1
    have HB : Hid (Below w.heap.size w ((w2.setCell ⟨w.heap.size, 0, none⟩ (.int .i64 F)).setCell ⟨w.heap.size, 1, none⟩ (.slice none 0 0))) := below_sets B2 (Nat.le_refl _) _ _
    clear A1 r1 b1 b2 hA hW1 h zW r2 B2 e0
    go_wp2
    refine bodyPost_ret (v := .agg #[.int .i64 F, .slice none 0 0]) (by simp [results, Try.results11, go_sem, d0, d1]) rfl ?_
    exact ⟨_, ret_agg2 (by rw [hC.out.1]) rfl, by rw [hC.out.2]; exact nilRow _ _ _, HB.out⟩

end Go.Proofs.Yticagabnaibmgaa
