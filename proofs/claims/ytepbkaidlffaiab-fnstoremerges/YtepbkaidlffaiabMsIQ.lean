/- The contract of the program's MergeStores. No statement is proved here. -/
import Derived.Test.YtepbkaidlffaiabRows
import Derived.Test.YtepbkaidlffaiabLemQ
import Derived.Test.YtepbkaidlffaiabStrsQ
import Derived.Test.YtepbkaidlffaiabDTabQ
import Derived.Test.YtepbkaidlffaiabOwnQ
import Derived.Test.YtepbkaidlffaiabFrQ
import Derived.Test.YtepbkaidlffaiabInQ
import Derived.Test.YtepbkaidlffaiabHkTQ
import Derived.Test.YtepbkaidlffaiabIdMQ
import Derived.Test.YtepbkaidlffaiabObLQ
import Derived.Test.YtepbkaidlffaiabSfCQ
import Derived.Test.YtepbkaidlffaiabGtSQ
import Derived.Test.YtepbkaidlffaiabShPQ
import Derived.Test.YtepbkaidlffaiabShQQ
import Derived.Test.YtepbkaidlffaiabShFQ
import Derived.Test.YtepbkaidlffaiabPuLQ
import Derived.Test.YtepbkaidlffaiabPuSQ
import Derived.Test.YtepbkaidlffaiabShLQ
import Derived.Test.YtepbkaidlffaiabShTQ
import Derived.Test.YtepbkaidlffaiabPuPQ
import Derived.Test.YtepbkaidlffaiabPuIQ
import Derived.Test.YtepbkaidlffaiabMsLQ
import Derived.Test.YtepbkaidlffaiabMsCQ
import Derived.WalkKit
import Derived.ProofKit
import Derived.Below
import Derived.WalkSpells
import Derived.Deep.RegionWith
namespace Go.Proofs.Ytepbkaidlffaiab
open Go.ChangeShapes Go.WideShapes Go.ChangeAt Go.RowKit

set_option maxRecDepth 20000 in
set_option maxHeartbeats 2000000 in
theorem implMergeStores (a : Option Addr) (c : Nat) (a2 : Option Addr) (c2 : Nat) (l m : List Ob) (w : World) (h : OB w.heap.size w a l) (h2 : OB w.heap.size w a2 m) (hs : SmallO l) (hn : l.length ≤ 1048576) (hs2 : SmallO m) (hn2 : m.length ≤ 1048576) :
    Calls Try.prog 37 #[.slice a l.length c, .slice a2 m.length c2] w fun e w' => SP (msR l m) ByteArray.empty (msL l m) w e w' := by
  have hA := fun w h => implStoreFault a c l w h hs hn
  have hA2 := fun w h => implStoreFault a2 c2 m w h hs2 hn2
  have hFA : ¬ sf l = 0 → Hid (msR l m = sf l ∧ msL l m = []) := fun e => ms_a e
  have hFB : sf l = 0 → ¬ sf m = 0 → Hid (msR l m = sf m ∧ msL l m = []) := fun e1 e2 => ms_b e1 e2
  have hMM : sf l = 0 → sf m = 0 → Hid (msR l m = (mgF l m).1 ∧ msL l m = (mgF l m).2) := fun e1 e2 => ms_m e1 e2
  obtain ⟨R, hR⟩ : ∃ R, msR l m = R := ⟨_, rfl⟩
  obtain ⟨L, hL⟩ : ∃ L, msL l m = L := ⟨_, rfl⟩
  rw [hR, hL] at hFA hFB hMM ⊢
  clear hR hL
  obtain ⟨W1, hW1⟩ : ∃ W1, w.alloc (.cells #[.int .i64 0, .string ⟨#[]⟩, .slice none 0 0] 60) = W1 := ⟨_, rfl⟩
  have b1 : Below w.heap.size w W1 := by rw [← hW1]; exact allocBelow _ _
  have zW : w.heap.size < W1.heap.size := by rw [← hW1]; simp
  have r1 : Rf W1 w.heap.size [.int .i64 0, .string ⟨#[]⟩, .slice none 0 0] := by rw [← hW1]; exact Rf.new _ _ _
  have A1 := h.below b1
  have C1 := h2.below b1
  have HC1 : ∀ W : World, Below W1.heap.size W1 W → OB w.heap.size W a2 m := fun W hb => C1.below hb
  have HB1 : ∀ W : World, Below W1.heap.size W1 W → Hid (Rf W w.heap.size [.int .i64 0, .string ⟨#[]⟩, .slice none 0 0] ∧ ∀ a0 a1 a2, Below w.heap.size w (((W.setCell ⟨w.heap.size, 0, none⟩ a0).setCell ⟨w.heap.size, 1, none⟩ a1).setCell ⟨w.heap.size, 2, none⟩ a2)) := fun W hb =>
    ⟨r1.belowAt zW hb, fun a0 a1 a2 => below3 (b1.trans (hb.mono (by omega))) (Nat.le_refl _) a0 a1 a2⟩
  go_enter Try.func37, Try.ntmps37
  go_wp2_with fail
  refine (hA _ (A1.mono (by omega))).mono ?_; rintro e w2 ⟨rfl, b2⟩
  clear hA hW1 h h2 r1
  by_cases e0 : sf l = 0
  rotate_left
  · have hC := hFA e0
    have q0 : (sf l != 0) = true := ne_beq e0
    obtain ⟨r2, hB2⟩ := (HB1 _ b2).out
    have d0 := r2.at_ 0 _ rfl
    have d1 := r2.at_ 1 _ rfl
    have d2 := r2.at_ 2 _ rfl
    have f0 := r2.fz 0
    have f1 := r2.fz 1
    have f2 := r2.fz 2
    have HB' : ∀ a0 a1 a2, Hid (Below w.heap.size w (((w2.setCell ⟨w.heap.size, 0, none⟩ a0).setCell ⟨w.heap.size, 1, none⟩ a1).setCell ⟨w.heap.size, 2, none⟩ a2)) := hB2
    clear hFA hFB hMM HB1 hB2 r2 A1 C1 hA2 b1 b2
    go_wp2
    refine bodyPost_ret (v := .agg #[.int .i64 (sf l), .string ⟨#[]⟩, .slice none 0 0]) (by simp [results, Try.results37, go_sem, d0, d1, d2]) rfl ?_
    obtain ⟨rfl, rfl⟩ := hC.out
    exact ⟨_, rfl, nilRowO _ _, (HB' _ _ _).out⟩
  replace hFB := hFB e0
  replace hMM := hMM e0
  have q0 : (sf l != 0) = false := by rw [e0]; rfl
  rw [e0]
  clear hFA
  go_wp2_with fail
  refine (hA2 _ ((C1.below b2).mono (by have := b2.size; omega))).mono ?_; rintro e w3 ⟨rfl, b3⟩
  have b23 : Below W1.heap.size W1 w3 := b2.trans (b3.mono b2.size)
  have A3 := A1.below b23
  have C3 := C1.below b23
  have z3 : W1.heap.size ≤ w3.heap.size := b23.size
  clear b2 b3 hA2 A1 C1
  by_cases e2 : sf m = 0
  rotate_left
  · have hC := hFB e2
    have q2 : (sf m != 0) = true := ne_beq e2
    obtain ⟨r2, hB2⟩ := (HB1 _ b23).out
    have d0 := r2.at_ 0 _ rfl
    have d1 := r2.at_ 1 _ rfl
    have d2 := r2.at_ 2 _ rfl
    have f0 := r2.fz 0
    have f1 := r2.fz 1
    have f2 := r2.fz 2
    have HB' : ∀ a0 a1 a2, Hid (Below w.heap.size w (((w3.setCell ⟨w.heap.size, 0, none⟩ a0).setCell ⟨w.heap.size, 1, none⟩ a1).setCell ⟨w.heap.size, 2, none⟩ a2)) := hB2
    clear hFB hMM HB1 hB2 r2 A3 C3 b1 b23
    go_wp2
    refine bodyPost_ret (v := .agg #[.int .i64 (sf m), .string ⟨#[]⟩, .slice none 0 0]) (by simp [results, Try.results37, go_sem, d0, d1, d2]) rfl ?_
    obtain ⟨rfl, rfl⟩ := hC.out
    exact ⟨_, rfl, nilRowO _ _, (HB' _ _ _).out⟩
  replace hMM := hMM e2
  have hob := fun i hi => sf_ob e2 i hi
  have asc0 := asc_of e0
  have len0 : l.length ≤ 200 := by have := (sf_zero e0).1; omega
  have hf0 : Hid (sf l = 0) := e0
  rw [e2]
  clear hFB e2 e0
  have HM0 : Hid (mgF l (m.drop 0) = mgF l m) := by show _ = _; rw [List.drop_zero]
  go_wp2_with fail
  refine (shelfOfC a c l _ (A3.mono (by omega)) hf0.out).mono ?_; rintro e w4 ⟨rfl, sR, sS, b4, z4⟩
  have b24 : Below W1.heap.size W1 w4 := b23.trans (b4.mono z3)
  obtain ⟨Z, hZ⟩ : ∃ Z, w3.heap.size = Z := ⟨_, rfl⟩
  rw [hZ] at sR sS z3 z4
  have hz4 : W1.heap.size ≤ w4.heap.size := b24.size
  rw [hZ]
  clear A3 b4 b23 hZ hf0
  go_wp2
  go_loopw [27] (fun i wr => ∃ (j : Nat) (M O : List Ob), j ≤ m.length ∧ i = .int .i64 j ∧ Rf wr (Z + 1) [.map (some Z), .int .i64 (M.length : Int)] ∧ Sh wr Z M ∧ Hid (M.Perm O ∧ Asc O) ∧ O.length ≤ 200 ∧ SmallO M ∧ Hid (mgF O (m.drop j) = mgF l m) ∧ Below W1.heap.size W1 wr ∧ Z + 1 < wr.heap.size) (fun i _ => m.length - (intOf i).toNat)
  case atStart => exact ⟨0, l, l, Nat.zero_le _, rfl, sR, sS, ⟨List.Perm.refl _, asc0⟩, len0, hs, HM0, b24, z4⟩
  case round =>
    clear HM0 sR sS b24 asc0 len0 z4 hz4
    obtain ⟨j, M, O, hj, rfl, hR5, hS5, hPA, hlO, hsM, hMg, hB, hz5⟩ := hrel
    have hBs := hB.size
    by_cases hlt : j < m.length
    · have q : (j : Int) < (m.length : Int) := by omega
      obtain ⟨g6, off6, e6, _, d0, d1, d2⟩ := HC1 wr hB j hlt
      subst e6
      obtain ⟨hin, hid⟩ := hob j hlt
      have hsm := hs2 _ (ob_mem m j hlt)
      have hdr := mgF_drop O hlt
      obtain ⟨C, hCe⟩ : ∃ C, m.getD j onil = C := ⟨_, rfl⟩
      rw [hCe] at d0 d1 d2 hin hid hsm hdr
      obtain ⟨x0, x1, x2⟩ := C
      simp only [] at d0 d1 d2 hin hid hsm hdr
      subst hid
      have hpe : pC M x1 x2 = pC O x1 x2 := pC_perm hPA.out.1 (asc_ids hPA.out.2)
      have hPt := fun w hR hp hS => putW (Z + 1) Z M x1 x2 w hR (by omega) hp hS
      rw [hpe] at hPt
      have hno : ¬ pC O x1 x2 = 0 → Hid (mgF l m = (pC O x1 x2, [])) := fun e => by
        show _ = _
        rw [← hMg.out, hdr, if_neg e]
      have hyes : pC O x1 x2 = 0 → Hid (mgF (pL O x1 x2) (m.drop (j + 1)) = mgF l m ∧ ((qL M x1 x2).Perm (pL O x1 x2) ∧ Asc (pL O x1 x2)) ∧ (pL O x1 x2).length ≤ 200) := fun e => by
        refine ⟨?_, ⟨(qL_perm hPA.out.1).trans (q_perm hPA.out.2 e).2.symm, (q_perm hPA.out.2 e).1⟩, pL_len hlO hPA.out.2⟩
        rw [← hMg.out, hdr, if_pos e]
      have hsQ : SmallO (qL M x1 x2) := q_small hsM hsm.2
      obtain ⟨I, hIe⟩ : ∃ I, idN x1 x2 = I := ⟨_, rfl⟩
      obtain ⟨P, hPe⟩ : ∃ P, pC O x1 x2 = P := ⟨_, rfl⟩
      obtain ⟨Q, hQe⟩ : ∃ Q, pL O x1 x2 = Q := ⟨_, rfl⟩
      obtain ⟨T, hTe⟩ : ∃ T, qL M x1 x2 = T := ⟨_, rfl⟩
      rw [hPe] at hno hyes hPt
      rw [hQe] at hyes
      rw [hTe] at hyes hPt hsQ
      rw [hIe] at hPt d0
      rw [hIe] at hsm
      have bA := allocBelow wr (.cells #[.string I, .int .i64 x1, .string x2] 63)
      have RA := hR5.below (by omega) bA
      have SA := hS5.below bA
      have BA : Below W1.heap.size W1 (wr.alloc (.cells #[.string I, .int .i64 x1, .string x2] 63)) := hB.trans (bA.mono hBs)
      have zA : Z + 1 < (wr.alloc (.cells #[.string I, .int .i64 x1, .string x2] 63)).heap.size := by simp; omega
      have sA := BA.size
      clear hPe hQe hTe hIe hdr hMg hCe hpe hR5 hS5 bA hB hBs hPA hsM hlO
      go_wp2_with fail
      refine (hPt _ RA zA SA).mono ?_; rintro e w5 ⟨rfl, R5, S5, b5, z5, -⟩
      have hB5 : Below W1.heap.size W1 w5 := BA.trans (b5.mono z3)
      have z6 : Z + 1 < w5.heap.size := Nat.lt_of_lt_of_le zA z5
      clear hPt hob HC1 RA SA BA b5 d0 d1 d2 zA z5 sA
      by_cases eP : P = 0
      · subst eP
        have hx := hyes rfl
        clear hno hyes HB1
        go_wp2
        go_roundw
        case rel => exact ⟨j + 1, T, Q, by omega, by first | rfl | go_num, R5, S5, hx.out.2.1, hx.out.2.2, hsQ, hx.out.1, hB5, z6⟩
        case measure => first | (simp [intOf]; omega) | simp [intOf]
      · have qP : (P != 0) = true := ne_beq eP
        have hE := hno eP
        obtain ⟨r5, hF5⟩ := (HB1 _ hB5).out
        have k0 := r5.at_ 0 _ rfl
        have k1 := r5.at_ 1 _ rfl
        have k2 := r5.at_ 2 _ rfl
        have f0 := r5.fz 0
        have f1 := r5.fz 1
        have f2 := r5.fz 2
        have HB' : ∀ a0 a1 a2, Hid (Below w.heap.size w (((w5.setCell ⟨w.heap.size, 0, none⟩ a0).setCell ⟨w.heap.size, 1, none⟩ a1).setCell ⟨w.heap.size, 2, none⟩ a2)) := hF5
        clear hno hyes HB1 r5 hF5 hB5 R5 S5 hsQ
        go_wp2
        refine bodyPost_ret (v := .agg #[.int .i64 P, .string ⟨#[]⟩, .slice none 0 0]) (by simp [results, Try.results37, go_sem, k0, k1, k2]) rfl ?_
        obtain ⟨h1, h2⟩ := hMM.out
        rw [hE.out] at h1 h2
        rw [h1, h2]
        exact ⟨_, rfl, nilRowO _ _, (HB' _ _ _).out⟩
    · have q : ¬ (j : Int) < (m.length : Int) := by omega
      have hE : Hid (mgF l m = (0, O)) := by
        show _ = _
        rw [← hMg.out, mgF_end O hlt]
      have hMl : M.length ≤ 200 := by rw [hPA.out.1.length_eq]; exact hlO
      have hLi := listC (Z + 1) Z M O _ wr hR5 hS5 ((hPA.out.1.map (fun o : Ob => o.1)).nodup_iff.2 (asc_ids hPA.out.2)) hMl hsM hPA.out.2 hPA.out.1.symm
      clear hMg hob HC1 hR5 hS5 hPA hsM hMl
      go_wp2_with fail
      refine hLi.mono ?_; rintro e w5 ⟨v5, rfl, o5, b5⟩
      obtain ⟨va, vc, ev⟩ := shapeO o5
      subst ev
      obtain ⟨r5, hF5⟩ := (HB1 _ (hB.trans (b5.mono hBs))).out
      have k0 := r5.at_ 0 _ rfl
      have k1 := r5.at_ 1 _ rfl
      have k2 := r5.at_ 2 _ rfl
      have f0 := r5.fz 0
      have f1 := r5.fz 1
      have f2 := r5.fz 2
      have HB' : ∀ a0 a1 a2, Hid (Below w.heap.size w (((w5.setCell ⟨w.heap.size, 0, none⟩ a0).setCell ⟨w.heap.size, 1, none⟩ a1).setCell ⟨w.heap.size, 2, none⟩ a2)) := hF5
      have HO : ∀ a0 a1 a2, Hid ((((w5.setCell ⟨w.heap.size, 0, none⟩ a0).setCell ⟨w.heap.size, 1, none⟩ a1).setCell ⟨w.heap.size, 2, none⟩ a2).ownsRow w.heap.size 63 3 (.slice va O.length vc) O.length (ocells O)) := fun a0 a1 a2 =>
        ownMonoO (own3 o5 (by omega) a0 a1 a2) (by omega)
      clear o5 b5 HB1 r5 hF5 hB hLi
      go_wp2
      refine bodyPost_ret (v := .agg #[.int .i64 0, .string ⟨#[]⟩, .slice va O.length vc]) (by simp [results, Try.results37, go_sem, k0, k1, k2]) rfl ?_
      obtain ⟨h1, h2⟩ := hMM.out
      rw [hE.out] at h1 h2
      rw [h1, h2]
      exact ⟨_, rfl, (HO _ _ _).out, (HB' _ _ _).out⟩
end Go.Proofs.Ytepbkaidlffaiab
