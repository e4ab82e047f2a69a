/- The contracts of MergeStores (the program's and the specification's). No statement is proved here. -/
import Derived.Test.YtepbkaidlffaiabRows
import Derived.Test.YtepbkaidlffaiabLemQ
import Derived.Test.YtepbkaidlffaiabStrsQ
import Derived.Test.YtepbkaidlffaiabDTabQ
import Derived.Test.YtepbkaidlffaiabOwnQ
import Derived.Test.YtepbkaidlffaiabFrQ
import Derived.Test.YtepbkaidlffaiabInQ
import Derived.Test.YtepbkaidlffaiabHkTQ
import Derived.Test.YtepbkaidlffaiabIdMQ
import Derived.Test.YtepbkaidlffaiabObLQ
import Derived.Test.YtepbkaidlffaiabSfCQ
import Derived.Test.YtepbkaidlffaiabGtSQ
import Derived.Test.YtepbkaidlffaiabShPQ
import Derived.Test.YtepbkaidlffaiabShQQ
import Derived.Test.YtepbkaidlffaiabShFQ
import Derived.Test.YtepbkaidlffaiabPuLQ
import Derived.Test.YtepbkaidlffaiabPuSQ
import Derived.Test.YtepbkaidlffaiabShLQ
import Derived.Test.YtepbkaidlffaiabShTQ
import Derived.Test.YtepbkaidlffaiabPuPQ
import Derived.Test.YtepbkaidlffaiabPuIQ
import Derived.Test.YtepbkaidlffaiabMsLQ
import Derived.WalkKit
import Derived.ProofKit
import Derived.Below
import Derived.WalkSpells
import Derived.Deep.RegionWith
namespace Go.Proofs.Ytepbkaidlffaiab
open Go.ChangeShapes Go.WideShapes Go.ChangeAt Go.RowKit

theorem notNil {w : World} {base : Nat} {e : TypeId} {s : Nat} {v : Value} {n : Nat} {xs : List Value} (h : w.ownsRow base e s v n xs) (hv : v ≠ .slice none 0 0) : ∃ g c, v = .slice (some ⟨g, 0, none⟩) n c ∧ n ≤ c := by
  rcases h.2 with ⟨h', _⟩ | ⟨g, c, cur, h', _, _, h1, _⟩
  · exact absurd h' hv
  · exact ⟨g, c, h', h1⟩

set_option maxRecDepth 20000 in
set_option maxHeartbeats 2000000 in
theorem specMergeStores (g off c : Nat) (a2 : Option Addr) (c2 : Nat) (l m : List Ob) (w : World) (h : OB w.heap.size w (some ⟨g, off, none⟩) l) (h2 : OB w.heap.size w a2 m) (hs : SmallO l) (hn : l.length ≤ 1048576) (hs2 : SmallO m) (hn2 : m.length ≤ 1048576) :
    Calls Try.prog 38 #[.slice (some ⟨g, off, none⟩) l.length c, .slice a2 m.length c2] w fun e w' => SP (msR l m) ByteArray.empty (msL l m) w e w' := by
  have hA := fun w h => specStoreFault (some ⟨g, off, none⟩) c l w h hs hn
  have hA2 := fun w h => specStoreFault a2 c2 m w h hs2 hn2
  have hFA : ¬ sf l = 0 → Hid (msR l m = sf l ∧ msL l m = []) := fun e => ms_a e
  have hFB : sf l = 0 → ¬ sf m = 0 → Hid (msR l m = sf m ∧ msL l m = []) := fun e1 e2 => ms_b e1 e2
  have hMM : sf l = 0 → sf m = 0 → Hid (msR l m = (mgF l m).1 ∧ msL l m = (mgF l m).2) := fun e1 e2 => ms_m e1 e2
  obtain ⟨R, hR⟩ : ∃ R, msR l m = R := ⟨_, rfl⟩
  obtain ⟨L, hL⟩ : ∃ L, msL l m = L := ⟨_, rfl⟩
  rw [hR, hL] at hFA hFB hMM ⊢
  clear hR hL
  obtain ⟨W1, hW1⟩ : ∃ W1, w.alloc (.cells #[.int .i64 0, .string ⟨#[]⟩, .slice none 0 0] 60) = W1 := ⟨_, rfl⟩
  have b1 : Below w.heap.size w W1 := by rw [← hW1]; exact allocBelow _ _
  have zW : w.heap.size < W1.heap.size := by rw [← hW1]; simp
  have r1 : Rf W1 w.heap.size [.int .i64 0, .string ⟨#[]⟩, .slice none 0 0] := by rw [← hW1]; exact Rf.new _ _ _
  have A1 := h.below b1
  have C1 := h2.below b1
  have HC1 : ∀ W : World, Below W1.heap.size W1 W → OB w.heap.size W a2 m := fun W hb => C1.below hb
  have HB1 : ∀ W : World, Below W1.heap.size W1 W → Hid (Rf W w.heap.size [.int .i64 0, .string ⟨#[]⟩, .slice none 0 0] ∧ ∀ a0 a1 a2, Below w.heap.size w (((W.setCell ⟨w.heap.size, 0, none⟩ a0).setCell ⟨w.heap.size, 1, none⟩ a1).setCell ⟨w.heap.size, 2, none⟩ a2)) := fun W hb =>
    ⟨r1.belowAt zW hb, fun a0 a1 a2 => below3 (b1.trans (hb.mono (by omega))) (Nat.le_refl _) a0 a1 a2⟩
  go_enter Try.func38, Try.ntmps38
  go_wp2_with fail
  refine (hA _ (A1.mono (by omega))).mono ?_; rintro e w2 ⟨rfl, b2⟩
  clear hA hW1 h h2 r1
  by_cases e0 : sf l = 0
  rotate_left
  · have hC := hFA e0
    have q0 : (sf l != 0) = true := ne_beq e0
    obtain ⟨r2, hB2⟩ := (HB1 _ b2).out
    have d0 := r2.at_ 0 _ rfl
    have d1 := r2.at_ 1 _ rfl
    have d2 := r2.at_ 2 _ rfl
    have f0 := r2.fz 0
    have f1 := r2.fz 1
    have f2 := r2.fz 2
    have HB' : ∀ a0 a1 a2, Hid (Below w.heap.size w (((w2.setCell ⟨w.heap.size, 0, none⟩ a0).setCell ⟨w.heap.size, 1, none⟩ a1).setCell ⟨w.heap.size, 2, none⟩ a2)) := hB2
    clear hFA hFB hMM HB1 hB2 r2 A1 C1 hA2 b1 b2
    go_wp2
    refine bodyPost_ret (v := .agg #[.int .i64 (sf l), .string ⟨#[]⟩, .slice none 0 0]) (by simp [results, Try.results38, go_sem, d0, d1, d2]) rfl ?_
    obtain ⟨rfl, rfl⟩ := hC.out
    exact ⟨_, rfl, nilRowO _ _, (HB' _ _ _).out⟩
  replace hFB := hFB e0
  replace hMM := hMM e0
  have q0 : (sf l != 0) = false := by rw [e0]; rfl
  rw [e0]
  clear hFA
  go_wp2_with fail
  refine (hA2 _ ((C1.below b2).mono (by have := b2.size; omega))).mono ?_; rintro e w3 ⟨rfl, b3⟩
  have b23 : Below W1.heap.size W1 w3 := b2.trans (b3.mono b2.size)
  have A3 := A1.below b23
  have C3 := C1.below b23
  have z3 : W1.heap.size ≤ w3.heap.size := b23.size
  clear b2 b3 hA2 A1 C1
  by_cases e2 : sf m = 0
  rotate_left
  · have hC := hFB e2
    have q2 : (sf m != 0) = true := ne_beq e2
    obtain ⟨r2, hB2⟩ := (HB1 _ b23).out
    have d0 := r2.at_ 0 _ rfl
    have d1 := r2.at_ 1 _ rfl
    have d2 := r2.at_ 2 _ rfl
    have f0 := r2.fz 0
    have f1 := r2.fz 1
    have f2 := r2.fz 2
    have HB' : ∀ a0 a1 a2, Hid (Below w.heap.size w (((w3.setCell ⟨w.heap.size, 0, none⟩ a0).setCell ⟨w.heap.size, 1, none⟩ a1).setCell ⟨w.heap.size, 2, none⟩ a2)) := hB2
    clear hFB hMM HB1 hB2 r2 A3 C3 b1 b23
    go_wp2
    refine bodyPost_ret (v := .agg #[.int .i64 (sf m), .string ⟨#[]⟩, .slice none 0 0]) (by simp [results, Try.results38, go_sem, d0, d1, d2]) rfl ?_
    obtain ⟨rfl, rfl⟩ := hC.out
    exact ⟨_, rfl, nilRowO _ _, (HB' _ _ _).out⟩
  replace hMM := hMM e2
  have hob := fun i hi => sf_ob e2 i hi
  have asc0 := asc_of e0
  have len0 : l.length ≤ 200 := by have := (sf_zero e0).1; omega
  rw [e2]
  clear hFB e2 e0
  have HM0 : Hid (mgF l (m.drop 0) = mgF l m) := by show _ = _; rw [List.drop_zero]
  go_wp2_with fail
  refine (l5Copy g off c l _ (A3.mono (by omega)) hn).mono ?_; rintro e w4 ⟨v4, rfl, n4, o4, b4⟩
  have b24 : Below W1.heap.size W1 w4 := b23.trans (b4.mono z3)
  have o4 := ownMonoO o4 z3
  clear A3 b4 b23 z3
  go_wp2
  go_loopw [7, 8] (fun v i wr => ∃ (j : Nat) (O : List Ob), j ≤ m.length ∧ i = .int .i64 j ∧ v ≠ .slice none 0 0 ∧ wr.ownsRow W1.heap.size 63 3 v O.length (ocells O) ∧ Hid (Asc O) ∧ O.length ≤ 200 ∧ Hid (mgF O (m.drop j) = mgF l m) ∧ Below W1.heap.size W1 wr) (fun _ i _ => m.length - (intOf i).toNat)
  case atStart => exact ⟨0, l, Nat.zero_le _, rfl, n4, o4, asc0, len0, HM0, b24⟩
  case round =>
    clear HM0 o4 b24 n4 asc0 len0
    obtain ⟨j, O, hj, rfl, hv, hO, hAsc, hlO, hMg, hB⟩ := hrel
    have hBs := hB.size
    obtain ⟨g5, c5, ev, hc5⟩ := notNil hO hv
    subst ev
    by_cases hlt : j < m.length
    · have q : (j : Int) < (m.length : Int) := by omega
      obtain ⟨g6, off6, e6, _, d0, d1, d2⟩ := HC1 wr hB j hlt
      subst e6
      obtain ⟨hin, hid⟩ := hob j hlt
      have hsm := hs2 _ (ob_mem m j hlt)
      have hdr := mgF_drop O hlt
      obtain ⟨C, hCe⟩ : ∃ C, m.getD j onil = C := ⟨_, rfl⟩
      rw [hCe] at d0 d1 d2 hin hid hsm hdr
      obtain ⟨x0, x1, x2⟩ := C
      simp only [] at d0 d1 d2 hin hid hsm hdr
      have hPt := l5Put g5 0 c5 O x1 x2 wr.drew ((OB.of hO).below (below_drew (Below.refl _ _))) hc5 (by omega) hin hsm.2
      have hno : ¬ pC O x1 x2 = 0 → Hid (mgF l m = (pC O x1 x2, [])) := fun e => by
        show _ = _
        rw [← hMg.out, hdr, if_neg e]
      have hyes : pC O x1 x2 = 0 → Hid (mgF (pL O x1 x2) (m.drop (j + 1)) = mgF l m ∧ Asc (pL O x1 x2) ∧ (pL O x1 x2).length ≤ 200) := fun e => by
        refine ⟨?_, (q_perm hAsc.out e).1, pL_len hlO hAsc.out⟩
        rw [← hMg.out, hdr, if_pos e]
      obtain ⟨P, hPe⟩ : ∃ P, pC O x1 x2 = P := ⟨_, rfl⟩
      obtain ⟨Q, hQe⟩ : ∃ Q, pL O x1 x2 = Q := ⟨_, rfl⟩
      obtain ⟨T, hTe⟩ : ∃ T, pS O x1 x2 = T := ⟨_, rfl⟩
      rw [hPe] at hno hyes hPt
      rw [hQe] at hyes hPt
      rw [hTe] at hPt
      clear hPe hQe hTe hdr hMg hid d0 hCe
      go_wp2
      go_region_with (go_at_call 73; refine hPt.mono ?_; rintro e w5 ⟨v5, rfl, n5, o5, b5⟩)
      all_goals
        replace b5 : Below wr.heap.size wr w5 := (below_drew (Below.refl _ _)).trans b5
        replace o5 : w5.ownsRow wr.heap.size 63 3 v5 Q.length (ocells Q) := o5
        have hB5 := hB.trans (b5.mono hBs)
        clear hPt hob HC1
        by_cases eP : P = 0
        · subst eP
          have hx := hyes rfl
          have nn := n5 rfl
          have o5' := ownMonoO o5 hBs
          clear hno hyes n5 o5 b5 d1 d2 hO HB1
          go_wp2
          go_roundw
          case rel => exact ⟨j + 1, Q, by omega, by first | rfl | go_num, nn, o5', hx.out.2.1, hx.out.2.2, hx.out.1, hB5⟩
          case measure => first | (simp [intOf]; omega) | simp [intOf]
        · have qP : (P != 0) = true := ne_beq eP
          have hE := hno eP
          obtain ⟨r5, hF5⟩ := (HB1 _ hB5).out
          have k0 := r5.at_ 0 _ rfl
          have k1 := r5.at_ 1 _ rfl
          have k2 := r5.at_ 2 _ rfl
          have f0 := r5.fz 0
          have f1 := r5.fz 1
          have f2 := r5.fz 2
          have HB' : ∀ a0 a1 a2, Hid (Below w.heap.size w (((w5.setCell ⟨w.heap.size, 0, none⟩ a0).setCell ⟨w.heap.size, 1, none⟩ a1).setCell ⟨w.heap.size, 2, none⟩ a2)) := hF5
          clear hno hyes n5 o5 b5 d1 d2 hO HB1 r5 hF5 hB5 hB
          go_wp2
          refine bodyPost_ret (v := .agg #[.int .i64 P, .string ⟨#[]⟩, .slice none 0 0]) (by simp [results, Try.results38, go_sem, k0, k1, k2]) rfl ?_
          obtain ⟨h1, h2⟩ := hMM.out
          rw [hE.out] at h1 h2
          rw [h1, h2]
          exact ⟨_, rfl, nilRowO _ _, (HB' _ _ _).out⟩
    · have q : ¬ (j : Int) < (m.length : Int) := by omega
      have hE : Hid (mgF l m = (0, O)) := by
        show _ = _
        rw [← hMg.out, mgF_end O hlt]
      obtain ⟨r5, hF5⟩ := (HB1 _ hB).out
      have k0 := r5.at_ 0 _ rfl
      have k1 := r5.at_ 1 _ rfl
      have k2 := r5.at_ 2 _ rfl
      have f0 := r5.fz 0
      have f1 := r5.fz 1
      have f2 := r5.fz 2
      have HB' : ∀ a0 a1 a2, Hid (Below w.heap.size w (((wr.setCell ⟨w.heap.size, 0, none⟩ a0).setCell ⟨w.heap.size, 1, none⟩ a1).setCell ⟨w.heap.size, 2, none⟩ a2)) := hF5
      have HO : ∀ a0 a1 a2, Hid ((((wr.setCell ⟨w.heap.size, 0, none⟩ a0).setCell ⟨w.heap.size, 1, none⟩ a1).setCell ⟨w.heap.size, 2, none⟩ a2).ownsRow w.heap.size 63 3 (.slice (some ⟨g5, 0, none⟩) O.length c5) O.length (ocells O)) := fun a0 a1 a2 =>
        ownMonoO (own3 hO zW a0 a1 a2) (Nat.le_of_lt zW)
      clear hO HB1 r5 hF5 hB hMg hob HC1
      go_wp2
      refine bodyPost_ret (v := .agg #[.int .i64 0, .string ⟨#[]⟩, .slice (some ⟨g5, 0, none⟩) O.length c5]) (by simp [results, Try.results38, go_sem, k0, k1, k2]) rfl ?_
      obtain ⟨h1, h2⟩ := hMM.out
      rw [hE.out] at h1 h2
      rw [h1, h2]
      exact ⟨_, rfl, (HO _ _ _).out, (HB' _ _ _).out⟩
end Go.Proofs.Ytepbkaidlffaiab
