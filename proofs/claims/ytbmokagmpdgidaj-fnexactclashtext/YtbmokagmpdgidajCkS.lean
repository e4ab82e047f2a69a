/- The contract of spec.ChunksFault. No statement is proved here. -/
import Derived.Test.YtbmokagmpdgidajRows
import Derived.Test.YtbmokagmpdgidajLem
import Derived.Test.YtbmokagmpdgidajStrs
import Derived.Test.YtbmokagmpdgidajLFLem
import Derived.Test.YtbmokagmpdgidajLF
import Derived.Test.YtbmokagmpdgidajDTab
import Derived.Test.YtbmokagmpdgidajOwn
import Derived.Test.YtbmokagmpdgidajFr
import Derived.Test.YtbmokagmpdgidajIn
import Derived.Test.YtbmokagmpdgidajCkL
import Derived.Test.YtbmokagmpdgidajCkC
import Derived.Test.YtbmokagmpdgidajCkB
import Derived.Test.YtbmokagmpdgidajCkI
import Derived.WalkKit
import Derived.ProofKit
import Derived.Below
import Derived.WalkSpells
import Derived.Deep.QuietTactic
import Derived.BigQuiet
import Derived.Deep.RegionWith
import Derived.Deep.CutRange
namespace Go.Proofs.Ytbmokagmpdgidaj
open Go.ChangeShapes Go.WideShapes Go.ChangeAt Go.RowKit

theorem wrapIn {x : Int} (h0 : -9223372036854775808 ≤ x) (h1 : x ≤ 9223372036854775807) : IntKind.i64.wrap x = x := by rw [IntKind.wrap_i64]; omega
theorem bare_sum (x0 : Int) (x1 x2 x3 : List ByteArray) : bare (x0, x1, x2, x3) = ((x1.length : Int) + (x2.length : Int) + (x3.length : Int) == 0) := by
  unfold bare
  by_cases h : x1.length = 0 ∧ x2.length = 0 ∧ x3.length = 0
  · have e : (x1.length : Int) + (x2.length : Int) + (x3.length : Int) = 0 := by omega
    rw [e]; exact decide_eq_true h
  · have e : ¬ (x1.length : Int) + (x2.length : Int) + (x3.length : Int) = 0 := by omega
    rw [show ((x1.length : Int) + (x2.length : Int) + (x3.length : Int) == 0) = false from beq_eq_false_iff_ne.2 e]; exact decide_eq_false h

set_option maxRecDepth 20000 in
set_option maxHeartbeats 4000000 in
theorem specChunksFault (a : Option Addr) (c : Nat) (l : List Ck) (w : World) (h : KB w.heap.size w a l) (hn : l.length ≤ 1048576) (hs : ShortK l) (hf : FitsK l) (hl : ∀ i, i < 3 → (sideL i l).length ≤ 1048576) (ht : ∀ i, i < 3 → tot (sideL i l) ≤ 1048576) :
    Calls Try.prog 18 #[.slice a l.length c] w fun e w' => e = .returned (.int .i64 (cf l)) ∧ Below w.heap.size w w' := by
  by_cases hbig : 201 < (l.length : Int)
  · have hC : Hid (cf l = 2) := cf_many hbig
    go_enter Try.func18, Try.ntmps18
    go_wp2
    go_ret
    exact ⟨ret_int hC.out.symm, Below.refl _ _⟩
  have HO := fun k => cf_one (l := l) hbig k
  have H0 := fun k e => cf_0 (l := l) hbig k e
  have H1 := fun k e f => cf_1 (l := l) hbig k e f
  have H2 := fun k e f => cf_2 (l := l) hbig k e f
  obtain ⟨V, hV⟩ : ∃ V, cf l = V := ⟨_, rfl⟩
  rw [hV] at HO H0 H1 H2 ⊢
  clear hV
  go_enter Try.func18, Try.ntmps18
  go_wp2
  go_loopw [3] (fun i wr => ∃ (k : Nat), k ≤ l.length ∧ i = .int .i64 k ∧ Hid (ckF (l.drop k) = ckF l) ∧ Below w.heap.size w wr) (fun i _ => l.length - (intOf i).toNat)
  case atStart => exact ⟨0, Nat.zero_le _, rfl, rfl, Below.refl _ _⟩
  case round =>
    obtain ⟨k, hk, rfl, hL, hbel⟩ := hrel
    have hsz := hbel.size
    by_cases hlt : k < l.length
    · have q : (k : Int) < (l.length : Int) := by omega
      obtain ⟨g, off, a1, c1, a2, c2, a3, c3, e, hg, d0, d1, d2, d3, s1, s2, s3⟩ := h.below hbel k hlt
      subst e
      have hdr := ck_drop l k hlt
      obtain ⟨m1, m2, m3⟩ := mem_lns (ck_mem l k hlt)
      have n1 := hs _ m1
      have n2 := hs _ m2
      have n3 := hs _ m3
      obtain ⟨C, hCe⟩ : ∃ C, l.getD k cnil = C := ⟨_, rfl⟩
      obtain ⟨x0, x1, x2, x3⟩ := C
      rw [hCe] at d0 d1 d2 d3 s1 s2 s3 hdr n1 n2 n3
      simp only [] at d0 d1 d2 d3 s1 s2 s3 n1 n2 n3
      rw [hdr] at hL
      have hST : ∀ cc, ck1 (x0, x1, x2, x3) = cc → ¬ cc = 0 → Hid (V = cc) := fun cc h1 h2 => by
        have e : ckF l = cc := by rw [← hL.out, ckF_stop h1 h2]
        show V = cc
        rw [← e]; exact HO (by rw [e]; exact h2)
      have hGO : ck1 (x0, x1, x2, x3) = 0 → Hid (ckF (l.drop (k + 1)) = ckF l) := fun h1 => by show _ = _; rw [← hL.out, ckF_go h1]
      clear hL hCe hdr HO H0 H1 H2 m1 m2 m3 h
      obtain ⟨W, hW⟩ : ∃ W, wr.alloc (.cells #[.int .i64 x0, .slice a1 x1.length c1, .slice a2 x2.length c2, .slice a3 x3.length c3] 53) = W := ⟨_, rfl⟩
      have hR : Rs W wr.heap.size [.int .i64 x0, .slice a1 x1.length c1, .slice a2 x2.length c2, .slice a3 x3.length c3] := by rw [← hW]; exact Rs.new _ _ _
      have bW : Below wr.heap.size wr W := by rw [← hW]; exact allocBelow _ _
      have hBW := below_step hbel hsz bW
      have zW := hBW.size
      have T1 : SS W a1 x1 := ((s1.1.below bW).mono zW).toSS (Nat.le_refl _)
      have T2 : SS W a2 x2 := ((s2.1.below bW).mono zW).toSS (Nat.le_refl _)
      have T3 : SS W a3 x3 := ((s3.1.below bW).mono zW).toSS (Nat.le_refl _)
      have r0 := hR 0 _ rfl
      have r1 := hR 1 _ rfl
      have r2 := hR 2 _ rfl
      have r3 := hR 3 _ rfl
      clear s1 s2 s3 hR bW
      have hI := fun w => l1In x0 0 4 w
      cases hin : inB x0 0 4 with
      | false =>
        have hC := hST 3 (ck1_range hin) (by decide)
        rw [hin] at hI
        clear hST hGO T1 T2 T3
        go_wp2_with fail
        refine (hI _).mono ?_; rintro e W ⟨rfl, rfl⟩
        go_wp2
        go_ret
        exact ⟨ret_int hC.out.symm, hBW⟩
      | true =>
      rw [hin] at hI
      have hK : ∀ W', SS W' a1 x1 → SS W' a2 x2 → SS W' a3 x3 → Calls Try.prog 42 #[.slice a1 x1.length c1, .slice a2 x2.length c2, .slice a3 x3.length c3] W' fun e w' => e = .returned (.int .i64 (kd x1 x2 x3)) ∧ ∃ n, w' = W'.drewN n := fun W' p1 p2 p3 => l4KindQ a1 a2 a3 c1 c2 c3 x1 x2 x3 W' p1 p2 p3 n1 n2 n3
      obtain ⟨D, hD⟩ : ∃ D, kd x1 x2 x3 = D := ⟨_, rfl⟩
      have hE := bare_sum x0 x1 x2 x3
      have hKD := fun e => hST 1 (ck1_kind hin (by simp only []; rw [hD]; exact e)) (by decide)
      have hBA := fun e => hST 1 (ck1_bare hin (by rw [hE]; exact e)) (by decide)
      have hOK := fun e f => hGO (ck1_ok hin (by simp only []; rw [hD]; exact e) (by rw [hE]; exact f))
      rw [hD] at hK
      clear hST hGO hD hE hin
      go_wp2_with fail
      refine (hI _).mono ?_; rintro e W ⟨rfl, rfl⟩
      by_cases eD : D = x0
      · have hq : (D != x0) = false := by simp [eD]
        replace hOK := hOK eD
        clear hKD eD hI
        go_wp2
        go_quiet ((go_at_call 42; exact quietDrew (hK _ (T1.drewN _) (T2.drewN _) (T3.drewN _))))
        have HB := below_drewN' hBW nq
        cases hS : ((x1.length : Int) + (x2.length : Int) + (x3.length : Int) == 0) with
        | true =>
          have hC := hBA hS
          clear hS hBA hOK
          go_wp2
          go_ret
          exact ⟨ret_int hC.out.symm, HB⟩
        | false =>
          have hC := hOK hS
          clear hS hBA hOK
          go_wp2
          go_roundw
          case rel => exact ⟨k + 1, by omega, by go_num, hC, HB⟩
          case measure => first | (simp [intOf]; omega) | simp [intOf]
      · have hq : (D != x0) = true := by simp; omega
        have hC := hKD eD
        clear hKD eD hBA hOK hI
        go_wp2
        go_quiet ((go_at_call 42; exact quietDrew (hK _ (T1.drewN _) (T2.drewN _) (T3.drewN _))))
        have HB := below_drewN' hBW nq
        go_wp2
        go_ret
        exact ⟨ret_int hC.out.symm, HB⟩
    · have q : ¬ (k : Int) < (l.length : Int) := by omega
      have hZ : ckF l = 0 := by rw [← hL.out, List.drop_of_length_le (by omega)]; rfl
      replace H0 := H0 hZ
      replace H1 := H1 hZ
      replace H2 := H2 hZ
      have A0 := h.below hbel
      clear HO hL h hZ hs
      obtain ⟨w1, hw1⟩ : ∃ W, W = wr := ⟨_, rfl⟩
      subst hw1
      go_wp2
      go_loopw [5] (fun i wx => ∃ (j : Nat), j ≤ 3 ∧ i = .int .i64 j ∧ Hid (∀ n, n < j → lf (sideL n l) = 0) ∧ Below w1.heap.size w1 wx) (fun i _ => 3 - (intOf i).toNat)
      case atStart => exact ⟨0, by omega, rfl, fun n hn => absurd hn (Nat.not_lt_zero _), Below.refl _ _⟩
      case round =>
        obtain ⟨j, hj, rfl, hA, hbx⟩ := hrel
        have hBx := below_step hbel hsz hbx
        have zx := hBx.size
        by_cases hlt : j < 3
        · have q3 : (j : Int) < 3 := by omega
          have hV : ¬ lf (sideL j l) = 0 → Hid (V = lf (sideL j l)) := fun e => by
            show _ = _
            have h3 : j = 0 ∨ j = 1 ∨ j = 2 := by omega
            rcases h3 with rfl | rfl | rfl
            · exact H0 e
            · exact H1 (hA.out 0 (by omega)) e
            · exact H2 (hA.out 0 (by omega)) (hA.out 1 (by omega))
          have hA' : lf (sideL j l) = 0 → Hid (∀ n, n < j + 1 → lf (sideL n l) = 0) := fun e => by
            show ∀ n, _
            intro n hn
            by_cases e' : n = j
            · rw [e']; exact e
            · exact hA.out n (by omega)
          have hLS := l4Side j hlt a c l wr ((A0.below hbx).mono zx) hn (hl j hlt)
          have zS := side_fits hf j
          have lS := hl j hlt
          have tS := ht j hlt
          obtain ⟨L, hLe⟩ : ∃ L, sideL j l = L := ⟨_, rfl⟩
          rw [hLe] at hLS hV hA' zS lS tS
          have hLF := fun va vc W' p => specLinesFault va vc L W' p lS tS
          obtain ⟨F, hF⟩ : ∃ F, lf L = F := ⟨_, rfl⟩
          rw [hF] at hLF hV hA'
          clear hF hLe hA H0 H1 H2 hl hf ht
          by_cases e0 : F = 0
          · have hC := hA' e0
            have q0 : (F != 0) = false := by simp [e0]
            clear hA' hV e0
            go_wp2_with fail
            refine hLS.mono ?_; rintro e w2 ⟨v, rfl, o2, b2⟩
            obtain ⟨va, vc, ev⟩ := shapeS o2
            subst ev
            go_wp2_with fail
            refine (hLF va vc _ (ownSS o2 zS)).mono ?_; rintro e w3 ⟨rfl, rfl⟩
            have HB := hbx.trans (b2.mono hbx.size)
            clear o2 b2 hLS hLF
            go_wp2
            go_roundw
            case rel => exact ⟨j + 1, by omega, by go_num, hC, HB⟩
            case measure => first | (simp [intOf]; omega) | simp [intOf]
          · have hC := hV e0
            have q0 : (F != 0) = true := by simp [e0]
            clear hA' hV e0
            go_wp2_with fail
            refine hLS.mono ?_; rintro e w2 ⟨v, rfl, o2, b2⟩
            obtain ⟨va, vc, ev⟩ := shapeS o2
            subst ev
            go_wp2_with fail
            refine (hLF va vc _ (ownSS o2 zS)).mono ?_; rintro e w3 ⟨rfl, rfl⟩
            have HB := below_step hBx zx b2
            clear o2 b2 hLS hLF
            go_wp2
            go_ret
            exact ⟨ret_int hC.out.symm, HB⟩
        · have q3 : ¬ (j : Int) < 3 := by omega
          have hC : Hid (V = 0) := by
            show V = 0
            rw [H2 (hA.out 0 (by omega)) (hA.out 1 (by omega))]; exact hA.out 2 (by omega)
          clear H0 H1 H2 hA
          go_wp2
          go_ret
          exact ⟨ret_int hC.out.symm, hBx⟩
end Go.Proofs.Ytbmokagmpdgidaj
