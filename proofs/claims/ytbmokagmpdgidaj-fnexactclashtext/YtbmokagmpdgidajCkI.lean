/- The contract of impl.ChunksFault. No statement is proved here. -/
import Derived.Test.YtbmokagmpdgidajRows
import Derived.Test.YtbmokagmpdgidajLem
import Derived.Test.YtbmokagmpdgidajStrs
import Derived.Test.YtbmokagmpdgidajLFLem
import Derived.Test.YtbmokagmpdgidajLF
import Derived.Test.YtbmokagmpdgidajDTab
import Derived.Test.YtbmokagmpdgidajOwn
import Derived.Test.YtbmokagmpdgidajFr
import Derived.Test.YtbmokagmpdgidajIn
import Derived.Test.YtbmokagmpdgidajCkL
import Derived.Test.YtbmokagmpdgidajCkC
import Derived.Test.YtbmokagmpdgidajCkB
import Derived.WalkKit
import Derived.ProofKit
import Derived.Below
import Derived.WalkSpells
import Derived.Deep.QuietTactic
import Derived.BigQuiet
import Derived.Deep.RegionWith
import Derived.Deep.CutRange
namespace Go.Proofs.Ytbmokagmpdgidaj
open Go.ChangeShapes Go.WideShapes Go.ChangeAt Go.RowKit

theorem Fr.zcell {w w' : World} {b o : Nat} {v : Value} (h : Below w.heap.size w w') (hc : w.cell? ⟨b, o, none⟩ = some v) : w'.cell? ⟨b, o, none⟩ = some v := (Fr.ofBelow (lo := 0) (hi := 0) h).cell hc (.inr (Nat.zero_le _))

set_option maxRecDepth 20000 in
set_option maxHeartbeats 4000000 in
theorem implChunksFault (a : Option Addr) (c : Nat) (l : List Ck) (w : World) (h : KB w.heap.size w a l) (hn : l.length ≤ 1048576) (hs : ShortK l) (hf : FitsK l) (hl : ∀ i, i < 3 → (sideL i l).length ≤ 1048576) :
    Calls Try.prog 19 #[.slice a l.length c] w fun e w' => e = .returned (.int .i64 (cf l)) ∧ Below w.heap.size w w' := by
  by_cases hbig : 201 < (l.length : Int)
  · have hC : Hid (cf l = 2) := cf_many hbig
    go_enter Try.func19, Try.ntmps19
    go_wp2
    go_ret
    exact ⟨ret_int hC.out.symm, Below.refl _ _⟩
  have HO := fun k => cf_one (l := l) hbig k
  have H0 := fun k e => cf_0 (l := l) hbig k e
  have H1 := fun k e f => cf_1 (l := l) hbig k e f
  have H2 := fun k e f => cf_2 (l := l) hbig k e f
  obtain ⟨V, hV⟩ : ∃ V, cf l = V := ⟨_, rfl⟩
  rw [hV] at HO H0 H1 H2 ⊢
  clear hV
  go_enter Try.func19, Try.ntmps19
  go_wp2
  go_loopw [12] (fun i wr => ∃ (k : Nat), k ≤ l.length ∧ i = .int .i64 k ∧ Hid (ckF (l.drop k) = ckF l) ∧ Below w.heap.size w wr) (fun i _ => l.length - (intOf i).toNat)
  case atStart => exact ⟨0, Nat.zero_le _, rfl, rfl, Below.refl _ _⟩
  case round =>
    obtain ⟨k, hk, rfl, hL, hbel⟩ := hrel
    have hsz := hbel.size
    by_cases hlt : k < l.length
    · have q : (k : Int) < (l.length : Int) := by omega
      obtain ⟨g, off, a1, c1, a2, c2, a3, c3, e, hg, d0, d1, d2, d3, s1, s2, s3⟩ := h.below hbel k hlt
      subst e
      have hdr := ck_drop l k hlt
      obtain ⟨m1, m2, m3⟩ := mem_lns (ck_mem l k hlt)
      have n1 := hs _ m1
      have n2 := hs _ m2
      have n3 := hs _ m3
      obtain ⟨C, hCe⟩ : ∃ C, l.getD k cnil = C := ⟨_, rfl⟩
      obtain ⟨x0, x1, x2, x3⟩ := C
      rw [hCe] at d0 d1 d2 d3 s1 s2 s3 hdr n1 n2 n3
      simp only [] at d0 d1 d2 d3 s1 s2 s3 n1 n2 n3
      rw [hdr] at hL
      have hST : ∀ cc, ck1 (x0, x1, x2, x3) = cc → ¬ cc = 0 → Hid (V = cc) := fun cc h1 h2 => by
        have e : ckF l = cc := by rw [← hL.out, ckF_stop h1 h2]
        show V = cc
        rw [← e]; exact HO (by rw [e]; exact h2)
      have hGO : ck1 (x0, x1, x2, x3) = 0 → Hid (ckF (l.drop (k + 1)) = ckF l) := fun h1 => by show _ = _; rw [← hL.out, ckF_go h1]
      clear hL hCe hdr HO H0 H1 H2 m1 m2 m3 h
      obtain ⟨W, hW⟩ : ∃ W, wr.alloc (.cells #[.int .i64 x0, .slice a1 x1.length c1, .slice a2 x2.length c2, .slice a3 x3.length c3] 53) = W := ⟨_, rfl⟩
      have hR : Rs W wr.heap.size [.int .i64 x0, .slice a1 x1.length c1, .slice a2 x2.length c2, .slice a3 x3.length c3] := by rw [← hW]; exact Rs.new _ _ _
      have bW : Below wr.heap.size wr W := by rw [← hW]; exact allocBelow _ _
      have hBW := below_step hbel hsz bW
      have zW := hBW.size
      have T1 : SS W a1 x1 := ((s1.1.below bW).mono zW).toSS (Nat.le_refl _)
      have T2 : SS W a2 x2 := ((s2.1.below bW).mono zW).toSS (Nat.le_refl _)
      have T3 : SS W a3 x3 := ((s3.1.below bW).mono zW).toSS (Nat.le_refl _)
      have r0 := hR 0 _ rfl
      have r1 := hR 1 _ rfl
      have r2 := hR 2 _ rfl
      have r3 := hR 3 _ rfl
      clear s1 s2 s3 hR bW
      by_cases u0 : x0 < 0
      · have hC := hST 3 (ck1_range (decide_eq_false (by simp only []; omega))) (by decide)
        clear hST hGO T1 T2 T3
        go_wp2
        go_ret
        exact ⟨ret_int hC.out.symm, hBW⟩
      by_cases u4 : 4 < x0
      · have hC := hST 3 (ck1_range (decide_eq_false (by simp only []; omega))) (by decide)
        clear hST hGO T1 T2 T3
        go_wp2
        go_ret
        exact ⟨ret_int hC.out.symm, hBW⟩
      have hin : inB x0 0 4 = true := decide_eq_true ⟨by omega, by omega⟩
      have hK : ∀ W', SS W' a1 x1 → SS W' a2 x2 → SS W' a3 x3 → Calls Try.prog 45 #[.agg #[.int .i64 x0, .slice a1 x1.length c1, .slice a2 x2.length c2, .slice a3 x3.length c3]] W' fun e w' => e = .returned (.int .i64 (kd x1 x2 x3)) ∧ Below W'.heap.size W' w' := fun W' p1 p2 p3 => kindOf x0 a1 a2 a3 c1 c2 c3 x1 x2 x3 W' p1 p2 p3 n1 n2 n3
      have hBr := fun W' => isBare x0 a1 a2 a3 c1 c2 c3 x1 x2 x3 W'
      obtain ⟨D, hD⟩ : ∃ D, kd x1 x2 x3 = D := ⟨_, rfl⟩
      obtain ⟨E, hE⟩ : ∃ E, bare (x0, x1, x2, x3) = E := ⟨_, rfl⟩
      have hKD := fun e => hST 1 (ck1_kind hin (by simp only []; rw [hD]; exact e)) (by decide)
      have hBA := fun e => hST 1 (ck1_bare hin (by rw [hE]; exact e)) (by decide)
      have hOK := fun e f => hGO (ck1_ok hin (by simp only []; rw [hD]; exact e) (by rw [hE]; exact f))
      rw [hD] at hK
      rw [hE] at hBr
      clear hST hGO hD hE hin
      by_cases eD : D = x0
      · have hq : (x0 != D) = false := by simp [eD]
        replace hOK := hOK eD
        clear hKD eD
        go_wp2
        go_cut [32] from 14 to 33 (fun s wx => s = .bool E ∧ Below W.heap.size W wx)
        case first =>
          go_region_with (first | (go_at_call 45; refine (hK _ (by exact T1) (by exact T2) (by exact T3)).mono ?_; rintro e w2 ⟨rfl, b2⟩; have t0 := Fr.zcell b2 (by exact r0); have t1 := Fr.zcell b2 (by exact r1); have t2 := Fr.zcell b2 (by exact r2); have t3 := Fr.zcell b2 (by exact r3)) | (go_at_call 46; refine (hBr _).mono ?_; rintro e w3 ⟨rfl, b3⟩))
          all_goals
            have X2 : Below W.heap.size W w2 := ⟨b2.os, b2.tape, b2.output, b2.size, b2.block⟩
            have X3 : Below w2.heap.size w2 w3 := ⟨b3.os, b3.tape, b3.output, b3.size, b3.block⟩
            have XX := X2.trans (X3.mono X2.size)
            go_wp2_with fail
            go_meet
            exact ⟨rfl, by first | exact XX | exact below_drew XX | exact below_drewN' XX _⟩
        case rest =>
        obtain ⟨hs1, hB⟩ := hcut
        subst hs1
        have HB := below_step hBW (by omega) hB
        cases E with
        | true =>
          have hC := hBA rfl
          go_wp2
          go_ret
          exact ⟨ret_int hC.out.symm, HB⟩
        | false =>
          have hC := hOK rfl
          go_wp2
          go_roundw
          case rel => exact ⟨k + 1, by omega, by go_num, hC, HB⟩
          case measure => first | (simp [intOf]; omega) | simp [intOf]
      · have hq : (x0 != D) = true := by simp; omega
        have hC := hKD eD
        clear hKD eD hBA hOK hBr
        go_wp2
        go_cut [32] from 14 to 33 (fun s wx => s = .bool true ∧ Below W.heap.size W wx)
        case first =>
          go_region_with (first | (go_at_call 45; refine (hK _ (by exact T1) (by exact T2) (by exact T3)).mono ?_; rintro e w2 ⟨rfl, b2⟩; have t0 := Fr.zcell b2 (by exact r0); have t1 := Fr.zcell b2 (by exact r1); have t2 := Fr.zcell b2 (by exact r2); have t3 := Fr.zcell b2 (by exact r3)))
          all_goals
            have X2 : Below W.heap.size W w2 := ⟨b2.os, b2.tape, b2.output, b2.size, b2.block⟩
            go_wp2_with fail
            go_meet
            exact ⟨rfl, by first | exact X2 | exact below_drew X2 | exact below_drewN' X2 _⟩
        case rest =>
        obtain ⟨hs1, hB⟩ := hcut
        subst hs1
        have HB := below_step hBW (by omega) hB
        go_wp2
        go_ret
        exact ⟨ret_int hC.out.symm, HB⟩
    · have q : ¬ (k : Int) < (l.length : Int) := by omega
      have hZ : ckF l = 0 := by rw [← hL.out, List.drop_of_length_le (by omega)]; rfl
      replace H0 := H0 hZ
      replace H1 := H1 hZ
      replace H2 := H2 hZ
      have A0 := h.below hbel
      clear HO hL h hZ hs
      obtain ⟨w1, hw1⟩ : ∃ W, W = wr := ⟨_, rfl⟩
      subst hw1
      go_wp2
      go_loopw [34] (fun i wx => ∃ (j : Nat), j ≤ 3 ∧ i = .int .i64 j ∧ Hid (∀ n, n < j → lf (sideL n l) = 0) ∧ Below w1.heap.size w1 wx) (fun i _ => 3 - (intOf i).toNat)
      case atStart => exact ⟨0, by omega, rfl, fun n hn => absurd hn (Nat.not_lt_zero _), Below.refl _ _⟩
      case round =>
        obtain ⟨j, hj, rfl, hA, hbx⟩ := hrel
        have hBx := below_step hbel hsz hbx
        have zx := hBx.size
        by_cases hlt : j < 3
        · have q3 : (j : Int) < 3 := by omega
          have hV : ¬ lf (sideL j l) = 0 → Hid (V = lf (sideL j l)) := fun e => by
            show _ = _
            have h3 : j = 0 ∨ j = 1 ∨ j = 2 := by omega
            rcases h3 with rfl | rfl | rfl
            · exact H0 e
            · exact H1 (hA.out 0 (by omega)) e
            · exact H2 (hA.out 0 (by omega)) (hA.out 1 (by omega))
          have hA' : lf (sideL j l) = 0 → Hid (∀ n, n < j + 1 → lf (sideL n l) = 0) := fun e => by
            show ∀ n, _
            intro n hn
            by_cases e' : n = j
            · rw [e']; exact e
            · exact hA.out n (by omega)
          have hLS := linesOfSide j hlt a c l wr ((A0.below hbx).mono zx) hn (hl j hlt)
          have zS := side_fits hf j
          have lS := hl j hlt
          obtain ⟨L, hLe⟩ : ∃ L, sideL j l = L := ⟨_, rfl⟩
          rw [hLe] at hLS hV hA' zS lS
          have hLF := fun va vc W' p => implLinesFault va vc L W' p lS
          obtain ⟨F, hF⟩ : ∃ F, lf L = F := ⟨_, rfl⟩
          rw [hF] at hLF hV hA'
          clear hF hLe hA H0 H1 H2 hl hf
          by_cases e0 : F = 0
          · have hC := hA' e0
            have q0 : (F != 0) = false := by simp [e0]
            clear hA' hV e0
            go_wp2_with fail
            refine hLS.mono ?_; rintro e w2 ⟨v, rfl, o2, b2⟩
            obtain ⟨va, vc, ev⟩ := shapeS o2
            subst ev
            go_wp2_with fail
            refine (hLF va vc _ (ownSS o2 zS)).mono ?_; rintro e w3 ⟨rfl, rfl⟩
            have HB := hbx.trans (b2.mono hbx.size)
            clear o2 b2 hLS hLF
            go_wp2
            go_roundw
            case rel => exact ⟨j + 1, by omega, by go_num, hC, HB⟩
            case measure => first | (simp [intOf]; omega) | simp [intOf]
          · have hC := hV e0
            have q0 : (F != 0) = true := by simp [e0]
            clear hA' hV e0
            go_wp2_with fail
            refine hLS.mono ?_; rintro e w2 ⟨v, rfl, o2, b2⟩
            obtain ⟨va, vc, ev⟩ := shapeS o2
            subst ev
            go_wp2_with fail
            refine (hLF va vc _ (ownSS o2 zS)).mono ?_; rintro e w3 ⟨rfl, rfl⟩
            have HB := below_step hBx zx b2
            clear o2 b2 hLS hLF
            go_wp2
            go_ret
            exact ⟨ret_int hC.out.symm, HB⟩
        · have q3 : ¬ (j : Int) < 3 := by omega
          have hC : Hid (V = 0) := by
            show V = 0
            rw [H2 (hA.out 0 (by omega)) (hA.out 1 (by omega))]; exact hA.out 2 (by omega)
          clear H0 H1 H2 hA
          go_wp2
          go_ret
          exact ⟨ret_int hC.out.symm, hBx⟩
end Go.Proofs.Ytbmokagmpdgidaj
