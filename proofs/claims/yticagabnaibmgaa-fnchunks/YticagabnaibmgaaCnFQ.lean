/- Proved: at every code FnChunks returns true (chunks have all lines of all three texts, and turned round they are those of both turned round). No condition: FnChunksSaid itself. -/
import Derived.Test.YticagabnaibmgaaRows
import Derived.Test.YticagabnaibmgaaLemQ
import Derived.Test.YticagabnaibmgaaMarksQ
import Derived.Test.YticagabnaibmgaaDTabQ
import Derived.Test.YticagabnaibmgaaHkTQ
import Derived.Test.YticagabnaibmgaaSameCQ
import Derived.Test.YticagabnaibmgaaCkLQ
import Derived.Test.YticagabnaibmgaaCkCQ
import Derived.Test.YticagabnaibmgaaCkBQ
import Derived.Test.YticagabnaibmgaaCkNQ
import Derived.Test.YticagabnaibmgaaCkMQ
import Derived.Test.YticagabnaibmgaaCkWQ
import Derived.Test.YticagabnaibmgaaCkXQ
import Derived.Test.YticagabnaibmgaaKpDQ
import Derived.Test.YticagabnaibmgaaKpGQ
import Derived.Test.YticagabnaibmgaaKpJQ
import Derived.Test.YticagabnaibmgaaTvMQ
import Derived.Test.YticagabnaibmgaaDrawQ
import Derived.Test.YticagabnaibmgaaDraw15Q
import Derived.Test.YticagabnaibmgaaDraw16Q
import Derived.WalkKit
import Derived.ProofKit
import Derived.OpenShut
import Derived.Below
import Derived.WalkSpells
import Derived.Deep.CutRange
import Derived.Deep.RegionHeld
import Derived.Deep.QuietTactic
set_option linter.unusedVariables false
namespace Go.Proofs.Yticagabnaibmgaa.CnF
open Go.ChangeShapes Go.WideShapes Go.ChangeAt Go.RowKit

theorem lwBig (a : Option Addr) (n cap : Nat) (w : World) : Calls Try.prog 7 #[.slice a n cap] w fun e w' => e = .returned (.bool (decide ((1048576 : Int) < (n : Int)))) ∧ w' = w := by
  go_enter Try.func7, Try.ntmps7
  go_wp2
  go_ret
  exact ⟨rfl, rfl⟩
theorem zc {w w' : World} {b o : Nat} {v : Value} (h : Below w.heap.size w w') (hc : w.cell? ⟨b, o, none⟩ = some v) : w'.cell? ⟨b, o, none⟩ = some v := (Fr.ofBelow (lo := 0) (hi := 0) h).cell hc (.inr (Nat.zero_le _))
/-- A variable of two cells, laid. -/
theorem two {w W : World} {r : Int} {v : Value} {t : TypeId} (h : w.alloc (.cells #[.int .i64 r, v] t) = W) : Below w.heap.size w W ∧ W.cell? ⟨w.heap.size, 0, none⟩ = some (.int .i64 r) ∧ W.cell? ⟨w.heap.size, 1, none⟩ = some v := by
  subst h
  exact ⟨allocBelow _ _, Rs.new w #[.int .i64 r, v] t 0 _ rfl, Rs.new w #[.int .i64 r, v] t 1 _ rfl⟩
theorem Kb {w w' : World} {a : Option Addr} {l : List Ck} (h : KB w.heap.size w a l) (b : Below w.heap.size w w') : KB w'.heap.size w' a l := (h.below b).mono b.size
theorem Lv {w : World} {base : Nat} {v : Value} {L : List ByteArray} (h : w.ownsRow base 9 1 v L.length (L.map Value.string)) (hz : ∀ x ∈ L, x.size ≤ 1000000) : ∃ a c, v = .slice a L.length c ∧ SS w a L := by
  obtain ⟨a, c, e, hS⟩ := ownSSN h (fun k hk => by
    rw [getD_at _ k hk]
    have := hz _ (List.getElem_mem hk)
    omega)
  exact ⟨a, c, e, hS.1.toSS (Nat.le_refl _)⟩
set_option maxRecDepth 20000 in
set_option maxHeartbeats 4000000 in
theorem walk (a : Option Addr) (n cap : Nat) (w : World) (h : Bts w a n) (hm : n ≤ 9223372036854775807) :
    Calls Try.prog 3 #[.slice a n cap] w fun e w' => e = .returned (.bool true) ∧ Below w.heap.size w w' := by
  by_cases hbig : (1048576 : Int) < (n : Int)
  · go_enter Try.func3, Try.ntmps3
    go_wp2_with (go_at_call 7; refine (lwBig _ _ _ _).mono ?_; rintro e w' ⟨rfl, rfl⟩)
    go_ret
    exact ⟨rfl, Below.refl _ _⟩
  have hn : n ≤ 1048576 := by omega
  go_enter Try.func3, Try.ntmps3
  go_wp2_with fail
  refine (lwBig _ _ _ _).mono ?_; rintro e w ⟨rfl, rfl⟩
  go_wp2_with fail
  refine (drawChunksOf a n cap _ h hn).mono ?_; rintro e w1 ⟨xs, ys, zs, gx, cx, gy, cy, gz, cz, rfl, Lx, Ly, Lz, b1⟩
  have X1 : X3 w1.heap.size w1 (some ⟨gx, 0, none⟩) (some ⟨gy, 0, none⟩) (some ⟨gz, 0, none⟩) cx cy cz xs ys zs := ⟨Lx.s, Ly.s, Lz.s⟩
  have small : ∀ {ss : List ByteArray} {w : World} {g c : Nat}, Ln w g c ss → ∀ x ∈ ss, x.size ≤ 1048576 := fun hL x hx => Nat.le_trans (hL.m x hx) (by omega)
  have nx := Lx.n
  have ny := Ly.n
  have nz := Lz.n
  have Z1 : Z3 cx cy cz xs ys zs := ⟨Lx.c, Ly.c, Lz.c, by omega, by omega, by omega, small Lx, small Ly, small Lz⟩
  have Z2 : Z3 cx cz cy xs zs ys := ⟨Lx.c, Lz.c, Ly.c, by omega, by omega, by omega, small Lx, small Lz, small Ly⟩
  have NN : N3 (some ⟨gx, 0, none⟩) (some ⟨gy, 0, none⟩) (some ⟨gz, 0, none⟩) cx cy cz := ⟨fun e => (by cases e), fun e => (by cases e), fun e => (by cases e)⟩
  have tx := Lx.m.totN
  have ty := Ly.m.totN
  have tz := Lz.m.totN
  have hI := fun W h => implChunksOf (some ⟨gx, 0, none⟩) (some ⟨gy, 0, none⟩) (some ⟨gz, 0, none⟩) cx cy cz xs ys zs W h Z1
  have hS := fun W h => specChunksOf (some ⟨gx, 0, none⟩) (some ⟨gy, 0, none⟩) (some ⟨gz, 0, none⟩) cx cy cz xs ys zs W h Z1 NN (by omega) (by omega) (by omega)
  have hJ := fun W h => implChunksOf (some ⟨gx, 0, none⟩) (some ⟨gz, 0, none⟩) (some ⟨gy, 0, none⟩) cx cz cy xs zs ys W h Z2
  have mx := Lx.m
  have my := Ly.m
  have mz := Lz.m
  clear Lx Ly Lz small Z1 Z2 NN tx ty tz h
  by_cases h0 : ckR xs ys zs = 0
  rotate_left
  · obtain ⟨R, hR⟩ : ∃ R, ckR xs ys zs = R := ⟨_, rfl⟩
    obtain ⟨V, hV⟩ : ∃ V, ckV xs ys zs = V := ⟨_, rfl⟩
    rw [hR] at h0
    simp only [hR, hV] at hI hS
    have q0 : (R != 0) = true := by simp [h0]
    have q1 : (R == R) = true := by simp
    clear hJ hR hV h0 mx my mz
    go_wp2_with fail
    refine (hI _ X1).mono ?_; rintro e w2 ⟨v, sl, rfl, O2, b2⟩
    have B2 := b1.trans (b2.mono b1.size)
    obtain ⟨W3, hW3⟩ : ∃ W, w2.alloc (.cells #[.int .i64 R, v] 29) = W := ⟨_, rfl⟩
    obtain ⟨b3, c0, c1⟩ := two hW3
    have B3 := B2.trans (b3.mono B2.size)
    have X3' : X3 W3.heap.size W3 (some ⟨gx, 0, none⟩) (some ⟨gy, 0, none⟩) (some ⟨gz, 0, none⟩) cx cy cz xs ys zs :=
      ⟨((X1.s1.below b2).below b3).mono (by have := b2.size; have := b3.size; omega), ((X1.s2.below b2).below b3).mono (by have := b2.size; have := b3.size; omega), ((X1.s3.below b2).below b3).mono (by have := b2.size; have := b3.size; omega)⟩
    obtain ⟨p, hp⟩ : ∃ p, w2.heap.size = p := ⟨_, rfl⟩
    rw [hp] at c0 c1
    obtain ⟨va, vc, ev⟩ := shapeK O2.row
    subst ev
    have hf0 : ∀ (u : Option Addr) (n c : Nat) w, (Instr.field 29 (.agg #[.int .i64 R, .slice u n c]) 0).run Try.prog w = .ok (.int .i64 R) w := fun u n c w => by kernel_rfl
    clear hI b1 b2 b3 B2 O2 X1
    go_upto_region 6 with fail
    go_cut [2] from 28 to 36 (fun s wx => s = .bool true ∧ Below W3.heap.size W3 wx)
    case first =>
      have BD : Below W3.heap.size W3 W3.drew := (Below.refl _ _).drew
      have XD : X3 W3.drew.heap.size W3.drew (some ⟨gx, 0, none⟩) (some ⟨gy, 0, none⟩) (some ⟨gz, 0, none⟩) cx cy cz xs ys zs := ⟨X3'.s1.below BD, X3'.s2.below BD, X3'.s3.below BD⟩
      clear X3' B3 hW3 hp
      go_region_held (fun w' => w'.cell? ⟨p, 0, none⟩ = some (.int .i64 R)) (first | with_reducible exact c0 | with_reducible exact c0a | exact c0)
        ((go_at_call 10; refine (hS _ XD).mono ?_; rintro e wa ⟨va', sa, rfl, OA, ba⟩; have BA := BD.trans ba; have c0a := zc BA c0; obtain ⟨ua, uc, eu⟩ := shapeK OA.row; subst eu))
      all_goals (go_wp2_with fail; go_meet; exact ⟨rfl, BA⟩)
    case rest =>
    obtain ⟨rfl, b⟩ := hcut
    have BE := B3.trans (b.mono B3.size)
    clear b
    go_wp2_with fail
    go_ret
    exact ⟨rfl, BE⟩
  obtain ⟨f1, f2, f3⟩ := ckR_zero h0
  have e1 : ckV xs ys zs = ckT xs ys zs := if_pos h0
  have h0' := ckR_sw xs ys zs h0
  have e2 : ckV xs zs ys = ckT xs zs ys := if_pos h0'
  have K1 := ckT_ok f1 f2 f3
  have K2 := ckT_ok f1 f3 f2
  have hsw := ckT_swL f1 f2 f3
  obtain ⟨⟨r0, s0⟩, ⟨r1, s1⟩, ⟨r2, s2⟩⟩ := ckT_ws f1 f2 f3
  have hcc := ckT_cc xs ys zs
  rw [h0, e1] at hI
  rw [h0', e2] at hJ
  have bx := lf_bd f1
  have by' := lf_bd f2
  have bz := lf_bd f3
  obtain ⟨T, hT⟩ : ∃ T, ckT xs ys zs = T := ⟨_, rfl⟩
  obtain ⟨U, hU⟩ : ∃ U, ckT xs zs ys = U := ⟨_, rfl⟩
  rw [hT] at hI K1 hsw r0 s0 r1 s1 r2 s2 hcc
  rw [hU] at hJ K2 hsw hcc
  clear hS h0 h0' e1 e2 f1 f2 f3 hT hU
  have hW0 := fun (va : Option Addr) (vc : Nat) W h => implWeaveSide va vc T 0 W h K1.n K1.s K1.f K1.sl K1.st
  have hW1 := fun (va : Option Addr) (vc : Nat) W h => implWeaveSide va vc T 1 W h K1.n K1.s K1.f K1.sl K1.st
  have hW2 := fun (va : Option Addr) (vc : Nat) W h => implWeaveSide va vc T 2 W h K1.n K1.s K1.f K1.sl K1.st
  rw [r0, s0] at hW0
  rw [r1, s1] at hW1
  rw [r2, s2] at hW2
  have hP := fun (va : Option Addr) (vc : Nat) W h => implSwapChunks va vc T W h K1.n K1.s K1.f K1.sl K1.y
  rw [K1.c, hsw] at hP
  have hF := fun (va : Option Addr) (vc : Nat) W h => implChunksFault va vc T W h K1.n K1.s K1.f K1.sl
  rw [K1.c] at hF
  have hC1 := fun (va : Option Addr) (vc : Nat) W h => implCountClashes va vc T W h K1.n K1.s K1.f K1.sl
  have hC2 := fun (va : Option Addr) (vc : Nat) W h => implCountClashes va vc U W h K2.n K2.s K2.f K2.sl
  have v1 : ccV T = cc T := if_pos K1.c
  have v2 : ccV U = cc T := (if_pos K2.c).trans hcc
  rw [K1.c, v1] at hC1
  rw [K2.c, v2] at hC2
  obtain ⟨D, hD⟩ : ∃ D, cc T = D := ⟨_, rfl⟩
  rw [hD] at hC1 hC2
  have hLx := fun (va : Option Addr) (vc : Nat) W p q => Same.implSameLines va (some ⟨gx, 0, none⟩) vc cx xs xs W p q (by omega) (by omega)
  have hLy := fun (va : Option Addr) (vc : Nat) W p q => Same.implSameLines va (some ⟨gy, 0, none⟩) vc cy ys ys W p q (by omega) (by omega)
  have hLz := fun (va : Option Addr) (vc : Nat) W p q => Same.implSameLines va (some ⟨gz, 0, none⟩) vc cz zs zs W p q (by omega) (by omega)
  rw [eqB_self] at hLx hLy hLz
  have K1f := K1.f
  have K2f := K2.f
  have K2s := K2.s
  have K2n := K2.n
  have sx : ∀ x ∈ xs, x.size ≤ 1000000 := fun x hx => Nat.le_trans (mx x hx) (by omega)
  have sy : ∀ x ∈ ys, x.size ≤ 1000000 := fun x hx => Nat.le_trans (my x hx) (by omega)
  have sz : ∀ x ∈ zs, x.size ≤ 1000000 := fun x hx => Nat.le_trans (mz x hx) (by omega)
  clear K1 K2 r0 s0 r1 s1 r2 s2 hcc hsw v1 v2 hD mx my mz
  go_wp2_with fail
  refine (hI _ X1).mono ?_; rintro e w2 ⟨v, sl, rfl, O2, b2⟩
  obtain ⟨va, vc, ev⟩ := shapeK O2.row
  subst ev
  have Q2 := O2.read K1f
  have B2 := b1.trans (b2.mono b1.size)
  have Sx := X1.s1.toSS (Nat.le_refl _)
  have Sy := X1.s2.toSS (Nat.le_refl _)
  have Sz := X1.s3.toSS (Nat.le_refl _)
  replace Sx := Sx.below b2
  replace Sy := Sy.below b2
  replace Sz := Sz.below b2
  clear X1 O2 hI b1 b2
  obtain ⟨W3, hQ3⟩ : ∃ W, w2.alloc (.cells #[.int .i64 0, .slice va T.length vc] 29) = W := ⟨_, rfl⟩
  obtain ⟨bb, x3a, x3b⟩ := two hQ3
  have BN := B2.trans (bb.mono B2.size)
  clear B2
  have B2 := BN
  clear BN
  obtain ⟨p3, hp3⟩ : ∃ p, w2.heap.size = p := ⟨_, rfl⟩
  rw [hp3] at x3a x3b
  replace Q2 := Kb Q2 bb
  replace Sx := Sx.below bb
  replace Sy := Sy.below bb
  replace Sz := Sz.below bb
  clear bb
  go_wp2_with fail
  refine (hW0 _ _ _ Q2).mono ?_; rintro e w4 ⟨v, rfl, O, bc⟩
  obtain ⟨u0, d0, ev, N0⟩ := Lv O sx
  subst ev
  have BN := B2.trans (bc.mono B2.size)
  clear B2
  have B2 := BN
  clear BN O hW0
  replace x3a := zc bc x3a
  replace x3b := zc bc x3b
  replace Q2 := Kb Q2 bc
  replace Sx := Sx.below bc
  replace Sy := Sy.below bc
  replace Sz := Sz.below bc
  clear bc
  obtain ⟨W4, hQ4⟩ : ∃ W, w4.alloc (.cells #[.int .i64 0, .slice u0 xs.length d0] 32) = W := ⟨_, rfl⟩
  obtain ⟨bb, x4a, x4b⟩ := two hQ4
  have BN := B2.trans (bb.mono B2.size)
  clear B2
  have B2 := BN
  clear BN
  obtain ⟨p4, hp4⟩ : ∃ p, w4.heap.size = p := ⟨_, rfl⟩
  rw [hp4] at x4a x4b
  replace x3a := zc bb x3a
  replace x3b := zc bb x3b
  replace Q2 := Kb Q2 bb
  replace Sx := Sx.below bb
  replace Sy := Sy.below bb
  replace Sz := Sz.below bb
  replace N0 := N0.below bb
  clear bb
  go_wp2_with fail
  refine (hW1 _ _ _ Q2).mono ?_; rintro e w5 ⟨v, rfl, O, bc⟩
  obtain ⟨u1, d1, ev, N1⟩ := Lv O sy
  subst ev
  have BN := B2.trans (bc.mono B2.size)
  clear B2
  have B2 := BN
  clear BN O hW1
  replace x3a := zc bc x3a
  replace x3b := zc bc x3b
  replace x4a := zc bc x4a
  replace x4b := zc bc x4b
  replace Q2 := Kb Q2 bc
  replace Sx := Sx.below bc
  replace Sy := Sy.below bc
  replace Sz := Sz.below bc
  replace N0 := N0.below bc
  clear bc
  obtain ⟨W5, hQ5⟩ : ∃ W, w5.alloc (.cells #[.int .i64 0, .slice u1 ys.length d1] 32) = W := ⟨_, rfl⟩
  obtain ⟨bb, x5a, x5b⟩ := two hQ5
  have BN := B2.trans (bb.mono B2.size)
  clear B2
  have B2 := BN
  clear BN
  obtain ⟨p5, hp5⟩ : ∃ p, w5.heap.size = p := ⟨_, rfl⟩
  rw [hp5] at x5a x5b
  replace x3a := zc bb x3a
  replace x3b := zc bb x3b
  replace x4a := zc bb x4a
  replace x4b := zc bb x4b
  replace Q2 := Kb Q2 bb
  replace Sx := Sx.below bb
  replace Sy := Sy.below bb
  replace Sz := Sz.below bb
  replace N0 := N0.below bb
  replace N1 := N1.below bb
  clear bb
  go_wp2_with fail
  refine (hW2 _ _ _ Q2).mono ?_; rintro e w6 ⟨v, rfl, O, bc⟩
  obtain ⟨u2, d2, ev, N2⟩ := Lv O sz
  subst ev
  have BN := B2.trans (bc.mono B2.size)
  clear B2
  have B2 := BN
  clear BN O hW2
  replace x3a := zc bc x3a
  replace x3b := zc bc x3b
  replace x4a := zc bc x4a
  replace x4b := zc bc x4b
  replace x5a := zc bc x5a
  replace x5b := zc bc x5b
  replace Q2 := Kb Q2 bc
  replace Sx := Sx.below bc
  replace Sy := Sy.below bc
  replace Sz := Sz.below bc
  replace N0 := N0.below bc
  replace N1 := N1.below bc
  clear bc
  obtain ⟨W6, hQ6⟩ : ∃ W, w6.alloc (.cells #[.int .i64 0, .slice u2 zs.length d2] 32) = W := ⟨_, rfl⟩
  obtain ⟨bb, x6a, x6b⟩ := two hQ6
  have BN := B2.trans (bb.mono B2.size)
  clear B2
  have B2 := BN
  clear BN
  obtain ⟨p6, hp6⟩ : ∃ p, w6.heap.size = p := ⟨_, rfl⟩
  rw [hp6] at x6a x6b
  replace x3a := zc bb x3a
  replace x3b := zc bb x3b
  replace x4a := zc bb x4a
  replace x4b := zc bb x4b
  replace x5a := zc bb x5a
  replace x5b := zc bb x5b
  replace Q2 := Kb Q2 bb
  replace Sx := Sx.below bb
  replace Sy := Sy.below bb
  replace Sz := Sz.below bb
  replace N0 := N0.below bb
  replace N1 := N1.below bb
  replace N2 := N2.below bb
  clear bb
  go_wp2_with fail
  refine (hP _ _ _ Q2).mono ?_; rintro e w7 ⟨v, sl7, rfl, O, bc⟩
  obtain ⟨sa, sc, ev⟩ := shapeK O.row
  subst ev
  have QS := O.read K2f
  have BN := B2.trans (bc.mono B2.size)
  clear B2
  have B2 := BN
  clear BN O hP
  replace x3a := zc bc x3a
  replace x3b := zc bc x3b
  replace x4a := zc bc x4a
  replace x4b := zc bc x4b
  replace x5a := zc bc x5a
  replace x5b := zc bc x5b
  replace x6a := zc bc x6a
  replace x6b := zc bc x6b
  replace Q2 := Kb Q2 bc
  replace Sx := Sx.below bc
  replace Sy := Sy.below bc
  replace Sz := Sz.below bc
  replace N0 := N0.below bc
  replace N1 := N1.below bc
  replace N2 := N2.below bc
  clear bc
  obtain ⟨W7, hQ7⟩ : ∃ W, w7.alloc (.cells #[.int .i64 0, .slice sa U.length sc] 29) = W := ⟨_, rfl⟩
  obtain ⟨bb, x7a, x7b⟩ := two hQ7
  have BN := B2.trans (bb.mono B2.size)
  clear B2
  have B2 := BN
  clear BN
  obtain ⟨p7, hp7⟩ : ∃ p, w7.heap.size = p := ⟨_, rfl⟩
  rw [hp7] at x7a x7b
  replace x3a := zc bb x3a
  replace x3b := zc bb x3b
  replace x4a := zc bb x4a
  replace x4b := zc bb x4b
  replace x5a := zc bb x5a
  replace x5b := zc bb x5b
  replace x6a := zc bb x6a
  replace x6b := zc bb x6b
  replace Q2 := Kb Q2 bb
  replace QS := Kb QS bb
  replace Sx := Sx.below bb
  replace Sy := Sy.below bb
  replace Sz := Sz.below bb
  replace N0 := N0.below bb
  replace N1 := N1.below bb
  replace N2 := N2.below bb
  clear bb
  go_wp2_with fail
  refine (hJ _ ⟨Sx, Sz, Sy⟩).mono ?_; rintro e w8 ⟨v, sl8, rfl, O, bc⟩
  obtain ⟨ta, tc, ev⟩ := shapeK O.row
  subst ev
  have QT := O.read K2f
  have BN := B2.trans (bc.mono B2.size)
  clear B2
  have B2 := BN
  clear BN O hJ
  replace x3a := zc bc x3a
  replace x3b := zc bc x3b
  replace x4a := zc bc x4a
  replace x4b := zc bc x4b
  replace x5a := zc bc x5a
  replace x5b := zc bc x5b
  replace x6a := zc bc x6a
  replace x6b := zc bc x6b
  replace x7a := zc bc x7a
  replace x7b := zc bc x7b
  replace Q2 := Kb Q2 bc
  replace QS := Kb QS bc
  replace Sx := Sx.below bc
  replace Sy := Sy.below bc
  replace Sz := Sz.below bc
  replace N0 := N0.below bc
  replace N1 := N1.below bc
  replace N2 := N2.below bc
  clear bc
  obtain ⟨W8, hQ8⟩ : ∃ W, w8.alloc (.cells #[.int .i64 0, .slice ta U.length tc] 29) = W := ⟨_, rfl⟩
  obtain ⟨bb, x8a, x8b⟩ := two hQ8
  have BN := B2.trans (bb.mono B2.size)
  clear B2
  have B2 := BN
  clear BN
  obtain ⟨p8, hp8⟩ : ∃ p, w8.heap.size = p := ⟨_, rfl⟩
  rw [hp8] at x8a x8b
  replace x3a := zc bb x3a
  replace x3b := zc bb x3b
  replace x4a := zc bb x4a
  replace x4b := zc bb x4b
  replace x5a := zc bb x5a
  replace x5b := zc bb x5b
  replace x6a := zc bb x6a
  replace x6b := zc bb x6b
  replace x7a := zc bb x7a
  replace x7b := zc bb x7b
  replace Q2 := Kb Q2 bb
  replace QS := Kb QS bb
  replace QT := Kb QT bb
  replace Sx := Sx.below bb
  replace Sy := Sy.below bb
  replace Sz := Sz.below bb
  replace N0 := N0.below bb
  replace N1 := N1.below bb
  replace N2 := N2.below bb
  clear bb
  have nU : ((U.length : Int) != (U.length : Int)) = false := by simp
  have nD : (D == D) = true := by simp
  go_wp2_with fail
  refine (hF _ _ _ Q2).mono ?_; rintro e w9 ⟨rfl, bc⟩
  have BN := B2.trans (bc.mono B2.size)
  clear B2
  have B2 := BN
  clear BN hF
  replace x3a := zc bc x3a
  replace x3b := zc bc x3b
  replace x4a := zc bc x4a
  replace x4b := zc bc x4b
  replace x5a := zc bc x5a
  replace x5b := zc bc x5b
  replace x6a := zc bc x6a
  replace x6b := zc bc x6b
  replace x7a := zc bc x7a
  replace x7b := zc bc x7b
  replace x8a := zc bc x8a
  replace x8b := zc bc x8b
  replace Q2 := Kb Q2 bc
  replace QS := Kb QS bc
  replace QT := Kb QT bc
  replace Sx := Sx.below bc
  replace Sy := Sy.below bc
  replace Sz := Sz.below bc
  replace N0 := N0.below bc
  replace N1 := N1.below bc
  replace N2 := N2.below bc
  clear bc
  go_wp2_with fail
  refine (hLx _ _ _ N0 Sx).mono ?_; rintro e w10 ⟨rfl, m0, rfl⟩
  have bd : Below w9.heap.size w9 (w9.drewN m0) := below_drewN' (Below.refl _ _) _
  obtain ⟨V0, hV0⟩ : ∃ V, w9.drewN m0 = V := ⟨_, rfl⟩
  rw [hV0] at bd ⊢
  have BN := B2.trans (bd.mono B2.size)
  clear B2
  have B2 := BN
  clear BN hLx hV0
  replace x3a := zc bd x3a
  replace x3b := zc bd x3b
  replace x4a := zc bd x4a
  replace x4b := zc bd x4b
  replace x5a := zc bd x5a
  replace x5b := zc bd x5b
  replace x6a := zc bd x6a
  replace x6b := zc bd x6b
  replace x7a := zc bd x7a
  replace x7b := zc bd x7b
  replace x8a := zc bd x8a
  replace x8b := zc bd x8b
  replace Q2 := Kb Q2 bd
  replace QS := Kb QS bd
  replace QT := Kb QT bd
  replace Sx := Sx.below bd
  replace Sy := Sy.below bd
  replace Sz := Sz.below bd
  replace N0 := N0.below bd
  replace N1 := N1.below bd
  replace N2 := N2.below bd
  clear bd
  go_wp2_with fail
  refine (hLy _ _ _ N1 Sy).mono ?_; rintro e w11 ⟨rfl, m1, rfl⟩
  have bd : Below V0.heap.size V0 (V0.drewN m1) := below_drewN' (Below.refl _ _) _
  obtain ⟨V1, hV1⟩ : ∃ V, V0.drewN m1 = V := ⟨_, rfl⟩
  rw [hV1] at bd ⊢
  have BN := B2.trans (bd.mono B2.size)
  clear B2
  have B2 := BN
  clear BN hLy hV1
  replace x3a := zc bd x3a
  replace x3b := zc bd x3b
  replace x4a := zc bd x4a
  replace x4b := zc bd x4b
  replace x5a := zc bd x5a
  replace x5b := zc bd x5b
  replace x6a := zc bd x6a
  replace x6b := zc bd x6b
  replace x7a := zc bd x7a
  replace x7b := zc bd x7b
  replace x8a := zc bd x8a
  replace x8b := zc bd x8b
  replace Q2 := Kb Q2 bd
  replace QS := Kb QS bd
  replace QT := Kb QT bd
  replace Sx := Sx.below bd
  replace Sy := Sy.below bd
  replace Sz := Sz.below bd
  replace N0 := N0.below bd
  replace N1 := N1.below bd
  replace N2 := N2.below bd
  clear bd
  go_wp2_with fail
  refine (hLz _ _ _ N2 Sz).mono ?_; rintro e w12 ⟨rfl, m2, rfl⟩
  have bd : Below V1.heap.size V1 (V1.drewN m2) := below_drewN' (Below.refl _ _) _
  obtain ⟨V2, hV2⟩ : ∃ V, V1.drewN m2 = V := ⟨_, rfl⟩
  rw [hV2] at bd ⊢
  have BN := B2.trans (bd.mono B2.size)
  clear B2
  have B2 := BN
  clear BN hLz hV2
  replace x3a := zc bd x3a
  replace x3b := zc bd x3b
  replace x4a := zc bd x4a
  replace x4b := zc bd x4b
  replace x5a := zc bd x5a
  replace x5b := zc bd x5b
  replace x6a := zc bd x6a
  replace x6b := zc bd x6b
  replace x7a := zc bd x7a
  replace x7b := zc bd x7b
  replace x8a := zc bd x8a
  replace x8b := zc bd x8b
  replace Q2 := Kb Q2 bd
  replace QS := Kb QS bd
  replace QT := Kb QT bd
  replace Sx := Sx.below bd
  replace Sy := Sy.below bd
  replace Sz := Sz.below bd
  replace N0 := N0.below bd
  replace N1 := N1.below bd
  replace N2 := N2.below bd
  clear bd
  clear N0 N1 N2 Sx Sy Sz x3a x4a x4b x5a x5b x6a x6b hQ3 hQ4 hQ5 hQ6 hQ7 hQ8 hp3 hp4 hp5 hp6 hp7 hp8 sx sy sz K1f K2f bx by' bz
  go_wp2_with fail
  go_loopw [12] (fun i wr => ∃ k : Nat, k ≤ U.length ∧ i = .int .i64 k ∧ Below V2.heap.size V2 wr) (fun i _ => U.length - (intOf i).toNat)
  case atStart => exact ⟨0, Nat.zero_le _, rfl, Below.refl _ _⟩
  case round =>
    obtain ⟨k, hk, rfl, hbel⟩ := hrel
    have hsz := hbel.size
    have y7 := zc hbel x7b
    have y8 := zc hbel x8b
    have y3 := zc hbel x3b
    by_cases hlt : k < U.length
    · have q : (k : Int) < (U.length : Int) := by omega
      obtain ⟨g, off, a1, c1, a2, c2, a3, c3, e, hg, d0, d1, d2, d3, S1, S2, S3⟩ := Kb QS hbel k hlt
      obtain ⟨g', off', a1', c1', a2', c2', a3', c3', e', hg', d0', d1', d2', d3', S1', S2', S3'⟩ := Kb QT hbel k hlt
      subst e
      subst e'
      obtain ⟨m1, m2, m3⟩ := mem_lns (ck_mem U k hlt)
      have l2 := K2s _ m2
      have l3 := K2s _ m3
      obtain ⟨C, hC⟩ : ∃ C, U.getD k cnil = C := ⟨_, rfl⟩
      obtain ⟨kk, o1, o2, o3⟩ := C
      rw [hC] at d0 d1 d2 d3 S1 S2 S3 d0' d1' d2' d3' S1' S2' S3' l2 l3
      simp only [] at d0 d1 d2 d3 S1 S2 S3 d0' d1' d2' d3' S1' S2' S3' l2 l3
      have hO := fun W p q => Same.implSameLines a2 a2' c2 c2' o2 o2 W p q (by omega) (by omega)
      have hT := fun W p q => Same.implSameLines a3 a3' c3 c3' o3 o3 W p q (by omega) (by omega)
      rw [eqB_self] at hO hT
      have T2 := S2.1.toSS (Nat.le_refl _)
      have T3 := S3.1.toSS (Nat.le_refl _)
      have T2' := S2'.1.toSS (Nat.le_refl _)
      have T3' := S3'.1.toSS (Nat.le_refl _)
      have nk : (kk != kk) = false := by simp
      obtain ⟨V, hV⟩ : ∃ V, V = wr := ⟨_, rfl⟩
      subst hV
      clear hC m1 m2 m3 S1 S2 S3 S1' S2' S3' d1 d1' QS QT Q2 hC1 hC2 B2 x7a x7b x8a x8b x3b K2s nU nD y3
      go_wp2
      go_quiet ((go_at_call 14; first | exact quietDrew (hO _ (T2.drewN _) (T2'.drewN _)) | exact quietDrew (hT _ (T3.drewN _) (T3'.drewN _))))
      go_wp2
      go_roundw
      case rel => exact ⟨k + 1, by omega, by go_num, below_drewN' hbel _⟩
      case measure => first | (simp [intOf]; omega) | simp [intOf]
    · have q : ¬ (k : Int) < (U.length : Int) := by omega
      have B3 := B2.trans (hbel.mono B2.size)
      have QA := Kb Q2 hbel
      have QB := Kb QS hbel
      obtain ⟨V, hV⟩ : ∃ V, V = wr := ⟨_, rfl⟩
      subst hV
      have f1 : ∀ w, (Instr.field 40 (.agg #[.int .i64 0, .int .i64 D]) 1).run Try.prog w = .ok (.int .i64 D) w := fun w => by kernel_rfl
      clear hbel hsz QS QT Q2 B2 x7a x7b x8a x8b x3b y8 K2s K2n nU hk
      go_upto_region 19 with fail
      go_cut [2] from 143 to 152 (fun s wx => s = .bool true ∧ Below V.heap.size V wx)
      case first =>
        have BD : Below V.heap.size V V.drew := (Below.refl _ _).drew
        have QAD := Kb QA BD
        have QBD := Kb QB BD
        clear B3 QA QB
        go_region_held (fun w' => w'.cell? ⟨p3, 1, none⟩ = some (.slice va T.length vc) ∧ w'.cell? ⟨p7, 1, none⟩ = some (.slice sa U.length sc)) (first | with_reducible exact ⟨y3, y7⟩ | with_reducible exact ⟨zc BA y3, zc BA y7⟩ | with_reducible exact ⟨zc BC y3, zc BC y7⟩ | exact ⟨y3, y7⟩)
          ((first
            | (go_at_call 15; have gd := BA; clear gd; refine (hC2 _ _ _ QBA).mono ?_; rintro e wc ⟨rfl, bc⟩; have BC := BA.trans (bc.mono BA.size))
            | (go_at_call 15; refine (hC1 _ _ _ QAD).mono ?_; rintro e wa ⟨rfl, ba⟩; have BA := BD.trans ba; have QBA := Kb QBD ba)))
        all_goals (go_wp2_with fail; go_meet; exact ⟨rfl, BC⟩)
      case rest =>
      obtain ⟨rfl, b⟩ := hcut
      have BE := B3.trans (b.mono B3.size)
      clear b
      go_wp2_with fail
      go_ret
      exact ⟨rfl, BE⟩

set_option linter.unusedVariables false
theorem laidOut : laidOutB Try.prog = true := by kernel_rfl
theorem own : ownKnob Try.prog.godebug = none := by kernel_rfl
set_option maxRecDepth 100000 in
theorem lifted (os : Os) (started : os.Started) (H : Type) (enc : TypeId × Value → H) :
    ReturnsInHanded {} Try.checked os 3 .any (Rows.fnChunksSpec.pre6 enc Try.prog Try.f3 Rows.fnChunksRow.domain false) (Rows.fnChunksSpec.post enc Try.prog Try.f3 false true false false) := by
  refine returnsInHanded_of_change (C := Try.checked) own started (by kernel_rfl) Try.func3
    (ChangeSpec.witness6 (enc := enc) (C := Try.checked) false ⟨#[], #[.slice none 0 0], []⟩ 8 (by kernel_rfl) (by kernel_rfl) (by kernel_rfl) (by kernel_rfl)) ?_
  intro W base args ds gs before hval0 hW hcnd _
  have hval : ∀ (j : Nat) t v, Try.f3.params[j]? = some t → args[j]? = some v → Value.okWide Try.prog W .any base t v := hval0
  have hW' := hW
  obtain ⟨p, q, hA0, hV, rfl, hfz, hnd⟩ := hW
  have hA : DataW.TrodAll enc Try.prog W 0 (fun _ => true) true Try.f3.params.toList args.toList ds p := hA0
  rw [Try.params3] at hA hval
  obtain ⟨v0, vs0, d0, ds0, p0, q0, hargs, rfl, rfl, h0, r0⟩ := trodAll_cons hA
  obtain ⟨rfl, rfl, rfl⟩ := trodAll_nil r0
  obtain rfl : args = #[v0] := by cases args; simp_all
  obtain ⟨rfl, rfl⟩ := trodVars_none hV
  obtain ⟨a0, len0, cap0, rfl⟩ := okWide_slice Try.underlying22 (hval 0 22 v0 rfl rfl)
  have k0 := h0
  have lt0 : ∀ x ∈ p0, x.block < W.heap.size := by obtain ⟨m, hm⟩ := k0; exact DataW.trod_lt m _ _ _ hm
  obtain ⟨w0, n0⟩ := openBts h0 lt0
  clear hA0 hval0
  refine (walk a0 len0 cap0 W w0 n0).mono fun e W' ⟨he, bel⟩ => ?_
  subst he
  exact ⟨_, rfl, _, _, _, [], _, [], hW', trodAll_mk1 (shut_bool Try.underlying4 _), (trodAll_cons_mk (Below.trod laidOut (by kernel_rfl) (of_decide_eq_true (by kernel_rfl)) k0 bel lt0) trodAll_mk0), rfl, bel.frame _, fun h => by cases h⟩

theorem over : Rows.fnChunksRow.holds Try.pinned (OpenSpec.ofChange Rows.fnChunksSpec) :=
  OpenClaim.holds_of_wide 3 Try.f3 rfl rfl rfl rfl rfl rfl rfl ⟨rfl, rfl, rfl, rfl, rfl⟩ rfl rfl rfl rfl rfl (by kernel_rfl) Try.func3 (by kernel_rfl)
    (of_decide_eq_true (by kernel_rfl)) (by unfold Func.isWrapper; first | (rw [if_pos (by decide +kernel)]; kernel_rfl) | (rw [if_neg (by decide +kernel)]; exact ⟨rfl, rfl⟩))
    (fun os started H enc _ => lifted os started H enc)

theorem proved : Rows.FnChunksSaid := over
end Go.Proofs.Yticagabnaibmgaa.CnF
namespace Go.Proofs.Yticagabnaibmgaa
theorem fnChunks_proved : Rows.FnChunksSaid := CnF.proved
end Go.Proofs.Yticagabnaibmgaa
