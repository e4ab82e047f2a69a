/- Proved: at every code FnPatches returns true (hunks make the new lines of the old ones, and turned round the old ones of the new). No condition: FnPatchesSaid itself. -/
import Derived.Test.YtepbkaidlffaiaaRows
import Derived.Test.YtepbkaidlffaiaaLemQ
import Derived.Test.YtepbkaidlffaiaaStrsQ
import Derived.Test.YtepbkaidlffaiaaMarksQ
import Derived.Test.YtepbkaidlffaiaaLFLemQ
import Derived.Test.YtepbkaidlffaiaaLFQ
import Derived.Test.YtepbkaidlffaiaaComQ
import Derived.Test.YtepbkaidlffaiaaDTabQ
import Derived.Test.YtepbkaidlffaiaaOwnQ
import Derived.Test.YtepbkaidlffaiaaFrQ
import Derived.Test.YtepbkaidlffaiaaInQ
import Derived.Test.YtepbkaidlffaiaaAskedQ
import Derived.Test.YtepbkaidlffaiaaHkTQ
import Derived.Test.YtepbkaidlffaiaaHkLQ
import Derived.Test.YtepbkaidlffaiaaHfCQ
import Derived.Test.YtepbkaidlffaiaaHfIQ
import Derived.Test.YtepbkaidlffaiaaHnLQ
import Derived.Test.YtepbkaidlffaiaaHrRQ
import Derived.Test.YtepbkaidlffaiaaRvLQ
import Derived.Test.YtepbkaidlffaiaaRvIQ
import Derived.Test.YtepbkaidlffaiaaApCQ
import Derived.Test.YtepbkaidlffaiaaApNQ
import Derived.Test.YtepbkaidlffaiaaHoMQ
import Derived.Test.YtepbkaidlffaiaaHoFQ
import Derived.Test.YtepbkaidlffaiaaSameCQ
import Derived.Test.YtepbkaidlffaiaaGdMQ
import Derived.Test.YtepbkaidlffaiaaPtQQ
import Derived.Test.YtepbkaidlffaiaaDrawQ
import Derived.Test.YtepbkaidlffaiaaDraw10Q
import Derived.WalkKit
import Derived.ProofKit
import Derived.OpenShut
import Derived.Below
import Derived.Carry
import Derived.Deep.QuietTactic
import Derived.BigQuiet
import Derived.Deep.RegionWith
import Derived.Deep.CutRange
import Derived.Deep.RegionHeld
namespace Go.Proofs.Ytepbkaidlffaiaa.PtF
open Go.ChangeShapes Go.WideShapes Go.ChangeAt Go.RowKit

theorem lwBig (a : Option Addr) (n cap : Nat) (w : World) : Calls Try.prog 8 #[.slice a n cap] w fun e w' => e = .returned (.bool (decide ((1048576 : Int) < (n : Int)))) ∧ w' = w := by
  go_enter Try.func8, Try.ntmps8
  go_wp2
  go_ret
  exact ⟨rfl, rfl⟩
theorem zc {w w' : World} {b o : Nat} {v : Value} (h : Below w.heap.size w w') (hc : w.cell? ⟨b, o, none⟩ = some v) : w'.cell? ⟨b, o, none⟩ = some v := (Fr.ofBelow (lo := 0) (hi := 0) h).cell hc (.inr (Nat.zero_le _))
theorem hoR_zero {xs ys : List ByteArray} {cx : Int} (h : hoR xs ys cx = 0) : asked xs ys = 0 ∧ 0 ≤ cx ∧ cx ≤ 5 := by
  unfold hoR at h
  split at h
  · rename_i h0
    split at h
    · rename_i hc; exact ⟨h0, hc⟩
    · cases h
  · rename_i h0; exact absurd h h0
set_option maxRecDepth 20000 in
set_option maxHeartbeats 4000000 in
theorem walk (a : Option Addr) (n cap : Nat) (w : World) (h : Bts w a n) (_hm : n ≤ 9223372036854775807) :
    Calls Try.prog 7 #[.slice a n cap] w fun e w' => e = .returned (.bool true) ∧ Below w.heap.size w w' := by
  by_cases hbig : (1048576 : Int) < (n : Int)
  · go_enter Try.func7, Try.ntmps7
    go_wp2_with (go_at_call 8; refine (lwBig _ _ _ _).mono ?_; rintro e w' ⟨rfl, rfl⟩)
    go_ret
    exact ⟨rfl, Below.refl _ _⟩
  go_enter Try.func7, Try.ntmps7
  go_wp2_with fail
  refine (lwBig _ _ _ _).mono ?_; rintro e w ⟨rfl, rfl⟩
  go_wp2_with fail
  refine (drawHunksOf a n cap _ h (by omega)).mono ?_; rintro e w1 ⟨g1, c1, xs, g2, c2, ys, cx, rfl, Sx, Sy, lx, ly, tx, ty, kx, ky, b1⟩
  clear h
  have hM := fun w p q => implHunksOf cx (some ⟨g1, 0, none⟩) (some ⟨g2, 0, none⟩) c1 c2 xs ys w p q kx ky (by omega) (by omega)
  go_wp2_with fail
  refine (hM _ Sx Sy).mono ?_; rintro e w2 ⟨v1, sl, rfl, hO, b2⟩
  obtain ⟨va, vc, ev⟩ := shape3 hO.row
  subst ev
  by_cases h0 : hoR xs ys cx = 0
  · obtain ⟨k0, k1, k2⟩ := hoR_zero h0
    obtain ⟨f1, f2⟩ := asked_zero k0
    obtain ⟨p1, p2, p3, p4, p5, p6⟩ := pt_all f1 f2 k1
    have e4 : hoL xs ys cx = hks xs ys cx (changes xs ys) := if_pos ⟨k0, k1, k2⟩
    rw [h0, e4]
    rw [e4] at hO
    obtain ⟨L, hLe⟩ : ∃ L, hks xs ys cx (changes xs ys) = L := ⟨_, rfl⟩
    rw [hLe] at p1 p2 p3 p4 p5 p6 hO ⊢
    have hl := (hf_zero p1).1
    have q1 := (lf_zero' f1).2
    have q2 := (lf_zero' f2).2
    obtain ⟨tm1, tm2⟩ := tame_of p1 p2 p5 q1 q2
    have hr1 : apR xs L = 0 := by unfold apR; rw [if_pos f1, if_pos p1, if_pos p2, p3]; exact f2
    have hr2 : apL xs L = ys := by unfold apL; rw [if_pos ⟨f1, p1, p2, by rw [p3]; exact f2⟩, p3]
    have hr3 : apR ys (L.map revH) = 0 := by unfold apR; rw [if_pos f2, if_pos p4, if_pos p5, p6]; exact f1
    have hr4 : apL ys (L.map revH) = xs := by unfold apL; rw [if_pos ⟨f2, p4, p5, by rw [p6]; exact f1⟩, p6]
    have hF := fun (a3 : Option Addr) (c3 : Nat) w p => implHunksFault a3 c3 L w p (by omega) tm1.short
    have hV := fun (a3 : Option Addr) (c3 : Nat) w p => implReverseHunks a3 c3 L w p (by omega) tm1.short tm1.size
    have hA1 := fun (a3 : Option Addr) (c3 : Nat) w p q => implApplyHunks (some ⟨g1, 0, none⟩) a3 ⟨_, rfl⟩ c1 c3 xs L w p q kx (by omega) (by omega) tm1.short (tm1.fit hl q1)
    have hA2 := fun (a3 : Option Addr) (c3 : Nat) w p q => implApplyHunks (some ⟨g2, 0, none⟩) a3 ⟨_, rfl⟩ c2 c3 ys (L.map revH) w p q ky (by omega) (by rw [List.length_map]; omega) tm2.short (tm2.fit (by rw [List.length_map]; exact hl) q2)
    have hL1 := fun (va : Option Addr) (vc : Nat) w p q => Same.implSameLines va (some ⟨g2, 0, none⟩) vc c2 ys ys w p q (by omega) (by omega)
    have hL2 := fun (va : Option Addr) (vc : Nat) w p q => Same.implSameLines va (some ⟨g1, 0, none⟩) vc c1 xs xs w p q (by omega) (by omega)
    rw [eqB_self] at hL1 hL2
    rw [p1] at hF hV
    rw [rvL_ok p1] at hV
    rw [hr1, hr2] at hA1
    rw [hr3, hr4] at hA2
    have ft1 := tm1.fits
    have ft2 := tm2.fits
    have zX := Sx.1
    have zY := Sy.1
    obtain ⟨M, hMe⟩ : ∃ M, L.map revH = M := ⟨_, rfl⟩
    rw [hMe] at hV hA2 ft2
    clear hM p1 p2 p3 p4 p5 p6 e4 hLe hMe hr1 hr2 hr3 hr4 f1 f2 k0 k1 k2 h0 tm1 tm2 q1 q2 tx ty
    -- what HunksOf told
    obtain ⟨W3, hW3⟩ : ∃ W, w2.alloc (.cells #[.int .i64 0, .int .i64 0, .slice va L.length vc] 57) = W := ⟨_, rfl⟩
    have R : Rs W3 w2.heap.size [.int .i64 0, .int .i64 0, .slice va L.length vc] := by rw [← hW3]; exact Rs.new _ _ _
    have c3 : Below w1.heap.size w1 W3 := by rw [← hW3]; exact b2.alloc b2.size _
    have d3 : Below w2.heap.size w2 W3 := by rw [← hW3]; exact allocBelow _ _
    have H3 := (hO.below d3).read ft1
    have z3 : w2.heap.size < W3.heap.size := by rw [← hW3]; simp
    have Sx3 := Sx.below c3
    have Sy3 := Sy.below c3
    have B3 := b1.trans (c3.mono b1.size)
    obtain ⟨p, hp⟩ : ∃ p, w2.heap.size = p := ⟨_, rfl⟩
    have r0 := R 0 _ rfl
    have r2 := R 2 _ rfl
    rw [hp] at r0 r2 z3
    clear b2 b1 Sx Sy c3 d3 hO R
    -- turned round
    go_wp2_with fail
    refine (hV va vc _ H3).mono ?_; rintro e w4 ⟨v4, sl4, rfl, hO4, b4⟩
    clear hW3
    obtain ⟨xa, xc, ex⟩ := shape3 hO4.row
    subst ex
    obtain ⟨W5, hW5⟩ : ∃ W, w4.alloc (.cells #[.int .i64 0, .int .i64 0, .slice xa M.length xc] 57) = W := ⟨_, rfl⟩
    have R5 : Rs W5 w4.heap.size [.int .i64 0, .int .i64 0, .slice xa M.length xc] := by rw [← hW5]; exact Rs.new _ _ _
    have c5 : Below W3.heap.size W3 W5 := by rw [← hW5]; exact b4.alloc b4.size _
    have d5 : Below w4.heap.size w4 W5 := by rw [← hW5]; exact allocBelow _ _
    have H5 := (hO4.below d5).read ft2
    have G5 : HB W5.heap.size W5 va L := (H3.below c5).mono c5.size
    have Sx5 := Sx3.below c5
    have Sy5 := Sy3.below c5
    have B5 := B3.trans (c5.mono B3.size)
    have r0 := zc c5 r0
    have r2 := zc c5 r2
    obtain ⟨p5, hp5⟩ : ∃ p, w4.heap.size = p := ⟨_, rfl⟩
    have s0 := R5 0 _ rfl
    have s2 := R5 2 _ rfl
    rw [hp5] at s0 s2
    clear b4 c5 d5 hO4 R5 H3 Sx3 Sy3 B3 hV
    -- applied
    go_wp2_with fail
    refine (hA1 va vc _ Sx5 G5).mono ?_; rintro e w6 ⟨v6, rfl, o6, b6⟩
    clear hW5
    obtain ⟨ya, yc, ey⟩ := shapeS o6
    subst ey
    obtain ⟨W7, hW7⟩ : ∃ W, w6.alloc (.cells #[.int .i64 0, .slice ya ys.length yc] 27) = W := ⟨_, rfl⟩
    have R7 : Rs W7 w6.heap.size [.int .i64 0, .slice ya ys.length yc] := by rw [← hW7]; exact Rs.new _ _ _
    have c7 : Below W5.heap.size W5 W7 := by rw [← hW7]; exact b6.alloc b6.size _
    have d7 : Below w6.heap.size w6 W7 := by rw [← hW7]; exact allocBelow _ _
    have T7 := (ownSS o6 zY).below d7
    have H7 : HB W7.heap.size W7 xa M := (H5.below c7).mono c7.size
    have G7 : HB W7.heap.size W7 va L := (G5.below c7).mono c7.size
    have Sx7 := Sx5.below c7
    have Sy7 := Sy5.below c7
    have B7 := B5.trans (c7.mono B5.size)
    have r0 := zc c7 r0
    have r2 := zc c7 r2
    have s0 := zc c7 s0
    have s2 := zc c7 s2
    obtain ⟨p7, hp7⟩ : ∃ p, w6.heap.size = p := ⟨_, rfl⟩
    have t0 := R7 0 _ rfl
    have t1 := R7 1 _ rfl
    rw [hp7] at t0 t1
    clear b6 c7 d7 o6 R7 H5 G5 Sx5 Sy5 B5 hA1
    -- and back
    go_wp2_with fail
    refine (hA2 xa xc _ Sy7 H7).mono ?_; rintro e w8 ⟨v8, rfl, o8, b8⟩
    clear hW7
    obtain ⟨za, zc', ez⟩ := shapeS o8
    subst ez
    obtain ⟨W9, hW9⟩ : ∃ W, w8.alloc (.cells #[.int .i64 0, .slice za xs.length zc'] 27) = W := ⟨_, rfl⟩
    have R9 : Rs W9 w8.heap.size [.int .i64 0, .slice za xs.length zc'] := by rw [← hW9]; exact Rs.new _ _ _
    have c9 : Below W7.heap.size W7 W9 := by rw [← hW9]; exact b8.alloc b8.size _
    have d9 : Below w8.heap.size w8 W9 := by rw [← hW9]; exact allocBelow _ _
    have U9 := (ownSS o8 zX).below d9
    have T9 := T7.below c9
    have G9 : HB W9.heap.size W9 va L := (G7.below c9).mono c9.size
    have Sx9 := Sx7.below c9
    have Sy9 := Sy7.below c9
    have B9 := B7.trans (c9.mono B7.size)
    have r2 := zc c9 r2
    have s0 := zc c9 s0
    have t0 := zc c9 t0
    have t1 := zc c9 t1
    obtain ⟨p9, hp9⟩ : ∃ p, w8.heap.size = p := ⟨_, rfl⟩
    have u0 := R9 0 _ rfl
    have u1 := R9 1 _ rfl
    rw [hp9] at u0 u1
    clear b8 c9 d9 o8 R9 T7 H7 G7 Sx7 Sy7 B7 hA2
    go_wp2_with fail
    refine (hF va vc _ G9).mono ?_; rintro e wA ⟨rfl, ba⟩
    have s0 := zc ba s0
    have t0 := zc ba t0
    have t1 := zc ba t1
    have u0 := zc ba u0
    have u1 := zc ba u1
    have SxA := Sx9.below ba
    have SyA := Sy9.below ba
    have TA := T9.below ba
    have UA := U9.below ba
    have BA := B9.trans (ba.mono B9.size)
    clear ba Sx9 Sy9 T9 U9 B9 G9 hF r2 hW9
    go_wp2_with fail
    refine (hL1 _ _ _ TA SyA).mono ?_; rintro e wb ⟨rfl, nb, rfl⟩
    have s0 : (wA.drewN nb).cell? ⟨p5, 0, none⟩ = some (.int .i64 0) := s0
    have u0 : (wA.drewN nb).cell? ⟨p9, 0, none⟩ = some (.int .i64 0) := u0
    have u1 : (wA.drewN nb).cell? ⟨p9, 1, none⟩ = some (.slice za xs.length zc') := u1
    have SxB := SxA.drewN nb
    have UB := UA.drewN nb
    have BB := below_drewN' BA nb
    clear SxA UA BA TA SyA t0 t1
    go_wp2_with fail
    refine (hL2 _ _ _ UB SxB).mono ?_; rintro e wc ⟨rfl, nc, rfl⟩
    have BE := below_drewN' BB nc
    clear SxB UB BB s0 u0 u1
    go_wp2_with fail
    go_ret
    exact ⟨rfl, by rw [← World.drewN_drewN]; exact BE⟩
  · have hS := fun w p q => specHunksNo cx (some ⟨g1, 0, none⟩) (some ⟨g2, 0, none⟩) c1 c2 xs ys w p q (by omega) (by omega) (by omega) (by omega) h0
    have q0 : (hoR xs ys cx != 0) = true := by simp [h0]
    obtain ⟨K, hK⟩ : ∃ K, hoR xs ys cx = K := ⟨_, rfl⟩
    rw [hK] at hS q0 ⊢
    have kk : (K == K) = true := by simp
    have fl : ∀ v1 w, (Instr.field 57 (.agg #[.int .i64 K, .int .i64 0, v1]) 0).run Try.prog w = .ok (.int .i64 K) w := fun v1 w => by kernel_rfl
    obtain ⟨L, hLe⟩ : ∃ L, hoL xs ys cx = L := ⟨_, rfl⟩
    rw [hLe]
    obtain ⟨W3, hW3⟩ : ∃ W, w2.alloc (.cells #[.int .i64 K, .int .i64 0, .slice va L.length vc] 57) = W := ⟨_, rfl⟩
    have R : Rs W3 w2.heap.size [.int .i64 K, .int .i64 0, .slice va L.length vc] := by rw [← hW3]; exact Rs.new _ _ _
    have c3 : Below w1.heap.size w1 W3 := by rw [← hW3]; exact b2.alloc b2.size _
    have Sx3 := Sx.below c3
    have Sy3 := Sy.below c3
    have B3 := b1.trans (c3.mono b1.size)
    obtain ⟨p, hp⟩ : ∃ p, w2.heap.size = p := ⟨_, rfl⟩
    have r0 := R 0 _ rfl
    rw [hp] at r0
    clear hM hO b2 b1 Sx Sy c3 R h0 hK hLe
    go_upto_region 6 with fail
    go_cut [2] from 25 to 32 (fun s wx => s = .bool true ∧ Below W3.heap.size W3 wx)
    case first =>
      have BD : Below W3.heap.size W3 W3.drew := (Below.refl _ _).drew
      have SxD := Sx3.below BD
      have SyD := Sy3.below BD
      clear lx ly tx ty kx ky Sx3 Sy3 B3 hbig hW3 hp
      go_region_held (fun w' => w'.cell? ⟨p, 0, none⟩ = some (.int .i64 K)) (first | with_reducible exact r0a | exact r0)
        ((go_at_call 33; refine (hS _ SxD SyD).mono ?_; rintro e wa ⟨rfl, ba⟩; have r0a := zc ba r0; have Bt1 := below_step BD BD.size ba))
      all_goals (go_wp2_with fail; go_meet; exact ⟨rfl, Bt1⟩)
    case rest =>
    obtain ⟨rfl, b⟩ := hcut
    have BE := B3.trans (b.mono B3.size)
    clear b
    go_wp2_with fail
    go_ret
    exact ⟨rfl, BE⟩

set_option linter.unusedVariables false
theorem laidOut : laidOutB Try.prog = true := by kernel_rfl
theorem own : ownKnob Try.prog.godebug = none := by kernel_rfl
set_option maxRecDepth 100000 in
theorem lifted (os : Os) (started : os.Started) (H : Type) (enc : TypeId × Value → H) :
    ReturnsInHanded {} Try.checked os 7 .any (Rows.fnPatchesSpec.pre6 enc Try.prog Try.f7 Rows.fnPatchesRow.domain false) (Rows.fnPatchesSpec.post enc Try.prog Try.f7 false true false false) := by
  refine returnsInHanded_of_change (C := Try.checked) own started (by kernel_rfl) Try.func7
    (ChangeSpec.witness6 (enc := enc) (C := Try.checked) false ⟨#[], #[.slice none 0 0], []⟩ 8 (by kernel_rfl) (by kernel_rfl) (by kernel_rfl) (by kernel_rfl)) ?_
  intro W base args ds gs before hval0 hW hcnd _
  have hval : ∀ (j : Nat) t v, Try.f7.params[j]? = some t → args[j]? = some v → Value.okWide Try.prog W .any base t v := hval0
  have hW' := hW
  obtain ⟨p, q, hA0, hV, rfl, hfz, hnd⟩ := hW
  have hA : DataW.TrodAll enc Try.prog W 0 (fun _ => true) true Try.f7.params.toList args.toList ds p := hA0
  rw [Try.params7] at hA hval
  obtain ⟨v0, vs0, d0, ds0, p0, q0, hargs, rfl, rfl, h0, r0⟩ := trodAll_cons hA
  obtain ⟨rfl, rfl, rfl⟩ := trodAll_nil r0
  obtain rfl : args = #[v0] := by cases args; simp_all
  obtain ⟨rfl, rfl⟩ := trodVars_none hV
  obtain ⟨a0, len0, cap0, rfl⟩ := okWide_slice Try.underlying22 (hval 0 22 v0 rfl rfl)
  have k0 := h0
  have lt0 : ∀ x ∈ p0, x.block < W.heap.size := by obtain ⟨m, hm⟩ := k0; exact DataW.trod_lt m _ _ _ hm
  obtain ⟨w0, n0⟩ := openBts h0 lt0
  clear hA0 hval0
  refine (walk a0 len0 cap0 W w0 n0).mono fun e W' ⟨he, bel⟩ => ?_
  subst he
  exact ⟨_, rfl, _, _, _, [], _, [], hW', trodAll_mk1 (shut_bool Try.underlying4 _), (trodAll_cons_mk (Below.trod laidOut (by kernel_rfl) (of_decide_eq_true (by kernel_rfl)) k0 bel lt0) trodAll_mk0), rfl, bel.frame _, fun h => by cases h⟩

theorem over : Rows.fnPatchesRow.holds Try.pinned (OpenSpec.ofChange Rows.fnPatchesSpec) :=
  OpenClaim.holds_of_wide 7 Try.f7 rfl rfl rfl rfl rfl rfl rfl ⟨rfl, rfl, rfl, rfl, rfl⟩ rfl rfl rfl rfl rfl (by kernel_rfl) Try.func7 (by kernel_rfl)
    (of_decide_eq_true (by kernel_rfl)) (by unfold Func.isWrapper; first | (rw [if_pos (by decide +kernel)]; kernel_rfl) | (rw [if_neg (by decide +kernel)]; exact ⟨rfl, rfl⟩))
    (fun os started H enc _ => lifted os started H enc)

theorem proved : Rows.FnPatchesSaid := over
end Go.Proofs.Ytepbkaidlffaiaa.PtF
namespace Go.Proofs.Ytepbkaidlffaiaa
theorem fnPatches_proved : Rows.FnPatchesSaid := PtF.proved
end Go.Proofs.Ytepbkaidlffaiaa
