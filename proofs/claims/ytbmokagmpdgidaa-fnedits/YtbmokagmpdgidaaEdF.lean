/- Proved: at every code of bytes FnEdits returns true (no way over third lines is shorter than the straight one; as many edits forth as back; none just where the lines are the same), and the code reads as before. No condition: FnEditsSaid itself. -/
import Derived.Test.YtbmokagmpdgidaaRows
import Derived.Test.YtbmokagmpdgidaaLem
import Derived.Test.YtbmokagmpdgidaaStrs
import Derived.Test.YtbmokagmpdgidaaLFLem
import Derived.Test.YtbmokagmpdgidaaLF
import Derived.Test.YtbmokagmpdgidaaCom
import Derived.Test.YtbmokagmpdgidaaAsked
import Derived.Test.YtbmokagmpdgidaaDTab
import Derived.Test.YtbmokagmpdgidaaOwn
import Derived.Test.YtbmokagmpdgidaaFr
import Derived.Test.YtbmokagmpdgidaaEdC
import Derived.Test.YtbmokagmpdgidaaSameC
import Derived.Test.YtbmokagmpdgidaaTri
import Derived.Test.YtbmokagmpdgidaaDraw
import Derived.Test.YtbmokagmpdgidaaDraw8
import Derived.Test.YtbmokagmpdgidaaEdA
import Derived.WalkKit
import Derived.ProofKit
import Derived.OpenShut
import Derived.Below
import Derived.Carry
import Derived.Deep.QuietTactic
import Derived.BigQuiet
import Derived.Deep.RegionWith
import Derived.Deep.CutRange
import Derived.Deep.RegionHeld
namespace Go.Proofs.Ytbmokagmpdgidaa.EdF
open Go.ChangeShapes Go.WideShapes Go.ChangeAt Go.RowKit

theorem lwBig (a : Option Addr) (n cap : Nat) (w : World) : Calls Try.prog 8 #[.slice a n cap] w fun e w' => e = .returned (.bool (decide ((1048576 : Int) < (n : Int)))) ∧ w' = w := by
  go_enter Try.func8, Try.ntmps8
  go_wp2
  go_ret
  exact ⟨rfl, rfl⟩
theorem zc {w w' : World} {b o : Nat} {v : Value} (h : Below w.heap.size w w') (hc : w.cell? ⟨b, o, none⟩ = some v) : w'.cell? ⟨b, o, none⟩ = some v := (Fr.ofBelow (lo := 0) (hi := 0) h).cell hc (.inr (Nat.zero_le _))
theorem edV_bd {xs ys : List ByteArray} (h1 : xs.length ≤ 1000) (h2 : ys.length ≤ 1000) : 0 ≤ edV xs ys ∧ edV xs ys ≤ 2000 := by
  unfold edV
  split
  · have := com_le_length _ xs ys (Nat.le_refl _)
    rw [edits_changes]; omega
  · omega

set_option maxRecDepth 20000 in
set_option maxHeartbeats 4000000 in
theorem walk (a : Option Addr) (n cap : Nat) (w : World) (h : Bts w a n) (hnil : a = none → cap = 0) (hm : n ≤ 9223372036854775807) :
    Calls Try.prog 6 #[.slice a n cap] w fun e w' => e = .returned (.bool true) ∧ Below w.heap.size w w' := by
  by_cases hbig : (1048576 : Int) < (n : Int)
  · go_enter Try.func6, Try.ntmps6
    go_wp2_with (go_at_call 8; refine (lwBig _ _ _ _).mono ?_; rintro e w' ⟨rfl, rfl⟩)
    go_ret
    exact ⟨rfl, Below.refl _ _⟩
  have hn : n ≤ 1048576 := by omega
  go_enter Try.func6, Try.ntmps6
  go_wp2_with fail
  refine (lwBig _ _ _ _).mono ?_; rintro e w ⟨rfl, rfl⟩
  go_wp2_with fail
  refine (drawEditCount a n cap _ h (by omega)).mono ?_; rintro e w1 ⟨ax, cx, xs, ay, cy, ys, rfl, Sx, Sy, lx, ly, tx, ty, b1⟩
  have h1 := h.below b1
  clear h
  go_wp2_with ((at_builtin; refine wpList_appB rfl (.tmp 18) (.tmp 19) rfl rfl a n cap rfl h1 hnil (by omega) ?_; intro a' c' w2 h2 b2))
  have B2 := b1.trans (b2.mono b1.size)
  have Sx2 := Sx.below b2
  have Sy2 := Sy.below b2
  clear b1 b2 Sx Sy h1
  go_wp2_with fail
  refine (drawEditCount (some a') (n + 1) c' _ h2 (by omega)).mono ?_; rintro e w3 ⟨az, cz, zs, ag, cg, gs, rfl, Sz, _, lz, _, tz, _, b3⟩
  have B3 := B2.trans (b3.mono B2.size)
  have Sx3 := Sx2.below b3
  have Sy3 := Sy2.below b3
  clear B2 b3 Sx2 Sy2 h2
  have hT := edits_triangle xs ys zs
  have hE1 := fun w p q => implEditCount ax ay cx cy xs ys w p q (by omega) (by omega)
  have hE2 := fun w p q => implEditCount ay az cy cz ys zs w p q (by omega) (by omega)
  have hE3 := fun w p q => implEditCount ax az cx cz xs zs w p q (by omega) (by omega)
  have hE4 := fun w p q => implEditCount ay ax cy cx ys xs w p q (by omega) (by omega)
  have hS1 := fun w p q => specEditCount ax ay cx cy xs ys w p q (by omega) (by omega) (by omega) (by omega)
  have hS2 := fun w p q => specEditCount ay az cy cz ys zs w p q (by omega) (by omega) (by omega) (by omega)
  have hL := fun w p q => Same.implSameLines ax ay cx cy xs ys w p q (by omega) (by omega)
  have d1 := edV_bd lx ly
  have d2 := edV_bd ly lz
  have a1 := fun e => asked_zero (xs := xs) (ys := ys) e
  have a2 := fun e => asked_zero (xs := ys) (ys := zs) e
  have hGood : asked xs ys = 0 → asked ys zs = 0 → Hid (asked xs zs = 0 ∧ edV xs zs ≤ edV xs ys + edV ys zs ∧ asked ys xs = 0 ∧ edV ys xs = edV xs ys ∧ eqB xs ys = decide (edV xs ys = 0)) := fun e1 e2 => by
    obtain ⟨f1, f2⟩ := a1 e1
    obtain ⟨_, f3⟩ := a2 e2
    have e3 : asked xs zs = 0 := by rw [asked_right f1]; exact f3
    have e4 : asked ys xs = 0 := by rw [asked_right f2]; exact f1
    refine ⟨e3, ?_, e4, ?_, ?_⟩
    · rw [edV_ok e1, edV_ok e2, edV_ok e3]; exact hT
    · rw [edV_ok e1, edV_ok e4]; exact edits_symm ys xs
    · unfold eqB
      rw [edV_ok e1, decide_eq_decide]
      exact (edits_zero xs ys).symm
  obtain ⟨K1, hK1⟩ : ∃ K, asked xs ys = K := ⟨_, rfl⟩
  obtain ⟨V1, hV1⟩ : ∃ K, edV xs ys = K := ⟨_, rfl⟩
  obtain ⟨K2, hK2⟩ : ∃ K, asked ys zs = K := ⟨_, rfl⟩
  obtain ⟨V2, hV2⟩ : ∃ K, edV ys zs = K := ⟨_, rfl⟩
  obtain ⟨K3, hK3⟩ : ∃ K, asked xs zs = K := ⟨_, rfl⟩
  obtain ⟨V3, hV3⟩ : ∃ K, edV xs zs = K := ⟨_, rfl⟩
  obtain ⟨K4, hK4⟩ : ∃ K, asked ys xs = K := ⟨_, rfl⟩
  obtain ⟨V4, hV4⟩ : ∃ K, edV ys xs = K := ⟨_, rfl⟩
  obtain ⟨EB, hEB⟩ : ∃ K, eqB xs ys = K := ⟨_, rfl⟩
  rw [hK1, hV1] at hE1 hS1
  rw [hK2, hV2] at hE2 hS2
  rw [hK3, hV3] at hE3
  rw [hK4, hV4] at hE4
  rw [hEB] at hL
  rw [hK1, hK2, hK3, hV3, hV1, hV2, hK4, hV4, hEB] at hGood
  rw [hV1] at d1
  rw [hV2] at d2
  clear hK1 hV1 hK2 hV2 hK3 hV3 hK4 hV4 hEB hT a1 a2
  go_wp2_with fail
  refine (hE1 _ Sx3 Sy3).mono ?_; rintro e w4 ⟨rfl, b4⟩
  obtain ⟨W4, hW4⟩ : ∃ W, w4.alloc (.cells #[.int .i64 K1, .int .i64 V1] 43) = W := ⟨_, rfl⟩
  have R1 : Rs W4 w4.heap.size [.int .i64 K1, .int .i64 V1] := by rw [← hW4]; exact Rs.new _ _ _
  have c4 : Below w3.heap.size w3 W4 := by rw [← hW4]; exact b4.alloc b4.size _
  have z4 : w4.heap.size < W4.heap.size := by rw [← hW4]; simp
  have B4 := B3.trans (c4.mono B3.size)
  have Sx4 := Sx3.below c4
  have Sy4 := Sy3.below c4
  have Sz4 := Sz.below c4
  clear hE1 b4 B3 c4 Sx3 Sy3 Sz
  go_wp2_with fail
  refine (hE2 _ Sy4 Sz4).mono ?_; rintro e w5 ⟨rfl, b5⟩
  obtain ⟨p1, hp1⟩ : ∃ p, w4.heap.size = p := ⟨_, rfl⟩
  rw [hp1] at R1 z4 ⊢
  obtain ⟨W5, hW5⟩ : ∃ W, w5.alloc (.cells #[.int .i64 K2, .int .i64 V2] 43) = W := ⟨_, rfl⟩
  have R2 : Rs W5 w5.heap.size [.int .i64 K2, .int .i64 V2] := by rw [← hW5]; exact Rs.new _ _ _
  have c5 : Below W4.heap.size W4 W5 := by rw [← hW5]; exact b5.alloc b5.size _
  have z5 : w5.heap.size < W5.heap.size := by rw [← hW5]; simp
  replace R1 : Rs W5 p1 _ := fun k v hk => zc c5 (R1 k v hk)
  have B5 := B4.trans (c5.mono B4.size)
  have Sx5 := Sx4.below c5
  have Sy5 := Sy4.below c5
  have Sz5 := Sz4.below c5
  clear hE2 b5 B4 c5 Sx4 Sy4 Sz4 hW4 hp1
  go_wp2_with fail
  refine (hE3 _ Sx5 Sz5).mono ?_; rintro e w6 ⟨rfl, b6⟩
  obtain ⟨p2, hp2⟩ : ∃ p, w5.heap.size = p := ⟨_, rfl⟩
  rw [hp2] at R2 z5 ⊢
  obtain ⟨W6, hW6⟩ : ∃ W, w6.alloc (.cells #[.int .i64 K3, .int .i64 V3] 43) = W := ⟨_, rfl⟩
  have R3 : Rs W6 w6.heap.size [.int .i64 K3, .int .i64 V3] := by rw [← hW6]; exact Rs.new _ _ _
  have c6 : Below W5.heap.size W5 W6 := by rw [← hW6]; exact b6.alloc b6.size _
  replace R1 : Rs W6 p1 _ := fun k v hk => zc c6 (R1 k v hk)
  replace R2 : Rs W6 p2 _ := fun k v hk => zc c6 (R2 k v hk)
  have B6 := B5.trans (c6.mono B5.size)
  have Sx6 := Sx5.below c6
  have Sy6 := Sy5.below c6
  have Sz6 := Sz5.below c6
  clear hE3 b6 B5 c6 Sx5 Sy5 Sz5 hW5 hp2
  have r10 := R1 0 _ rfl
  have r11 := R1 1 _ rfl
  have r20 := R2 0 _ rfl
  have r21 := R2 1 _ rfl
  have r30 := R3 0 _ rfl
  have r31 := R3 1 _ rfl
  obtain ⟨p3, hp3⟩ : ∃ p, w6.heap.size = p := ⟨_, rfl⟩
  rw [hp3] at r30 r31 R3
  by_cases e1 : K1 = 0
  · by_cases e2 : K2 = 0
    · have hG := hGood e1 e2
      clear hGood hS1 hS2
      subst e1 e2
      obtain ⟨g1, g2, g3, g4, g5⟩ := hG.out
      have g4' := g4.symm
      clear g4
      subst g1 g3 g4'
      go_upto_region 10 with fail
      have hw : IntKind.i64.wrap (V1 + V2) = V1 + V2 := by rw [IntKind.wrap_i64]; omega
      go_cut [2] from 57 to 86 (fun s wx => s = .bool true ∧ Below W6.heap.size W6 wx)
      case first =>
        have BD : Below W6.heap.size W6 W6.drew := (Below.refl _ _).drew
        have SxD := Sx6.below BD
        have SyD := Sy6.below BD
        by_cases hv : V1 = 0
        · subst hv
          have g6 : EB = true := by rw [g5]; rfl
          clear g5
          subst g6
          have hw2 : IntKind.i64.wrap V2 = V2 := by rw [IntKind.wrap_i64]; omega
          have g7 : V3 ≤ V2 := by omega
          have e0 : ((0 : Int) == 0) = true := by decide
          clear hw g2 hG d1 d2
          clear hnil hm hbig lx ly tx ty lz tz R1 R2 R3 hW6 B6 Sx6 Sy6 Sz6 r20 z4 z5 hp3
          go_region_held (fun w' => w'.cell? ⟨p1, 0, none⟩ = some (.int .i64 0) ∧ w'.cell? ⟨p1, 1, none⟩ = some (.int .i64 0) ∧ w'.cell? ⟨p2, 1, none⟩ = some (.int .i64 V2) ∧ w'.cell? ⟨p3, 0, none⟩ = some (.int .i64 0) ∧ w'.cell? ⟨p3, 1, none⟩ = some (.int .i64 V3)) (first | with_reducible exact ⟨t10, t11, t21, t30, t31⟩ | with_reducible exact ⟨r10, r11, r21, r30, r31⟩ | exact ⟨t10, t11, t21, t30, t31⟩ | exact ⟨r10, r11, r21, r30, r31⟩)
            (first | (go_at_call 23; refine (hE4 _ SyD SxD).mono ?_; rintro e wt ⟨rfl, bt⟩; have t10 := zc bt r10; have t11 := zc bt r11; have t21 := zc bt r21; have t30 := zc bt r30; have t31 := zc bt r31; have Sxt := SxD.below bt; have Syt := SyD.below bt) | (go_at_call 16; refine (hL _ Sxt Syt).mono ?_; rintro e wu ⟨rfl, nu, rfl⟩))
          all_goals (go_wp2_with fail; go_meet; exact ⟨rfl, below_drewN' (BD.trans bt) nu⟩)
        · have g6 : EB = false := by rw [g5]; exact decide_eq_false hv
          clear g5
          subst g6
          have e0 : ((0 : Int) == 0) = true := by decide
          have e1' : (V1 == 0) = false := by simp [hv]
          have e2' : (V1 == V1) = true := by simp
          clear hG d1 d2 hv
          clear hnil hm hbig lx ly tx ty lz tz R1 R2 R3 hW6 B6 Sx6 Sy6 Sz6 r20 z4 z5 hp3
          go_region_held (fun w' => w'.cell? ⟨p1, 0, none⟩ = some (.int .i64 0) ∧ w'.cell? ⟨p1, 1, none⟩ = some (.int .i64 V1) ∧ w'.cell? ⟨p2, 1, none⟩ = some (.int .i64 V2) ∧ w'.cell? ⟨p3, 0, none⟩ = some (.int .i64 0) ∧ w'.cell? ⟨p3, 1, none⟩ = some (.int .i64 V3)) (first | with_reducible exact ⟨t10, t11, t21, t30, t31⟩ | with_reducible exact ⟨r10, r11, r21, r30, r31⟩ | exact ⟨t10, t11, t21, t30, t31⟩ | exact ⟨r10, r11, r21, r30, r31⟩)
            (first | (go_at_call 23; refine (hE4 _ SyD SxD).mono ?_; rintro e wt ⟨rfl, bt⟩; have t10 := zc bt r10; have t11 := zc bt r11; have t21 := zc bt r21; have t30 := zc bt r30; have t31 := zc bt r31; have Sxt := SxD.below bt; have Syt := SyD.below bt) | (go_at_call 16; refine (hL _ Sxt Syt).mono ?_; rintro e wu ⟨rfl, nu, rfl⟩))
          all_goals (go_wp2_with fail; go_meet; exact ⟨rfl, below_drewN' (BD.trans bt) nu⟩)
      case rest =>
      obtain ⟨rfl, b⟩ := hcut
      have BE := B6.trans (b.mono B6.size)
      clear b
      go_wp2_with fail
      go_ret
      exact ⟨rfl, BE⟩
    · have q1 : ((0 : Int) != 0) = false := by decide
      subst e1
      have q2 : (K2 != 0) = true := by simp [e2]
      clear hGood hL hE4
      go_upto_region 9 with fail
      go_cut [2] from 41 to 57 (fun s wx => s = .bool true ∧ Below W6.heap.size W6 wx)
      case first =>
        have BD : Below W6.heap.size W6 W6.drew := (Below.refl _ _).drew
        have SxD := Sx6.below BD
        have SyD := Sy6.below BD
        have SzD := Sz6.below BD
        have kk1 : ((0 : Int) == 0) = true := by decide
        have kk2 : (K2 == K2) = true := by simp
        have fl1 : ∀ w, (Instr.field 43 (.agg #[.int .i64 0, .int .i64 V1]) 0).run Try.prog w = .ok (.int .i64 0) w := fun w => by kernel_rfl
        have fl2 : ∀ w, (Instr.field 43 (.agg #[.int .i64 K2, .int .i64 V2]) 0).run Try.prog w = .ok (.int .i64 K2) w := fun w => by kernel_rfl
        go_region_with (first | (go_at_call_of 30 (Value.slice ax xs.length cx); refine (hS1 _ SxD SyD).mono ?_; rintro e wt ⟨rfl, bt⟩; have t10 := zc bt r10; have t20 := zc bt r20; have Syt := SyD.below bt; have Szt := SzD.below bt) | (go_at_call_of 30 (Value.slice az zs.length cz); refine (hS2 _ Syt Szt).mono ?_; rintro e wu ⟨rfl, bu⟩; have u20 := zc bu t20))
        all_goals (go_wp2_with fail; go_meet; exact ⟨rfl, below_step (BD.trans bt) (by have := bt.size; exact this) bu⟩)
      case rest =>
      obtain ⟨rfl, b⟩ := hcut
      have BE := B6.trans (b.mono B6.size)
      clear b
      go_wp2_with fail
      go_ret
      exact ⟨rfl, BE⟩
  · have q1 : (K1 != 0) = true := by simp [e1]
    clear hGood hL hE4
    go_upto_region 9 with fail
    go_cut [2] from 41 to 57 (fun s wx => s = .bool true ∧ Below W6.heap.size W6 wx)
    case first =>
      have BD : Below W6.heap.size W6 W6.drew := (Below.refl _ _).drew
      have SxD := Sx6.below BD
      have SyD := Sy6.below BD
      have SzD := Sz6.below BD
      have kk1 : (K1 == K1) = true := by simp
      have kk2 : (K2 == K2) = true := by simp
      have fl1 : ∀ w, (Instr.field 43 (.agg #[.int .i64 K1, .int .i64 V1]) 0).run Try.prog w = .ok (.int .i64 K1) w := fun w => by kernel_rfl
      have fl2 : ∀ w, (Instr.field 43 (.agg #[.int .i64 K2, .int .i64 V2]) 0).run Try.prog w = .ok (.int .i64 K2) w := fun w => by kernel_rfl
      go_region_with (first | (go_at_call_of 30 (Value.slice ax xs.length cx); refine (hS1 _ SxD SyD).mono ?_; rintro e wt ⟨rfl, bt⟩; have t10 := zc bt r10; have t20 := zc bt r20; have Syt := SyD.below bt; have Szt := SzD.below bt) | (go_at_call_of 30 (Value.slice az zs.length cz); refine (hS2 _ Syt Szt).mono ?_; rintro e wu ⟨rfl, bu⟩; have u20 := zc bu t20))
      all_goals (go_wp2_with fail; go_meet; exact ⟨rfl, below_step (BD.trans bt) (by have := bt.size; exact this) bu⟩)
    case rest =>
    obtain ⟨rfl, b⟩ := hcut
    have BE := B6.trans (b.mono B6.size)
    clear b
    go_wp2_with fail
    go_ret
    exact ⟨rfl, BE⟩

set_option linter.unusedVariables false
theorem laidOut : laidOutB Try.prog = true := by kernel_rfl
theorem own : ownKnob Try.prog.godebug = none := by kernel_rfl
set_option maxRecDepth 100000 in
theorem lifted (os : Os) (started : os.Started) (H : Type) (enc : TypeId × Value → H) :
    ReturnsInHanded {} Try.checked os 6 .any (Rows.fnEditsSpec.pre6 enc Try.prog Try.f6 Rows.fnEditsRow.domain false) (Rows.fnEditsSpec.post enc Try.prog Try.f6 false true false false) := by
  refine returnsInHanded_of_change (C := Try.checked) own started (by kernel_rfl) Try.func6
    (ChangeSpec.witness6 (enc := enc) (C := Try.checked) false ⟨#[], #[.slice none 0 0], []⟩ 8 (by kernel_rfl) (by kernel_rfl) (by kernel_rfl) (by kernel_rfl)) ?_
  intro W base args ds gs before hval0 hW hcnd _
  have hval : ∀ (j : Nat) t v, Try.f6.params[j]? = some t → args[j]? = some v → Value.okWide Try.prog W .any base t v := hval0
  have hW' := hW
  obtain ⟨p, q, hA0, hV, rfl, hfz, hnd⟩ := hW
  have hA : DataW.TrodAll enc Try.prog W 0 (fun _ => true) true Try.f6.params.toList args.toList ds p := hA0
  rw [Try.params6] at hA hval
  obtain ⟨v0, vs0, d0, ds0, p0, q0, hargs, rfl, rfl, h0, r0⟩ := trodAll_cons hA
  obtain ⟨rfl, rfl, rfl⟩ := trodAll_nil r0
  obtain rfl : args = #[v0] := by cases args; simp_all
  obtain ⟨rfl, rfl⟩ := trodVars_none hV
  obtain ⟨a0, len0, cap0, rfl⟩ := okWide_slice Try.underlying22 (hval 0 22 v0 rfl rfl)
  have k0 := h0
  have lt0 : ∀ x ∈ p0, x.block < W.heap.size := by obtain ⟨m, hm⟩ := k0; exact DataW.trod_lt m _ _ _ hm
  obtain ⟨w0, m0, n0⟩ := openBtsN h0 lt0
  clear hA0 hval0
  refine (walk a0 len0 cap0 W w0 m0 n0).mono fun e W' ⟨he, bel⟩ => ?_
  subst he
  exact ⟨_, rfl, _, _, _, [], _, [], hW', trodAll_mk1 (shut_bool Try.underlying4 _), (trodAll_cons_mk (Below.trod laidOut (by kernel_rfl) (of_decide_eq_true (by kernel_rfl)) k0 bel lt0) trodAll_mk0), rfl, bel.frame _, fun h => by cases h⟩

theorem over : Rows.fnEditsRow.holds Try.pinned (OpenSpec.ofChange Rows.fnEditsSpec) :=
  OpenClaim.holds_of_wide 6 Try.f6 rfl rfl rfl rfl rfl rfl rfl ⟨rfl, rfl, rfl, rfl, rfl⟩ rfl rfl rfl rfl rfl (by kernel_rfl) Try.func6 (by kernel_rfl)
    (of_decide_eq_true (by kernel_rfl)) (by unfold Func.isWrapper; first | (rw [if_pos (by decide +kernel)]; kernel_rfl) | (rw [if_neg (by decide +kernel)]; exact ⟨rfl, rfl⟩))
    (fun os started H enc _ => lifted os started H enc)

theorem proved : Rows.FnEditsSaid := over
end Go.Proofs.Ytbmokagmpdgidaa.EdF
namespace Go.Proofs.Ytbmokagmpdgidaa
theorem fnEdits_proved : Rows.FnEditsSaid := EdF.proved
end Go.Proofs.Ytbmokagmpdgidaa
