/- Proved: at every code of bytes FnWeaves returns true (changes that are told make the other lines, have no fault, are as many edits as are counted, and are none just where the lines are the same), and the code reads as before. No condition: FnWeavesSaid itself. -/
import Derived.Test.YtbmokagmpdgidaaRows
import Derived.Test.YtbmokagmpdgidaaLem
import Derived.Test.YtbmokagmpdgidaaStrs
import Derived.Test.YtbmokagmpdgidaaLFLem
import Derived.Test.YtbmokagmpdgidaaLF
import Derived.Test.YtbmokagmpdgidaaCom
import Derived.Test.YtbmokagmpdgidaaAsked
import Derived.Test.YtbmokagmpdgidaaDTab
import Derived.Test.YtbmokagmpdgidaaOwn
import Derived.Test.YtbmokagmpdgidaaFr
import Derived.Test.YtbmokagmpdgidaaChg
import Derived.Test.YtbmokagmpdgidaaCoC
import Derived.Test.YtbmokagmpdgidaaEdC
import Derived.Test.YtbmokagmpdgidaaChR
import Derived.Test.YtbmokagmpdgidaaCFC
import Derived.Test.YtbmokagmpdgidaaCFI
import Derived.Test.YtbmokagmpdgidaaWvL
import Derived.Test.YtbmokagmpdgidaaWvI
import Derived.Test.YtbmokagmpdgidaaWvF
import Derived.Test.YtbmokagmpdgidaaSameC
import Derived.Test.YtbmokagmpdgidaaTri
import Derived.Test.YtbmokagmpdgidaaWvM
import Derived.Test.YtbmokagmpdgidaaDraw
import Derived.Test.YtbmokagmpdgidaaDraw9
import Derived.WalkKit
import Derived.ProofKit
import Derived.OpenShut
import Derived.Below
import Derived.Carry
import Derived.Deep.QuietTactic
import Derived.BigQuiet
import Derived.Deep.RegionWith
import Derived.Deep.CutRange
import Derived.Deep.RegionHeld
namespace Go.Proofs.Ytbmokagmpdgidaa.WfF
open Go.ChangeShapes Go.WideShapes Go.ChangeAt Go.RowKit

theorem lwBig (a : Option Addr) (n cap : Nat) (w : World) : Calls Try.prog 8 #[.slice a n cap] w fun e w' => e = .returned (.bool (decide ((1048576 : Int) < (n : Int)))) ∧ w' = w := by
  go_enter Try.func8, Try.ntmps8
  go_wp2
  go_ret
  exact ⟨rfl, rfl⟩
theorem zc {w w' : World} {b o : Nat} {v : Value} (h : Below w.heap.size w w') (hc : w.cell? ⟨b, o, none⟩ = some v) : w'.cell? ⟨b, o, none⟩ = some v := (Fr.ofBelow (lo := 0) (hi := 0) h).cell hc (.inr (Nat.zero_le _))

theorem cbMono {B B' : Nat} {w : World} {a : Option Addr} {l : List Chg} (h : CB B w a l) (hb : B ≤ B') : CB B' w a l := fun k hk => by
  obtain ⟨g, off, e, hg, d⟩ := h k hk
  exact ⟨g, off, e, by omega, d⟩
set_option maxRecDepth 20000 in
set_option maxHeartbeats 4000000 in
theorem walk (a : Option Addr) (n cap : Nat) (w : World) (h : Bts w a n) (_hm : n ≤ 9223372036854775807) :
    Calls Try.prog 5 #[.slice a n cap] w fun e w' => e = .returned (.bool true) ∧ Below w.heap.size w w' := by
  by_cases hbig : (1048576 : Int) < (n : Int)
  · go_enter Try.func5, Try.ntmps5
    go_wp2_with (go_at_call 8; refine (lwBig _ _ _ _).mono ?_; rintro e w' ⟨rfl, rfl⟩)
    go_ret
    exact ⟨rfl, Below.refl _ _⟩
  go_enter Try.func5, Try.ntmps5
  go_wp2_with fail
  refine (lwBig _ _ _ _).mono ?_; rintro e w ⟨rfl, rfl⟩
  go_wp2_with fail
  refine (drawChangesOf a n cap _ h (by omega)).mono ?_; rintro e w1 ⟨ax, cx, xs, ay, cy, ys, rfl, Sx, Sy, lx, ly, tx, ty, kx, ky, b1⟩
  clear h
  have hM := fun w p q => implChangesOf ax ay cx cy xs ys w p q (by omega) (by omega)
  have hS := fun w p q => specChangesOf ax ay cx cy xs ys w p q (by omega) (by omega) (by omega) (by omega)
  have hE := fun w p q => implEditCount ax ay cx cy xs ys w p q (by omega) (by omega)
  have hL := fun w p q => Same.implSameLines ax ay cx cy xs ys w p q (by omega) (by omega)
  have hL2 := fun (va : Option Addr) (vc : Nat) w p q => Same.implSameLines va ay vc cy ys ys w p q (by omega) (by omega)
  rw [eqB_self] at hL2
  go_wp2_with fail
  refine (hM _ Sx Sy).mono ?_; rintro e w2 ⟨v1, rfl, hP, b2⟩
  obtain ⟨va, ca, ea, hC2⟩ := CB.of hP
  subst ea
  obtain ⟨W3, hW3⟩ : ∃ W, w2.alloc (.cells #[.int .i64 (asked xs ys), .slice va (chL xs ys).length ca] 47) = W := ⟨_, rfl⟩
  have R : Rs W3 w2.heap.size [.int .i64 (asked xs ys), .slice va (chL xs ys).length ca] := by rw [← hW3]; exact Rs.new _ _ _
  have c3 : Below w1.heap.size w1 W3 := by rw [← hW3]; exact b2.alloc b2.size _
  have d3 : Below w2.heap.size w2 W3 := by rw [← hW3]; exact allocBelow _ _
  have C3 := hC2.below d3
  have z3 : w2.heap.size < W3.heap.size := by rw [← hW3]; simp
  have Sx3 := Sx.below c3
  have Sy3 := Sy.below c3
  have B3 := b1.trans (c3.mono b1.size)
  clear hM hP b2 b1 Sx Sy c3 d3 hC2
  by_cases h0 : asked xs ys = 0
  · obtain ⟨f1, f2⟩ := asked_zero h0
    have hl1 := (lf_zero f1).1
    have hl2 := (lf_zero f2).1
    have hsm := changes_small xs ys hl1 hl2
    have hcf := changes_cf xs ys
    have hRg : Rng (changes xs ys) := fun k hk => by
      have := end_bd (cf_each hcf k hk).1
      omega
    have hcfa : cfa xs ys (changes xs ys) = 0 := by rw [cfa_ok h0]; exact hcf
    have hwv := weave_changes xs ys
    have hcode : wvCode xs ys (changes xs ys) = 0 := by unfold wvCode; rw [if_pos hcfa, hwv]; exact f2
    have hlines : wvLines xs ys (changes xs ys) = ys := by unfold wvLines; rw [if_pos ⟨hcfa, by rw [hwv]; exact f2⟩, hwv]
    have e4 : chL xs ys = changes xs ys := if_pos h0
    have hln : (changes xs ys).length ≤ 101 := by
      have h1 : (changes xs ys).length ≤ (ends xs ys).length := chg_length _ _ _
      have h2 : (ends xs ys).length = com xs ys + 1 := by unfold ends; rw [List.length_append, mat_length xs ys _ 0 0 (Nat.le_refl _), comAt_zero]; rfl
      have h3 := (com_le_length _ xs ys (Nat.le_refl _)).1
      omega
    have hnone := changes_none xs ys
    have k4 : edV xs ys = edits (changes xs ys) := edV_ok h0
    have hEq : eqB xs ys = decide ((changes xs ys).length = 0) := by unfold eqB; rw [decide_eq_decide]; exact hnone.symm
    have hF := fun (va : Option Addr) (ca : Nat) w p q r => implChangesFault (B := w.heap.size) ax ay va cx cy ca xs ys (changes xs ys) w p q r hRg (by omega) (by omega) (by omega)
    have hV := fun (va : Option Addr) (ca : Nat) w p q r => implWeaveChanges ax ay va cx cy ca xs ys (changes xs ys) w p q r hRg kx ky (by omega) (by omega) (by omega) (by omega) (by omega)
    rw [h0, k4] at hE
    rw [hEq] at hL
    rw [hcfa] at hF
    rw [hcode, hlines] at hV
    rw [h0, e4] at R hW3 ⊢
    rw [e4] at C3
    have zY := Sy3.1
    obtain ⟨L, hLe⟩ : ∃ L, changes xs ys = L := ⟨_, rfl⟩
    rw [hLe] at hE hL hF hV R hW3 C3 hsm hln ⊢
    clear hS f1 f2 hl1 hl2 hcf hRg hcfa hwv hcode hlines e4 hnone k4 hEq hLe h0
    obtain ⟨p, hp⟩ : ∃ p, w2.heap.size = p := ⟨_, rfl⟩
    have r0 := R 0 _ rfl
    have r1 := R 1 _ rfl
    rw [hp] at r0 r1 z3 C3
    have HC3 : Hid (CB p W3 va L) := C3
    clear R
    go_wp2
    clear hp hW3
    go_loopw [6, 7] (fun cnt vk wr => ∃ k : Nat, k ≤ L.length ∧ vk = .int .i64 (k : Int) ∧ cnt = .int .i64 (edits (L.take k)) ∧ ∃ nq, wr = W3.drewN nq) (fun _ vk _ => L.length - (intOf vk).toNat)
    case atStart => exact ⟨0, Nat.zero_le _, rfl, rfl, 0, rfl⟩
    case round =>
      obtain ⟨k, hk, rfl, rfl, nr, hwr⟩ := hrel
      have rr1 : wr.cell? ⟨p, 1, none⟩ = some (.slice va L.length ca) := by rw [hwr]; exact r1
      by_cases hlt : k < L.length
      · have q : (k : Int) < (L.length : Int) := by omega
        have HW : Hid (wr = W3.drewN nr) := hwr
        obtain ⟨g, off, e, hg, d0, d1, d2, d3⟩ := C3 k hlt
        subst e
        have hcs : SmallC (L.getD k (0, 0, 0, 0)) := by
          have e : L.getD k (0, 0, 0, 0) = L[k] := by simp [List.getD, hlt]
          rw [e]; exact hsm _ (List.getElem_mem hlt)
        have hbd := edits_bd (L.take k) (fun c hc => hsm c (List.mem_of_mem_take hc))
        have htk : (L.take k).length ≤ 101 := by simp; omega
        have HE : Hid (edits (L.take (k + 1)) = edits (L.take k) + ((L.getD k (0, 0, 0, 0)).2.1 + (L.getD k (0, 0, 0, 0)).2.2.2)) := edits_take L k hlt
        have d1' : wr.cell? ⟨g, off + k * 4 + 1, none⟩ = some (.int .i64 (L.getD k (0, 0, 0, 0)).2.1) := by rw [hwr]; exact d1
        have d3' : wr.cell? ⟨g, off + k * 4 + 3, none⟩ = some (.int .i64 (L.getD k (0, 0, 0, 0)).2.2.2) := by rw [hwr]; exact d3
        obtain ⟨C, hCe⟩ : ∃ C, L.getD k (0, 0, 0, 0) = C := ⟨_, rfl⟩
        obtain ⟨x0, x1, x2, x3⟩ := C
        rw [hCe] at d1' d3' hcs HE
        simp only [] at d1' d3' HE
        obtain ⟨S, hSe⟩ : ∃ S, edits (L.take k) = S := ⟨_, rfl⟩
        rw [hSe] at hbd HE ⊢
        obtain ⟨_, ⟨e1, e2⟩, _, ⟨e3, e4⟩⟩ := hcs
        simp only [] at e1 e2 e3 e4
        have hw1 : IntKind.i64.wrap (S + x1) = S + x1 := by rw [IntKind.wrap_i64]; omega
        have hw2 : IntKind.i64.wrap (S + x1 + x3) = S + x1 + x3 := by rw [IntKind.wrap_i64]; omega
        clear hbd htk hCe hSe d0 d1 d2 d3 hwr C3 HC3 Sx3 Sy3 B3 r0 r1 hE hL hL2 hF hV
        go_wp2
        go_quiet (fail)
        go_wp2
        go_roundw
        case rel => exact ⟨k + 1, by omega, by go_num, by rw [HE.out, Int.add_assoc], nr + nq, by rw [HW.out, World.drewN_drewN]⟩
        case measure => first | (simp [intOf]; omega) | simp [intOf]
      · have q : ¬ (k : Int) < (L.length : Int) := by omega
        have e : L.take k = L := List.take_of_length_le (by omega)
        rw [e]
        have Sx4 : SS wr ax xs := by rw [hwr]; exact Sx3.drewN nr
        have Sy4 : SS wr ay ys := by rw [hwr]; exact Sy3.drewN nr
        have C4 : CB p wr va L := by rw [hwr]; exact HC3.out
        have B4 : Below w.heap.size w wr := by rw [hwr]; exact below_drewN' B3 nr
        have z4 : p < wr.heap.size := by rw [hwr]; exact z3
        clear e hwr r0 r1 C3 HC3 Sx3 Sy3 B3 z3
        go_wp2_with fail
        refine (hV va ca _ Sx4 Sy4 (cbMono C4 (by omega))).mono ?_; rintro e w5 ⟨v5, rfl, o5, b5⟩
        obtain ⟨wa, wc', ew⟩ := shapeS o5
        subst ew
        have Sw := ownSS o5 zY
        obtain ⟨W6, hW6⟩ : ∃ W, w5.alloc (.cells #[.int .i64 0, .slice wa ys.length wc'] 27) = W := ⟨_, rfl⟩
        have R6 : Rs W6 w5.heap.size [.int .i64 0, .slice wa ys.length wc'] := by rw [← hW6]; exact Rs.new _ _ _
        have c6 : Below wr.heap.size wr W6 := by rw [← hW6]; exact b5.alloc b5.size _
        have d6 : Below w5.heap.size w5 W6 := by rw [← hW6]; exact allocBelow _ _
        have Sw6 := Sw.below d6
        have Sx6 := Sx4.below c6
        have Sy6 := Sy4.below c6
        have C6 := C4.below c6
        have B6 := B4.trans (c6.mono B4.size)
        have r1 := zc c6 rr1
        have z6 : p < W6.heap.size := Nat.lt_of_lt_of_le z4 c6.size
        obtain ⟨p2, hp2⟩ : ∃ q, w5.heap.size = q := ⟨_, rfl⟩
        have s0 := R6 0 _ rfl
        have s1 := R6 1 _ rfl
        rw [hp2] at s0 s1
        obtain ⟨V, hVe⟩ : ∃ V, edits L = V := ⟨_, rfl⟩
        rw [hVe] at hE ⊢
        obtain ⟨BZ, hBZ⟩ : ∃ b, decide (L.length = 0) = b := ⟨_, rfl⟩
        rw [hBZ] at hL
        have ez : ((L.length : Int) == 0) = BZ := by
          rw [← hBZ]
          by_cases e : L.length = 0
          · rw [e]; rfl
          · rw [decide_eq_false e]; exact beq_eq_false_iff_ne.2 (by omega)
        have bz : (BZ == BZ) = true := by simp
        have vz : (V == V) = true := by simp
        have z0 : ((0 : Int) == 0) = true := by decide
        have fl : ∀ w, (Instr.field 43 (.agg #[.int .i64 0, .int .i64 V]) 1).run Try.prog w = .ok (.int .i64 V) w := fun w => by kernel_rfl
        clear hV b5 o5 Sw c6 d6 Sx4 Sy4 C4 B4 rr1 z4 R6 hVe hBZ hsm hln
        go_upto_region 13 with fail
        go_cut [2] from 56 to 91 (fun s wx => s = .bool true ∧ Below W6.heap.size W6 wx)
        case first =>
          have BD : Below W6.heap.size W6 W6.drew := (Below.refl _ _).drew
          have SxD := Sx6.below BD
          have SyD := Sy6.below BD
          have SwD := Sw6.below BD
          have CD : CB W6.drew.heap.size W6.drew va L := cbMono (C6.below BD) (Nat.le_of_lt z6)
          clear lx ly tx ty kx ky hbig Sx6 Sy6 Sw6 C6 B6 hW6 hp2 z6 zY q
          go_region_held (fun w' => w'.cell? ⟨p, 1, none⟩ = some (.slice va L.length ca) ∧ w'.cell? ⟨p2, 0, none⟩ = some (.int .i64 0) ∧ w'.cell? ⟨p2, 1, none⟩ = some (.slice wa ys.length wc')) (first | with_reducible exact ⟨r1c, s0c, s1c⟩ | with_reducible exact ⟨r1b, s0b, s1b⟩ | with_reducible exact ⟨r1a, s0a, s1a⟩ | with_reducible exact ⟨r1, s0, s1⟩ | exact ⟨r1c, s0c, s1c⟩ | exact ⟨r1a, s0a, s1a⟩ | exact ⟨r1, s0, s1⟩)
            (first | (go_at_call 16; have gd := Bt3; clear gd; refine (hL _ SxC SyC).mono ?_; rintro e wd ⟨rfl, nd, rfl⟩; have Bt4 := below_drewN' Bt3 nd) | (go_at_call 23; have gd := Bt2; clear gd; refine (hE _ SxB SyB).mono ?_; rintro e w3' ⟨rfl, b3'⟩; have r1c := zc b3' r1b; have s0c := zc b3' s0b; have s1c := zc b3' s1b; have SxC := SxB.below b3'; have SyC := SyB.below b3'; have Bt3 := below_step Bt2 Bt2.size b3') | (go_at_call 16; have gd := Bt1; clear gd; refine (hL2 _ _ _ SwA SyA).mono ?_; rintro e wb ⟨rfl, nb, rfl⟩; have r1b : (wA.drewN nb).cell? ⟨p, 1, none⟩ = some (.slice va L.length ca) := r1a; have s0b : (wA.drewN nb).cell? ⟨p2, 0, none⟩ = some (.int .i64 0) := s0a; have s1b : (wA.drewN nb).cell? ⟨p2, 1, none⟩ = some (.slice wa ys.length wc') := s1a; have SxB := SxA.drewN nb; have SyB := SyA.drewN nb; have Bt2 := below_drewN' Bt1 nb) | (go_at_call 28; refine (hF _ _ _ SxD SyD CD).mono ?_; rintro e wA ⟨rfl, ba⟩; have r1a := zc ba r1; have s0a := zc ba s0; have s1a := zc ba s1; have SxA := SxD.below ba; have SyA := SyD.below ba; have SwA := SwD.below ba; have Bt1 := below_step BD BD.size ba))
          all_goals (go_wp2_with fail; go_meet; exact ⟨rfl, Bt4⟩)
        case rest =>
        obtain ⟨rfl, b⟩ := hcut
        have BE := B6.trans (b.mono B6.size)
        clear b
        go_wp2_with fail
        go_ret
        exact ⟨rfl, BE⟩
  · have q0 : (asked xs ys != 0) = true := by simp [h0]
    obtain ⟨p, hp⟩ : ∃ p, w2.heap.size = p := ⟨_, rfl⟩
    have r0 := R 0 _ rfl
    rw [hp] at r0
    obtain ⟨K, hK⟩ : ∃ K, asked xs ys = K := ⟨_, rfl⟩
    have hS' : ∀ w, SS w ax xs → SS w ay ys → Calls Try.prog 26 #[.slice ax xs.length cx, .slice ay ys.length cy] w fun e w' => (∃ v1, e = .returned (.agg #[.int .i64 K, v1])) ∧ Below w.heap.size w w' := fun w p q => (hS w p q).mono fun e w' ⟨v1, he, _, hb⟩ => ⟨⟨v1, by rw [he, hK]⟩, hb⟩
    rw [hK] at q0 r0 hW3 ⊢
    have kk : (K == K) = true := by simp
    have fl : ∀ v1 w, (Instr.field 47 (.agg #[.int .i64 K, v1]) 0).run Try.prog w = .ok (.int .i64 K) w := fun v1 w => by kernel_rfl
    clear hS hE hL hL2 R C3 h0 hK
    go_upto_region 6 with fail
    go_cut [2] from 22 to 29 (fun s wx => s = .bool true ∧ Below W3.heap.size W3 wx)
    case first =>
      have BD : Below W3.heap.size W3 W3.drew := (Below.refl _ _).drew
      have SxD := Sx3.below BD
      have SyD := Sy3.below BD
      clear lx ly tx ty kx ky Sx3 Sy3 B3 hbig hW3 hp z3
      go_region_held (fun w' => w'.cell? ⟨p, 0, none⟩ = some (.int .i64 K)) (first | with_reducible exact r0a | exact r0)
        ((go_at_call 26; refine (hS' _ SxD SyD).mono ?_; rintro e wa ⟨⟨v1, rfl⟩, ba⟩; have r0a := zc ba r0; have Bt1 := below_step BD BD.size ba))
      all_goals (go_wp2_with fail; go_meet; exact ⟨rfl, Bt1⟩)
    case rest =>
    obtain ⟨rfl, b⟩ := hcut
    have BE := B3.trans (b.mono B3.size)
    clear b
    go_wp2_with fail
    go_ret
    exact ⟨rfl, BE⟩

set_option linter.unusedVariables false
theorem laidOut : laidOutB Try.prog = true := by kernel_rfl
theorem own : ownKnob Try.prog.godebug = none := by kernel_rfl
set_option maxRecDepth 100000 in
theorem lifted (os : Os) (started : os.Started) (H : Type) (enc : TypeId × Value → H) :
    ReturnsInHanded {} Try.checked os 5 .any (Rows.fnWeavesSpec.pre6 enc Try.prog Try.f5 Rows.fnWeavesRow.domain false) (Rows.fnWeavesSpec.post enc Try.prog Try.f5 false true false false) := by
  refine returnsInHanded_of_change (C := Try.checked) own started (by kernel_rfl) Try.func5
    (ChangeSpec.witness6 (enc := enc) (C := Try.checked) false ⟨#[], #[.slice none 0 0], []⟩ 8 (by kernel_rfl) (by kernel_rfl) (by kernel_rfl) (by kernel_rfl)) ?_
  intro W base args ds gs before hval0 hW hcnd _
  have hval : ∀ (j : Nat) t v, Try.f5.params[j]? = some t → args[j]? = some v → Value.okWide Try.prog W .any base t v := hval0
  have hW' := hW
  obtain ⟨p, q, hA0, hV, rfl, hfz, hnd⟩ := hW
  have hA : DataW.TrodAll enc Try.prog W 0 (fun _ => true) true Try.f5.params.toList args.toList ds p := hA0
  rw [Try.params5] at hA hval
  obtain ⟨v0, vs0, d0, ds0, p0, q0, hargs, rfl, rfl, h0, r0⟩ := trodAll_cons hA
  obtain ⟨rfl, rfl, rfl⟩ := trodAll_nil r0
  obtain rfl : args = #[v0] := by cases args; simp_all
  obtain ⟨rfl, rfl⟩ := trodVars_none hV
  obtain ⟨a0, len0, cap0, rfl⟩ := okWide_slice Try.underlying22 (hval 0 22 v0 rfl rfl)
  have k0 := h0
  have lt0 : ∀ x ∈ p0, x.block < W.heap.size := by obtain ⟨m, hm⟩ := k0; exact DataW.trod_lt m _ _ _ hm
  obtain ⟨w0, n0⟩ := openBts h0 lt0
  clear hA0 hval0
  refine (walk a0 len0 cap0 W w0 n0).mono fun e W' ⟨he, bel⟩ => ?_
  subst he
  exact ⟨_, rfl, _, _, _, [], _, [], hW', trodAll_mk1 (shut_bool Try.underlying4 _), (trodAll_cons_mk (Below.trod laidOut (by kernel_rfl) (of_decide_eq_true (by kernel_rfl)) k0 bel lt0) trodAll_mk0), rfl, bel.frame _, fun h => by cases h⟩

theorem over : Rows.fnWeavesRow.holds Try.pinned (OpenSpec.ofChange Rows.fnWeavesSpec) :=
  OpenClaim.holds_of_wide 5 Try.f5 rfl rfl rfl rfl rfl rfl rfl ⟨rfl, rfl, rfl, rfl, rfl⟩ rfl rfl rfl rfl rfl (by kernel_rfl) Try.func5 (by kernel_rfl)
    (of_decide_eq_true (by kernel_rfl)) (by unfold Func.isWrapper; first | (rw [if_pos (by decide +kernel)]; kernel_rfl) | (rw [if_neg (by decide +kernel)]; exact ⟨rfl, rfl⟩))
    (fun os started H enc _ => lifted os started H enc)

theorem proved : Rows.FnWeavesSaid := over
end Go.Proofs.Ytbmokagmpdgidaa.WfF
namespace Go.Proofs.Ytbmokagmpdgidaa
theorem fnWeaves_proved : Rows.FnWeavesSaid := WfF.proved
end Go.Proofs.Ytbmokagmpdgidaa
