/- Proved: at every CommitsResult FnExactIsClean returns true (IsClean answers as its specification and changes no argument). No condition: FnExactIsCleanSaid itself. -/
import Derived.Test.YticagabnaibmgaaRows
import Derived.Test.YticagabnaibmgaaLem
import Derived.Test.YticagabnaibmgaaStrs
import Derived.Test.YticagabnaibmgaaDTab
import Derived.Test.YticagabnaibmgaaOwn
import Derived.Test.YticagabnaibmgaaFr
import Derived.Test.YticagabnaibmgaaHkT
import Derived.Test.YticagabnaibmgaaObL
import Derived.Test.YticagabnaibmgaaEnL
import Derived.Test.YticagabnaibmgaaWkL
import Derived.Test.YticagabnaibmgaaCrC
import Derived.Test.YticagabnaibmgaaIcC
import Derived.WalkKit
import Derived.ProofKit
import Derived.OpenShut
import Derived.Below
import Derived.Carry
import Derived.WalkSpells
import Derived.Deep.CutRange
import Derived.Deep.RegionHeld
set_option linter.unusedVariables false
namespace Go.Proofs.Yticagabnaibmgaa.IcLaw
open Go.ChangeShapes Go.WideShapes Go.ChangeAt Go.RowKit
open Go.Proofs.Yticagabnaibmgaa.Cr

set_option maxRecDepth 20000 in
set_option maxHeartbeats 4000000 in
theorem walk (k0 k1 : Int) (a1 a2 a3 : Option Addr) (c1 c2 c3 : Nat) (l1 : List Ob) (l2 : List En.Ob) (l3 : List Wk.Ob) (w : World) (h : C3 w a1 a2 a3 l1 l2 l3) (hf : F3 l1 l2 l3) :
    Calls Try.prog 6 #[.agg #[.int .i64 k0, .int .i64 k1, .slice a1 l1.length c1, .slice a2 l2.length c2, .slice a3 l3.length c3]] w fun e w' => e = .returned (.bool true) ∧ Below w.heap.size w w' := by
  obtain ⟨W1, hW1⟩ : ∃ W, w.alloc (.cells #[.int .i64 k0, .int .i64 k1, .slice a1 l1.length c1, .slice a2 l2.length c2, .slice a3 l3.length c3] 52) = W := ⟨_, rfl⟩
  have b1 : Below w.heap.size w W1 := by rw [← hW1]; exact allocBelow _ _
  have r1 : Rs W1 w.heap.size [.int .i64 k0, .int .i64 k1, .slice a1 l1.length c1, .slice a2 l2.length c2, .slice a3 l3.length c3] := by rw [← hW1]; exact Rs.new _ _ _
  have H1 := h.below b1
  obtain ⟨p, hp⟩ : ∃ p, w.heap.size = p := ⟨_, rfl⟩
  rw [hp] at r1
  have x0 := r1 0 _ rfl
  have x1 := r1 1 _ rfl
  have x2 := r1 2 _ rfl
  have x3 := r1 3 _ rfl
  have x4 := r1 4 _ rfl
  clear r1 h
  go_enter Try.func6, Try.ntmps6
  go_wp2_with fail
  refine (szCommitsResult k0 k1 a1 a2 a3 c1 c2 c3 l1 l2 l3 _ H1 hf).mono ?_; rintro e w2 ⟨q, rfl, hq, hS, b2⟩
  have B2 := b1.trans (b2.mono b1.size)
  have H2 := H1.below b2
  replace x0 := zcr b2 x0
  replace x1 := zcr b2 x1
  replace x2 := zcr b2 x2
  replace x3 := zcr b2 x3
  replace x4 := zcr b2 x4
  clear b2 b1 H1 hW1 hp
  by_cases hneg : q < 0
  · go_wp2_with fail
    go_ret
    exact ⟨rfl, B2⟩
  have hs := hS (by omega)
  clear hS
  go_wp2_with fail
  refine (toCommitsResult k0 k1 a1 a2 a3 c1 c2 c3 l1 l2 l3 _ H2 hs).mono ?_; rintro e w3 ⟨d1, d2, d3, e1, e2, e3, rfl, G3, b3⟩
  have B3 := B2.trans (b3.mono B2.size)
  have H3 := H2.below b3
  replace x0 := zcr b3 x0
  replace x1 := zcr b3 x1
  replace x2 := zcr b3 x2
  replace x3 := zcr b3 x3
  replace x4 := zcr b3 x4
  clear b3 B2 H2
  go_wp2_with fail
  refine (specIsClean k0 k1 d1 d2 d3 l1.length l3.length e1 e2 e3 l2 _ G3.h2 hs.n2).mono ?_; rintro e w4 ⟨rfl, b4⟩
  have B4 := B3.trans (b4.mono B3.size)
  have H4 := H3.below b4
  replace x0 := zcr b4 x0
  replace x1 := zcr b4 x1
  replace x2 := zcr b4 x2
  replace x3 := zcr b4 x3
  replace x4 := zcr b4 x4
  clear b4 B3 H3 G3
  have hI := fun (a1 a2 a3 : Option Addr) (n1 n3 c1 c2 c3 : Nat) W h => implIsClean k0 k1 a1 a2 a3 n1 n3 c1 c2 c3 l2 W h hs.n2
  obtain ⟨Z, hZ⟩ : ∃ Z, icB k0 l2 = Z := ⟨_, rfl⟩
  simp only [hZ] at hI ⊢
  have nz : (Z != Z) = false := by cases Z <;> rfl
  clear hZ
  go_wp2_with fail
  refine (toCommitsResult k0 k1 a1 a2 a3 c1 c2 c3 l1 l2 l3 _ H4 hs).mono ?_; rintro e w5 ⟨f1, f2, f3, g1, g2, g3, rfl, G5, b5⟩
  have B5 := B4.trans (b5.mono B4.size)
  have H5 := H4.below b5
  replace x0 := zcr b5 x0
  replace x1 := zcr b5 x1
  replace x2 := zcr b5 x2
  replace x3 := zcr b5 x3
  replace x4 := zcr b5 x4
  clear b5 B4 H4
  obtain ⟨W6, hW6⟩ : ∃ W, w5.alloc (.cells #[.int .i64 k0, .int .i64 k1, .slice f1 l1.length g1, .slice f2 l2.length g2, .slice f3 l3.length g3] 59) = W := ⟨_, rfl⟩
  have b6 : Below w5.heap.size w5 W6 := by rw [← hW6]; exact allocBelow _ _
  have r6 : Rs W6 w5.heap.size [.int .i64 k0, .int .i64 k1, .slice f1 l1.length g1, .slice f2 l2.length g2, .slice f3 l3.length g3] := by rw [← hW6]; exact Rs.new _ _ _
  have B6 := B5.trans (b6.mono B5.size)
  have H6 := H5.below b6
  have G6 := G5.below b6
  replace x0 := zcr b6 x0
  replace x1 := zcr b6 x1
  replace x2 := zcr b6 x2
  replace x3 := zcr b6 x3
  replace x4 := zcr b6 x4
  obtain ⟨p2, hp2⟩ : ∃ p, w5.heap.size = p := ⟨_, rfl⟩
  rw [hp2] at r6
  have y0 := r6 0 _ rfl
  have y1 := r6 1 _ rfl
  have y2 := r6 2 _ rfl
  have y3 := r6 3 _ rfl
  have y4 := r6 4 _ rfl
  clear b6 r6 B5 H5 G5
  go_wp2_with fail
  refine (hI f1 f2 f3 l1.length l3.length g1 g2 g3 _ G6.h2).mono ?_; rintro e w7 ⟨rfl, b7⟩
  have B7 := B6.trans (b7.mono B6.size)
  have H7 := H6.below b7
  have G7 := G6.below b7
  replace x0 := zcr b7 x0
  replace x1 := zcr b7 x1
  replace x2 := zcr b7 x2
  replace x3 := zcr b7 x3
  replace x4 := zcr b7 x4
  replace y0 := zcr b7 y0
  replace y1 := zcr b7 y1
  replace y2 := zcr b7 y2
  replace y3 := zcr b7 y3
  replace y4 := zcr b7 y4
  clear b7 B6 H6 G6 hI hW6 hp2 hf hq hneg
  go_upto_region 10 with fail
  go_cut [26] from 22 to 27 (fun s wx => s = .bool false ∧ Below w7.heap.size w7 wx)
  case first =>
    have BD : Below w7.heap.size w7 w7.drew := (Below.refl _ _).drew
    have HD := H7.below BD
    have GD := G7.below BD
    clear B7 H7 G7
    go_region_held (fun u => u.cell? ⟨p, 0, none⟩ = some (.int .i64 k0) ∧ u.cell? ⟨p, 1, none⟩ = some (.int .i64 k1) ∧ u.cell? ⟨p, 2, none⟩ = some (.slice a1 l1.length c1) ∧ u.cell? ⟨p, 3, none⟩ = some (.slice a2 l2.length c2) ∧ u.cell? ⟨p, 4, none⟩ = some (.slice a3 l3.length c3) ∧ u.cell? ⟨p2, 0, none⟩ = some (.int .i64 k0) ∧ u.cell? ⟨p2, 1, none⟩ = some (.int .i64 k1) ∧ u.cell? ⟨p2, 2, none⟩ = some (.slice f1 l1.length g1) ∧ u.cell? ⟨p2, 3, none⟩ = some (.slice f2 l2.length g2) ∧ u.cell? ⟨p2, 4, none⟩ = some (.slice f3 l3.length g3))
      (first | with_reducible exact ⟨x0, x1, x2, x3, x4, y0, y1, y2, y3, y4⟩ | with_reducible exact ⟨zcr BA x0, zcr BA x1, zcr BA x2, zcr BA x3, zcr BA x4, zcr BA y0, zcr BA y1, zcr BA y2, zcr BA y3, zcr BA y4⟩ | with_reducible exact ⟨zcr BC x0, zcr BC x1, zcr BC x2, zcr BC x3, zcr BC x4, zcr BC y0, zcr BC y1, zcr BC y2, zcr BC y3, zcr BC y4⟩ | exact ⟨x0, x1, x2, x3, x4, y0, y1, y2, y3, y4⟩)
      ((first
        | (go_at_call 22; refine (toCommitsResult k0 k1 a1 a2 a3 c1 c2 c3 l1 l2 l3 _ HD hs).mono ?_; rintro e wa ⟨h1, h2, h3, i1, i2, i3, rfl, GA, ba⟩; have BA := BD.trans ba; have GB := GD.below ba)
        | (go_at_call 24; refine (eqCommitsResult k0 k1 f1 f2 f3 h1 h2 h3 g1 g2 g3 i1 i2 i3 l1 l2 l3 _ GB GA hs).mono ?_; rintro e wc ⟨rfl, bc⟩; have BC := BA.trans (bc.mono BA.size))))
    all_goals (go_wp2_with fail; go_meet; exact ⟨rfl, BC⟩)
  case rest =>
  obtain ⟨rfl, b⟩ := hcut
  have BE := B7.trans (b.mono B7.size)
  clear b
  go_wp2_with fail
  go_ret
  exact ⟨rfl, BE⟩

set_option linter.unusedVariables false
theorem laidOut : laidOutB Try.prog = true := by kernel_rfl
theorem own : ownKnob Try.prog.godebug = none := by kernel_rfl
set_option maxRecDepth 100000 in
theorem lifted (os : Os) (started : os.Started) (H : Type) (enc : TypeId × Value → H) :
    ReturnsInHanded {} Try.checked os 6 .any (Rows.fnExactIsCleanSpec.pre6 enc Try.prog Try.f6 Rows.fnExactIsCleanRow.domain false) (Rows.fnExactIsCleanSpec.post enc Try.prog Try.f6 false true false false) := by
  refine returnsInHanded_of_change (C := Try.checked) own started (by kernel_rfl) Try.func6
    (ChangeSpec.witness6 (enc := enc) (C := Try.checked) false ⟨#[], #[.agg #[.int .i64 0, .int .i64 0, .slice none 0 0, .slice none 0 0, .slice none 0 0]], []⟩ 8 (by kernel_rfl) (by kernel_rfl) (by kernel_rfl) (by kernel_rfl)) ?_
  intro W base args ds gs before hval0 hW hcnd _
  have hval : ∀ (j : Nat) t v, Try.f6.params[j]? = some t → args[j]? = some v → Value.okWide Try.prog W .any base t v := hval0
  have hW' := hW
  obtain ⟨p, q, hA0, hV, rfl, hfz, hnd⟩ := hW
  have hA : DataW.TrodAll enc Try.prog W 0 (fun _ => true) true Try.f6.params.toList args.toList ds p := hA0
  rw [Try.params6] at hA hval
  obtain ⟨v0, vs0, d0, ds0, p0, q0, hargs, rfl, rfl, h0, r0⟩ := trodAll_cons hA
  obtain ⟨rfl, rfl, rfl⟩ := trodAll_nil r0
  obtain rfl : args = #[v0] := by cases args; simp_all
  obtain ⟨rfl, rfl⟩ := trodVars_none hV
  obtain ⟨cs, rfl, hcs⟩ := okWide_struct Try.underlying52 (hval 0 52 v0 rfl rfl)
  have k0 := h0
  have lt0 : ∀ x ∈ p0, x.block < W.heap.size := by obtain ⟨m, hm⟩ := k0; exact DataW.trod_lt m _ _ _ hm
  obtain ⟨x0, x1, a1, a2, a3, c1, c2, c3, l1, l2, l3, hcc, hS, hF⟩ : ∃ (k0 k1 : Int) (a1 a2 a3 : Option Addr) (c1 c2 c3 : Nat) (l1 : List Ob) (l2 : List En.Ob) (l3 : List Wk.Ob), cs.toList = [.int .i64 k0, .int .i64 k1, .slice a1 l1.length c1, .slice a2 l2.length c2, .slice a3 l3.length c3] ∧ Cr.C3 W a1 a2 a3 l1 l2 l3 ∧ Cr.F3 l1 l2 l3 := by
    obtain ⟨m, hm⟩ := k0
    exact Cr.openCr hm
  obtain rfl : cs = #[.int .i64 x0, .int .i64 x1, .slice a1 l1.length c1, .slice a2 l2.length c2, .slice a3 l3.length c3] := by
    cases cs; simp_all
  clear hA0 hval0
  refine (walk x0 x1 a1 a2 a3 c1 c2 c3 l1 l2 l3 W hS hF).mono fun e W' ⟨he, bel⟩ => ?_
  subst he
  exact ⟨_, rfl, _, _, _, [], _, [], hW', trodAll_mk1 (shut_bool Try.underlying4 _), (trodAll_cons_mk (Below.trod laidOut (by kernel_rfl) (of_decide_eq_true (by kernel_rfl)) k0 bel lt0) trodAll_mk0), rfl, bel.frame _, fun h => by cases h⟩

theorem over : Rows.fnExactIsCleanRow.holds Try.pinned (OpenSpec.ofChange Rows.fnExactIsCleanSpec) :=
  OpenClaim.holds_of_wide 6 Try.f6 rfl rfl rfl rfl rfl rfl rfl ⟨rfl, rfl, rfl, rfl, rfl⟩ rfl rfl rfl rfl rfl (by kernel_rfl) Try.func6 (by kernel_rfl)
    (of_decide_eq_true (by kernel_rfl)) (by unfold Func.isWrapper; first | (rw [if_pos (by decide +kernel)]; kernel_rfl) | (rw [if_neg (by decide +kernel)]; exact ⟨rfl, rfl⟩))
    (fun os started H enc _ => lifted os started H enc)

theorem proved : Rows.FnExactIsCleanSaid := over
end Go.Proofs.Yticagabnaibmgaa.IcLaw
namespace Go.Proofs.Yticagabnaibmgaa
theorem fnExactIsClean_proved : Rows.FnExactIsCleanSaid := IcLaw.proved
end Go.Proofs.Yticagabnaibmgaa
