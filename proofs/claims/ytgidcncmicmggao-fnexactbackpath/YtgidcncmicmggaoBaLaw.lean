/- Proved: at every list of moves and every path FnExactBackPath returns true (BackPath answers as its specification and changes no argument). No condition: FnExactBackPathSaid itself. -/
import Derived.Test.YtgidcncmicmggaoRows
import Derived.Test.YtgidcncmicmggaoLem
import Derived.Test.YtgidcncmicmggaoStrs
import Derived.Test.YtgidcncmicmggaoDTab
import Derived.Test.YtgidcncmicmggaoOwn
import Derived.Test.YtgidcncmicmggaoFr
import Derived.Test.YtgidcncmicmggaoMvL
import Derived.Test.YtgidcncmicmggaoMvT
import Derived.Test.YtgidcncmicmggaoOpV
import Derived.Test.YtgidcncmicmggaoMvP
import Derived.WalkKit
import Derived.ProofKit
import Derived.OpenShut
import Derived.ShutString
import Derived.Below
import Derived.Carry
namespace Go.Proofs.Ytgidcncmicmggao.BaLaw
open Go.ChangeShapes Go.WideShapes Go.ChangeAt Go.RowKit
open Go.ChangeMaps (open_string shut_string)
open Go.Proofs.Ytgidcncmicmggao.Mv

set_option maxRecDepth 20000 in
set_option maxHeartbeats 2000000 in
theorem walk (a : Option Addr) (c : Nat) (l : List Mv.Ob) (p : ByteArray) (w : World) (h : Mv.OB w.heap.size w a l) (hf : Mv.FitsO l) (hn : l.length ≤ 9223372036854775807) :
    Calls Try.prog 3 #[.slice a l.length c, .string p] w fun e w' => e = .returned (.bool true) ∧ Below w.heap.size w w' := by
  by_cases hbig : (1048576 : Int) < (p.size : Int)
  · go_enter Try.func3, Try.ntmps3
    go_wp2
    go_ret
    exact ⟨rfl, Below.refl _ _⟩
  have hZ := Mv.szMoveS a c l 1048576 w h hf hn (by omega) (by omega)
  by_cases hx : Mv.leftO 1048576 l < 0
  · go_enter Try.func3, Try.ntmps3
    go_wp2_with fail
    refine hZ.mono ?_; rintro e w1 ⟨rfl, b1⟩
    clear hZ
    go_wp2_with fail
    go_ret
    exact ⟨rfl, b1⟩
  obtain ⟨hs, hls⟩ := Mv.leftO_nums hx (by omega)
  have hS := fun (a : Option Addr) (c : Nat) W h => Mv.specBackPath a c l p W h hls
  have hI := fun (a : Option Addr) (c : Nat) W h => Mv.implBackPath a c l p W h hs hls (by omega)
  have hT := fun W h => Mv.toMoveS a c l W h hls
  obtain ⟨v, hv⟩ : ∃ v, Mv.baP l p = v := ⟨_, rfl⟩
  rw [hv] at hS hI
  have hvv : (v.toList != v.toList) = false := by rw [bne, Mv.beqSelf]; rfl
  have hvv2 := Mv.beqSelf v
  clear hv
  go_enter Try.func3, Try.ntmps3
  go_wp2_with fail
  refine hZ.mono ?_; rintro e w1 ⟨rfl, b1⟩
  have A1 := h.below b1
  have S1 := b1.size
  have BB1 := b1
  clear hZ b1 h
  go_wp2_with fail
  refine (hT _ (A1.mono S1)).mono ?_; rintro e w2 ⟨rfl, o2, b2⟩
  have A2 := A1.below b2
  have S2 := b2.size
  have BB2 := below_step BB1 S1 b2
  have r2 := Mv.OB.of o2
  clear o2 b2 A1 BB1
  go_wp2_with fail
  refine (hS _ _ _ r2).mono ?_; rintro e w3 ⟨rfl, rfl⟩
  go_wp2_with fail
  refine (hT _ (A2.mono (by omega))).mono ?_; rintro e w4 ⟨rfl, o4, b4⟩
  have A4 := A2.below b4
  have S4 := b4.size
  have BB4 := below_step BB2 (by omega) b4
  have r4 := Mv.OB.of o4
  clear b4 A2 BB2 r2
  go_wp2_with fail
  refine (hI _ _ _ r4).mono ?_; rintro e w5 ⟨rfl, b5⟩
  have S5 := b5.size
  have A5 := A4.below b5
  have BB5 := below_step BB4 (by omega) b5
  have o5 := o4.kept (grownOfBelow b5 none) (.inr (by simp [Value.ownBlock]))
  clear b5 A4 BB4 o4 r4
  go_wp2_with fail
  refine (hT _ (A5.mono (by omega))).mono ?_; rintro e w7 ⟨rfl, o7, b7⟩
  have S8 := b7.size
  have BB7 := below_step BB5 (by omega) b7
  have o8 := o5.kept (grownOfBelow b7 none) (.inr (by simp [Value.ownBlock]))
  have r7 := Mv.OB.of o7
  have r8 := Mv.OB.of o8
  clear b7 A5 BB5 o5 o7 o8
  go_wp2_with fail
  refine (Mv.eqMoveS _ _ _ _ l _ r8 r7 hls).mono ?_; rintro e w9 ⟨rfl, b9⟩
  have BB9 := below_step BB7 (by omega) b9
  clear b9 r7 r8 BB7
  go_wp2_with fail
  go_ret
  exact ⟨rfl, BB9⟩

set_option linter.unusedVariables false
theorem laidOut : laidOutB Try.prog = true := by kernel_rfl
theorem own : ownKnob Try.prog.godebug = none := by kernel_rfl
set_option maxRecDepth 100000 in
theorem lifted (os : Os) (started : os.Started) (H : Type) (enc : TypeId × Value → H) :
    ReturnsInHanded {} Try.checked os 3 .any (Rows.fnExactBackPathSpec.pre6 enc Try.prog Try.f3 Rows.fnExactBackPathRow.domain false) (Rows.fnExactBackPathSpec.post enc Try.prog Try.f3 false true false false) := by
  refine returnsInHanded_of_change (C := Try.checked) own started (by kernel_rfl) Try.func3
    (ChangeSpec.witness6 (enc := enc) (C := Try.checked) false ⟨#[], #[.slice none 0 0, .string ByteArray.empty], []⟩ 8 (by kernel_rfl) (by kernel_rfl) (by kernel_rfl) (by kernel_rfl)) ?_
  intro W base args ds gs before hval0 hW hcnd _
  have hval : ∀ (j : Nat) t v, Try.f3.params[j]? = some t → args[j]? = some v → Value.okWide Try.prog W .any base t v := hval0
  have hW' := hW
  obtain ⟨p, q, hA0, hV, rfl, hfz, hnd⟩ := hW
  have hA : DataW.TrodAll enc Try.prog W 0 (fun _ => true) true Try.f3.params.toList args.toList ds p := hA0
  rw [Try.params3] at hA hval
  obtain ⟨v0, vs0, d0, ds0, p0, q0, hargs, rfl, rfl, h0, r0⟩ := trodAll_cons hA
  obtain ⟨v1, vs1, d1, ds1, p1, q1, rfl, rfl, rfl, h1, r1⟩ := trodAll_cons r0
  obtain ⟨rfl, rfl, rfl⟩ := trodAll_nil r1
  obtain rfl : args = #[v0, v1] := by cases args; simp_all
  obtain ⟨rfl, rfl⟩ := trodVars_none hV
  obtain ⟨a0, len0, cap0, rfl⟩ := okWide_slice Try.underlying22 (hval 0 22 v0 rfl rfl)
  have k0 := h0
  have lt0 : ∀ x ∈ p0, x.block < W.heap.size := by obtain ⟨m, hm⟩ := k0; exact DataW.trod_lt m _ _ _ hm
  obtain ⟨ss0, rfl, w0, ft0, n0⟩ := Mv.openOB h0
  obtain ⟨t1, rfl, rfl, rfl, w1⟩ := open_string Try.underlying9 (hval 1 9 v1 rfl rfl) h1
  clear hA0 hval0
  refine (walk a0 cap0 ss0 t1 W w0 ft0 n0).mono fun e W' ⟨he, bel⟩ => ?_
  subst he
  exact ⟨_, rfl, _, _, _, [], _, [], hW', trodAll_mk1 (shut_bool Try.underlying4 _), (trodAll_cons_mk (Below.trod laidOut (by kernel_rfl) (of_decide_eq_true (by kernel_rfl)) k0 bel lt0) (trodAll_cons_mk (shut_string Try.underlying9 w1) trodAll_mk0)), rfl, bel.frame _, fun h => by cases h⟩

theorem over : Rows.fnExactBackPathRow.holds Try.pinned (OpenSpec.ofChange Rows.fnExactBackPathSpec) :=
  OpenClaim.holds_of_wide 3 Try.f3 rfl rfl rfl rfl rfl rfl rfl ⟨rfl, rfl, rfl, rfl, rfl⟩ rfl rfl rfl rfl rfl (by kernel_rfl) Try.func3 (by kernel_rfl)
    (of_decide_eq_true (by kernel_rfl)) (by unfold Func.isWrapper; first | (rw [if_pos (by decide +kernel)]; kernel_rfl) | (rw [if_neg (by decide +kernel)]; exact ⟨rfl, rfl⟩))
    (fun os started H enc _ => lifted os started H enc)

theorem proved : Rows.FnExactBackPathSaid := over
end Go.Proofs.Ytgidcncmicmggao.BaLaw
namespace Go.Proofs.Ytgidcncmicmggao
theorem fnExactBackPath_proved : Rows.FnExactBackPathSaid := BaLaw.proved
end Go.Proofs.Ytgidcncmicmggao
