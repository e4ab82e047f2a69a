/- Proved: at every list of rules FnExactRulesFault returns true (RulesFault answers as its specification and changes no argument). No condition: FnExactRulesFaultSaid itself. -/
import Derived.Test.YtciddfpkcdicaabRows
import Derived.Test.YtciddfpkcdicaabLem
import Derived.Test.YtciddfpkcdicaabStrs
import Derived.Test.YtciddfpkcdicaabDTab
import Derived.Test.YtciddfpkcdicaabOwn
import Derived.Test.YtciddfpkcdicaabFr
import Derived.Test.YtciddfpkcdicaabTF
import Derived.Test.YtciddfpkcdicaabSpl
import Derived.Test.YtciddfpkcdicaabRuL
import Derived.Test.YtciddfpkcdicaabRuT
import Derived.Test.YtciddfpkcdicaabOpU
import Derived.Test.YtciddfpkcdicaabRuF
import Derived.WalkKit
import Derived.ProofKit
import Derived.OpenShut
import Derived.Below
import Derived.Carry
namespace Go.Proofs.Ytciddfpkcdicaab.RfLaw
open Go.ChangeShapes Go.WideShapes Go.ChangeAt Go.RowKit
open Go.Proofs.Ytciddfpkcdicaab.Ru

set_option maxRecDepth 20000 in
set_option maxHeartbeats 4000000 in
theorem walk (a : Option Addr) (c : Nat) (l : List Ob) (w : World) (h : OB w.heap.size w a l) (hf : FitsO l) (hn : l.length ≤ 9223372036854775807) :
    Calls Try.prog 3 #[.slice a l.length c] w fun e w' => e = .returned (.bool true) ∧ Below w.heap.size w w' := by
  have hZ := szRuleS a c l 1048576 w h hf hn (by omega) (by omega)
  by_cases hx : leftO 1048576 l < 0
  · go_enter Try.func3, Try.ntmps3
    go_wp2_with fail
    refine hZ.mono ?_; rintro e w1 ⟨rfl, b1⟩
    clear hZ
    go_wp2_with fail
    go_ret
    exact ⟨rfl, b1⟩
  obtain ⟨hs, hls⟩ := leftO_nums hx (by omega)
  have hS := fun (a : Option Addr) (c : Nat) W h => specRulesFault a c l W h hs hls
  have hI := fun (a : Option Addr) (c : Nat) W h => implRulesFault a c l W h hs hls
  have hT := fun W h => toRuleS a c l W h hls
  obtain ⟨v, hv⟩ : ∃ v, rf l = v := ⟨_, rfl⟩
  rw [hv] at hS hI
  have hvv : (v != v) = false := by simp
  clear hv
  go_enter Try.func3, Try.ntmps3
  go_wp2_with fail
  refine hZ.mono ?_; rintro e w1 ⟨rfl, b1⟩
  have A1 := h.below b1
  have S1 := b1.size
  have BB1 := b1
  clear hZ b1 h
  go_wp2_with fail
  refine (hT _ (A1.mono S1)).mono ?_; rintro e w2 ⟨rfl, o2, b2⟩
  have A2 := A1.below b2
  have S2 := b2.size
  have BB2 := below_step BB1 S1 b2
  have r2 := OB.of o2
  clear o2 b2 A1 BB1
  go_wp2_with fail
  refine (hS _ _ _ r2).mono ?_; rintro e w3 ⟨rfl, b3⟩
  have A3 := A2.below b3
  have S3 := b3.size
  have BB3 := below_step BB2 (by omega) b3
  clear b3 A2 BB2 r2
  go_wp2_with fail
  refine (hT _ (A3.mono (by omega))).mono ?_; rintro e w4 ⟨rfl, o4, b4⟩
  have A4 := A3.below b4
  have S4 := b4.size
  have BB4 := below_step BB3 (by omega) b4
  have r4 := OB.of o4
  clear b4 A3 BB3
  go_wp2_with fail
  refine (hI _ _ _ r4).mono ?_; rintro e w5 ⟨rfl, b5⟩
  have A5 := A4.below b5
  have S5 := b5.size
  have BB5 := below_step BB4 (by omega) b5
  have o5 := o4.kept (grownOfBelow b5 none) (.inr (by simp [Value.ownBlock]))
  clear b5 A4 BB4 o4 r4
  go_wp2_with fail
  refine (hT _ (A5.mono (by omega))).mono ?_; rintro e w6 ⟨rfl, o6, b6⟩
  have S6 := b6.size
  have BB6 := below_step BB5 (by omega) b6
  have o7 := o5.kept (grownOfBelow b6 none) (.inr (by simp [Value.ownBlock]))
  have r6 := OB.of o6
  have r7 := OB.of o7
  clear b6 A5 BB5 o5 o6 o7
  go_wp2_with fail
  refine (eqRuleS _ _ _ _ l _ r7 r6 hls).mono ?_; rintro e w8 ⟨rfl, b8⟩
  have BB8 := below_step BB6 (by omega) b8
  clear b8 r6 r7 BB6
  go_wp2_with fail
  go_ret
  exact ⟨rfl, BB8⟩

set_option linter.unusedVariables false
theorem laidOut : laidOutB Try.prog = true := by kernel_rfl
theorem own : ownKnob Try.prog.godebug = none := by kernel_rfl
set_option maxRecDepth 100000 in
theorem lifted (os : Os) (started : os.Started) (H : Type) (enc : TypeId × Value → H) :
    ReturnsInHanded {} Try.checked os 3 .any (Rows.fnExactRulesFaultSpec.pre6 enc Try.prog Try.f3 Rows.fnExactRulesFaultRow.domain false) (Rows.fnExactRulesFaultSpec.post enc Try.prog Try.f3 false true false false) := by
  refine returnsInHanded_of_change (C := Try.checked) own started (by kernel_rfl) Try.func3
    (ChangeSpec.witness6 (enc := enc) (C := Try.checked) false ⟨#[], #[.slice none 0 0], []⟩ 8 (by kernel_rfl) (by kernel_rfl) (by kernel_rfl) (by kernel_rfl)) ?_
  intro W base args ds gs before hval0 hW hcnd _
  have hval : ∀ (j : Nat) t v, Try.f3.params[j]? = some t → args[j]? = some v → Value.okWide Try.prog W .any base t v := hval0
  have hW' := hW
  obtain ⟨p, q, hA0, hV, rfl, hfz, hnd⟩ := hW
  have hA : DataW.TrodAll enc Try.prog W 0 (fun _ => true) true Try.f3.params.toList args.toList ds p := hA0
  rw [Try.params3] at hA hval
  obtain ⟨v0, vs0, d0, ds0, p0, q0, hargs, rfl, rfl, h0, r0⟩ := trodAll_cons hA
  obtain ⟨rfl, rfl, rfl⟩ := trodAll_nil r0
  obtain rfl : args = #[v0] := by cases args; simp_all
  obtain ⟨rfl, rfl⟩ := trodVars_none hV
  obtain ⟨a0, len0, cap0, rfl⟩ := okWide_slice Try.underlying22 (hval 0 22 v0 rfl rfl)
  have k0 := h0
  have lt0 : ∀ x ∈ p0, x.block < W.heap.size := by obtain ⟨m, hm⟩ := k0; exact DataW.trod_lt m _ _ _ hm
  obtain ⟨ss0, rfl, w0, ft0, n0⟩ := Ru.openOB h0
  clear hA0 hval0
  refine (walk a0 cap0 ss0 W w0 ft0 n0).mono fun e W' ⟨he, bel⟩ => ?_
  subst he
  exact ⟨_, rfl, _, _, _, [], _, [], hW', trodAll_mk1 (shut_bool Try.underlying4 _), (trodAll_cons_mk (Below.trod laidOut (by kernel_rfl) (of_decide_eq_true (by kernel_rfl)) k0 bel lt0) trodAll_mk0), rfl, bel.frame _, fun h => by cases h⟩

theorem over : Rows.fnExactRulesFaultRow.holds Try.pinned (OpenSpec.ofChange Rows.fnExactRulesFaultSpec) :=
  OpenClaim.holds_of_wide 3 Try.f3 rfl rfl rfl rfl rfl rfl rfl ⟨rfl, rfl, rfl, rfl, rfl⟩ rfl rfl rfl rfl rfl (by kernel_rfl) Try.func3 (by kernel_rfl)
    (of_decide_eq_true (by kernel_rfl)) (by unfold Func.isWrapper; first | (rw [if_pos (by decide +kernel)]; kernel_rfl) | (rw [if_neg (by decide +kernel)]; exact ⟨rfl, rfl⟩))
    (fun os started H enc _ => lifted os started H enc)

theorem proved : Rows.FnExactRulesFaultSaid := over
end Go.Proofs.Ytciddfpkcdicaab.RfLaw
namespace Go.Proofs.Ytciddfpkcdicaab
theorem fnExactRulesFault_proved : Rows.FnExactRulesFaultSaid := RfLaw.proved
end Go.Proofs.Ytciddfpkcdicaab
