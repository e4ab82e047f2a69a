/- Proved: at every list of lines FnExactLinesFault returns true (LinesFault answers as its specification and changes no line). No condition: FnExactLinesFaultSaid itself. -/
import Derived.Test.YthgoimdlhgdnoagRows
import Derived.Test.YthgoimdlhgdnoagLem
import Derived.Test.YthgoimdlhgdnoagStrs
import Derived.Test.YthgoimdlhgdnoagLFLem
import Derived.Test.YthgoimdlhgdnoagLF
import Derived.WalkKit
import Derived.ProofKit
import Derived.OpenShut
import Derived.Below
import Derived.Carry
namespace Go.Proofs.Ythgoimdlhgdnoag.LFLaw
open Go.ChangeShapes Go.WideShapes Go.ChangeAt Go.RowKit

set_option maxHeartbeats 1600000 in
theorem walk (a1 : Option Addr) (c1 : Nat) (xs : List ByteArray) (w : World) (h1 : SS w a1 xs) (hn : xs.length ≤ 9223372036854775807) :
    Calls Try.prog 3 #[.slice a1 xs.length c1] w fun e w' => e = .returned (.bool true) ∧ Below w.heap.size w w' := by
  by_cases hx : left 1048576 xs < 0
  · go_enter Try.func3, Try.ntmps3
    go_wp2_with (go_at_call 7; refine (szStringS _ _ _ _ _ h1 hn (by omega) (by omega)).mono ?_; rintro e w' ⟨rfl, rfl⟩)
    go_ret
    exact ⟨rfl, Below.refl _ _⟩
  obtain ⟨e1, g1, k1⟩ := left_ge hx
  have ht := tot_nonneg xs
  have hxs : xs.length ≤ 1048576 := by omega
  have htx : tot xs ≤ 1048576 := by omega
  clear e1 g1 k1
  obtain ⟨r, hr⟩ : ∃ r, lf xs = r := ⟨_, rfl⟩
  go_enter Try.func3, Try.ntmps3
  go_wp2_with fail
  refine (szStringS _ _ _ _ _ h1 hn (by omega) (by omega)).mono ?_; rintro e w ⟨rfl, rfl⟩
  go_wp2_with fail
  refine (toStringS' _ _ _ _ h1 hxs).mono ?_; rintro e w1 ⟨rfl, x1, b1, z1⟩
  have h1a := h1.below b1
  go_wp2_with fail
  refine (specLinesFault _ _ _ _ x1 hxs htx).mono ?_; rintro e w1 ⟨rfl, rfl⟩
  rw [hr]
  go_wp2_with fail
  refine (toStringS' _ _ _ _ h1a hxs).mono ?_; rintro e w2 ⟨rfl, x2, b2, z2⟩
  have h1b := h1a.below b2
  go_wp2_with fail
  refine (implLinesFault _ _ _ _ x2 hxs).mono ?_; rintro e w2 ⟨rfl, rfl⟩
  rw [hr]
  go_wp2_with fail
  refine (toStringS' _ _ _ _ h1b hxs).mono ?_; rintro e w3 ⟨rfl, x3, b3, z3⟩
  have x2c := x2.below b3
  go_wp2_with fail
  refine (eqStringS _ _ _ _ _ _ _ x2c x3 hxs hxs).mono ?_; rintro e w3' ⟨rfl, n3, rfl⟩
  rw [eqB_self]
  go_wp2_with fail
  go_ret
  refine ⟨rfl, ?_⟩
  have B2 := below_step b1 (Nat.le_of_lt z1) b2
  have B3 := below_step B2 (by omega) b3
  exact below_drewN' B3 n3

set_option linter.unusedVariables false
theorem laidOut : laidOutB Try.prog = true := by kernel_rfl
theorem own : ownKnob Try.prog.godebug = none := by kernel_rfl
set_option maxRecDepth 100000 in
theorem lifted (os : Os) (started : os.Started) (H : Type) (enc : TypeId × Value → H) :
    ReturnsInHanded {} Try.checked os 3 .any (Rows.fnExactLinesFaultSpec.pre6 enc Try.prog Try.f3 Rows.fnExactLinesFaultRow.domain false) (Rows.fnExactLinesFaultSpec.post enc Try.prog Try.f3 false true false false) := by
  refine returnsInHanded_of_change (C := Try.checked) own started (by kernel_rfl) Try.func3
    (ChangeSpec.witness6 (enc := enc) (C := Try.checked) false ⟨#[], #[.slice none 0 0], []⟩ 8 (by kernel_rfl) (by kernel_rfl) (by kernel_rfl) (by kernel_rfl)) ?_
  intro W base args ds gs before hval0 hW hcnd _
  have hval : ∀ (j : Nat) t v, Try.f3.params[j]? = some t → args[j]? = some v → Value.okWide Try.prog W .any base t v := hval0
  have hW' := hW
  obtain ⟨p, q, hA0, hV, rfl, hfz, hnd⟩ := hW
  have hA : DataW.TrodAll enc Try.prog W 0 (fun _ => true) true Try.f3.params.toList args.toList ds p := hA0
  rw [Try.params3] at hA hval
  obtain ⟨v0, vs0, d0, ds0, p0, q0, hargs, rfl, rfl, h0, r0⟩ := trodAll_cons hA
  obtain ⟨rfl, rfl, rfl⟩ := trodAll_nil r0
  obtain rfl : args = #[v0] := by cases args; simp_all
  obtain ⟨rfl, rfl⟩ := trodVars_none hV
  obtain ⟨a0, len0, cap0, rfl⟩ := okWide_slice Try.underlying22 (hval 0 22 v0 rfl rfl)
  have k0 := h0
  have lt0 : ∀ x ∈ p0, x.block < W.heap.size := by obtain ⟨m, hm⟩ := k0; exact DataW.trod_lt m _ _ _ hm
  obtain ⟨ss0, rfl, w0, n0⟩ := openSS h0 lt0
  clear hA0 hval0
  refine (walk a0 cap0 ss0 W w0 n0).mono fun e W' ⟨he, bel⟩ => ?_
  subst he
  exact ⟨_, rfl, _, _, _, [], _, [], hW', trodAll_mk1 (shut_bool Try.underlying4 _), (trodAll_cons_mk (Below.trod laidOut (by kernel_rfl) (of_decide_eq_true (by kernel_rfl)) k0 bel lt0) trodAll_mk0), rfl, bel.frame _, fun h => by cases h⟩

theorem over : Rows.fnExactLinesFaultRow.holds Try.pinned (OpenSpec.ofChange Rows.fnExactLinesFaultSpec) :=
  OpenClaim.holds_of_wide 3 Try.f3 rfl rfl rfl rfl rfl rfl rfl ⟨rfl, rfl, rfl, rfl, rfl⟩ rfl rfl rfl rfl rfl (by kernel_rfl) Try.func3 (by kernel_rfl)
    (of_decide_eq_true (by kernel_rfl)) (by unfold Func.isWrapper; first | (rw [if_pos (by decide +kernel)]; kernel_rfl) | (rw [if_neg (by decide +kernel)]; exact ⟨rfl, rfl⟩))
    (fun os started H enc _ => lifted os started H enc)

theorem proved : Rows.FnExactLinesFaultSaid := over
end Go.Proofs.Ythgoimdlhgdnoag.LFLaw
namespace Go.Proofs.Ythgoimdlhgdnoag
theorem fnExactLinesFault_proved : Rows.FnExactLinesFaultSaid := LFLaw.proved
end Go.Proofs.Ythgoimdlhgdnoag
