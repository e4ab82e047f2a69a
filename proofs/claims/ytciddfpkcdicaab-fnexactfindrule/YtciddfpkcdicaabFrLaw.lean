/- Proved: at every list of rules and every text FnExactFindRule returns true (FindRule answers as its specification and changes no argument). No condition: FnExactFindRuleSaid itself. -/
import Derived.Test.YtciddfpkcdicaabRows
import Derived.Test.YtciddfpkcdicaabLem
import Derived.Test.YtciddfpkcdicaabStrs
import Derived.Test.YtciddfpkcdicaabDTab
import Derived.Test.YtciddfpkcdicaabOwn
import Derived.Test.YtciddfpkcdicaabFr
import Derived.Test.YtciddfpkcdicaabRuL
import Derived.Test.YtciddfpkcdicaabRuT
import Derived.Test.YtciddfpkcdicaabOpU
import Derived.Test.YtciddfpkcdicaabTF
import Derived.Test.YtciddfpkcdicaabSpl
import Derived.Test.YtciddfpkcdicaabRuF
import Derived.Test.YtciddfpkcdicaabJoinC
import Derived.Test.YtciddfpkcdicaabJdC
import Derived.Test.YtciddfpkcdicaabFrC
import Derived.WalkKit
import Derived.ProofKit
import Derived.OpenShut
import Derived.ShutString
import Derived.Below
import Derived.Carry
namespace Go.Proofs.Ytciddfpkcdicaab.FrLaw
open Go.ChangeShapes Go.WideShapes Go.ChangeAt Go.RowKit
open Go.ChangeMaps (open_string shut_string)
open Go.Proofs.Ytciddfpkcdicaab.Ru
set_option maxHeartbeats 1000000 in
theorem eqTextResult (c : Int) (s : ByteArray) (w : World) :
    Calls Try.prog 22 #[.agg #[.int .i64 c, .string s], .agg #[.int .i64 c, .string s]] w fun e w' => e = .returned (.bool true) ∧ Below w.heap.size w w' := by
  have hb := beq_bytes_true (rfl : s = s)
  go_enter Try.func22, Try.ntmps22
  go_wp2
  go_ret
  exact ⟨rfl, ((Below.refl _ _).alloc (Nat.le_refl _) _).alloc (by simp) _⟩
theorem zc1 {w w' : World} {g o : Nat} {v : Value} (b : Below w.heap.size w w') (h : w.cell? ⟨g, o, none⟩ = some v) : w'.cell? ⟨g, o, none⟩ = some v :=
  (Fr.ofBelow (lo := 0) (hi := 0) b).cell h (.inr (Nat.zero_le _))

set_option maxRecDepth 20000 in
set_option maxHeartbeats 2000000 in
theorem walk (a : Option Addr) (c : Nat) (l : List Ru.Ob) (p : ByteArray) (w : World) (h : Ru.OB w.heap.size w a l) (hf : Ru.FitsO l) (hn : l.length ≤ 9223372036854775807) :
    Calls Try.prog 6 #[.slice a l.length c, .string p] w fun e w' => e = .returned (.bool true) ∧ Below w.heap.size w w' := by
  by_cases hbig : (1048576 : Int) < (p.size : Int)
  · go_enter Try.func6, Try.ntmps6
    go_wp2
    go_ret
    exact ⟨rfl, Below.refl _ _⟩
  have hZ := Ru.szRuleS a c l 1048576 w h hf hn (by omega) (by omega)
  by_cases hx : Ru.leftO 1048576 l < 0
  · go_enter Try.func6, Try.ntmps6
    go_wp2_with fail
    refine hZ.mono ?_; rintro e w1 ⟨rfl, b1⟩
    clear hZ
    go_wp2_with fail
    go_ret
    exact ⟨rfl, b1⟩
  obtain ⟨hs, hls⟩ := Ru.leftO_nums hx (by omega)
  have hS := fun (a : Option Addr) (c : Nat) W h => Ru.specFindRule a c l p W h hs hls
  have hI := fun (a : Option Addr) (c : Nat) W h => Ru.implFindRule a c l p W h hs hls
  have hT := fun W h => Ru.toRuleS a c l W h hls
  obtain ⟨vc, hv⟩ : ∃ v, Ru.frC l p = v := ⟨_, rfl⟩
  obtain ⟨vt, hv'⟩ : ∃ v, Ru.frT l p = v := ⟨_, rfl⟩
  rw [hv, hv'] at hS hI
  clear hv hv'
  go_enter Try.func6, Try.ntmps6
  go_wp2_with fail
  refine hZ.mono ?_; rintro e w1 ⟨rfl, b1⟩
  have A1 := h.below b1
  have S1 := b1.size
  have BB1 := b1
  clear hZ b1 h
  go_wp2_with fail
  refine (hT _ (A1.mono S1)).mono ?_; rintro e w2 ⟨rfl, o2, b2⟩
  have A2 := A1.below b2
  have S2 := b2.size
  have BB2 := below_step BB1 S1 b2
  have r2 := Ru.OB.of o2
  clear o2 b2 A1 BB1
  go_wp2_with fail
  refine (hS _ _ _ r2).mono ?_; rintro e w3 ⟨rfl, b3⟩
  have A3 := A2.below b3
  have S3 := b3.size
  have BB3 := below_step BB2 (by omega) b3
  clear b3 A2 BB2 r2
  obtain ⟨W3, hW3⟩ : ∃ W3, w3.alloc (.cells #[.int .i64 vc, .string vt] 39) = W3 := ⟨_, rfl⟩
  have B3 : Below w3.heap.size w3 W3 := by rw [← hW3]; exact allocBelow _ _
  have R3 : Rs W3 w3.heap.size [.int .i64 vc, .string vt] := by rw [← hW3]; exact Rs.new _ _ _
  have c0 := R3 0 _ rfl
  have c1 := R3 1 _ rfl
  have A3' := A3.below B3
  have S3' := B3.size
  have BB3' := below_step BB3 (by omega) B3
  clear R3 B3 A3 BB3
  go_wp2_with fail
  refine (hT _ (A3'.mono (by omega))).mono ?_; rintro e w4 ⟨rfl, o4, b4⟩
  have A4 := A3'.below b4
  have S4 := b4.size
  have BB4 := below_step BB3' (by omega) b4
  have r4 := Ru.OB.of o4
  replace c0 := zc1 b4 c0
  replace c1 := zc1 b4 c1
  clear b4 A3' BB3' hW3
  go_wp2_with fail
  refine (hI _ _ _ r4).mono ?_; rintro e w5 ⟨rfl, b5⟩
  have S5 := b5.size
  have A5 := A4.below b5
  have BB5 := below_step BB4 (by omega) b5
  have o5 := o4.kept (grownOfBelow b5 none) (.inr (by simp [Value.ownBlock]))
  replace c0 := zc1 b5 c0
  replace c1 := zc1 b5 c1
  clear b5 A4 BB4 o4 r4
  obtain ⟨W5, hW5⟩ : ∃ W5, w5.alloc (.cells #[.int .i64 vc, .string vt] 39) = W5 := ⟨_, rfl⟩
  have B5 : Below w5.heap.size w5 W5 := by rw [← hW5]; exact allocBelow _ _
  have R5 : Rs W5 w5.heap.size [.int .i64 vc, .string vt] := by rw [← hW5]; exact Rs.new _ _ _
  have e0 := R5 0 _ rfl
  have e1 := R5 1 _ rfl
  replace c0 := zc1 B5 c0
  replace c1 := zc1 B5 c1
  have A6 := A5.below B5
  have S6 := B5.size
  have BB6 := below_step BB5 (by omega) B5
  have o6 := o5.kept (grownOfBelow B5 none) (.inr (by simp [Value.ownBlock]))
  clear R5 B5 A5 BB5 o5
  go_wp2_with fail
  refine (eqTextResult vc vt _).mono ?_; rintro e w7 ⟨rfl, b7⟩
  have S7 := b7.size
  have A7 := A6.below b7
  have BB7 := below_step BB6 (by omega) b7
  have o7 := o6.kept (grownOfBelow b7 none) (.inr (by simp [Value.ownBlock]))
  clear b7 A6 BB6 o6 c0 c1 e0 e1 hW5
  go_wp2_with fail
  refine (hT _ (A7.mono (by omega))).mono ?_; rintro e w8 ⟨rfl, o8, b8⟩
  have S8 := b8.size
  have BB8 := below_step BB7 (by omega) b8
  have o9 := o7.kept (grownOfBelow b8 none) (.inr (by simp [Value.ownBlock]))
  have r8 := Ru.OB.of o8
  have r9 := Ru.OB.of o9
  clear b8 A7 BB7 o7 o8 o9
  go_wp2_with fail
  refine (Ru.eqRuleS _ _ _ _ l _ r9 r8 hls).mono ?_; rintro e w9 ⟨rfl, b9⟩
  have BB9 := below_step BB8 (by omega) b9
  clear b9 r8 r9 BB8
  go_wp2_with fail
  go_ret
  exact ⟨rfl, BB9⟩

set_option linter.unusedVariables false
theorem laidOut : laidOutB Try.prog = true := by kernel_rfl
theorem own : ownKnob Try.prog.godebug = none := by kernel_rfl
set_option maxRecDepth 100000 in
theorem lifted (os : Os) (started : os.Started) (H : Type) (enc : TypeId × Value → H) :
    ReturnsInHanded {} Try.checked os 6 .any (Rows.fnExactFindRuleSpec.pre6 enc Try.prog Try.f6 Rows.fnExactFindRuleRow.domain false) (Rows.fnExactFindRuleSpec.post enc Try.prog Try.f6 false true false false) := by
  refine returnsInHanded_of_change (C := Try.checked) own started (by kernel_rfl) Try.func6
    (ChangeSpec.witness6 (enc := enc) (C := Try.checked) false ⟨#[], #[.slice none 0 0, .string ByteArray.empty], []⟩ 8 (by kernel_rfl) (by kernel_rfl) (by kernel_rfl) (by kernel_rfl)) ?_
  intro W base args ds gs before hval0 hW hcnd _
  have hval : ∀ (j : Nat) t v, Try.f6.params[j]? = some t → args[j]? = some v → Value.okWide Try.prog W .any base t v := hval0
  have hW' := hW
  obtain ⟨p, q, hA0, hV, rfl, hfz, hnd⟩ := hW
  have hA : DataW.TrodAll enc Try.prog W 0 (fun _ => true) true Try.f6.params.toList args.toList ds p := hA0
  rw [Try.params6] at hA hval
  obtain ⟨v0, vs0, d0, ds0, p0, q0, hargs, rfl, rfl, h0, r0⟩ := trodAll_cons hA
  obtain ⟨v1, vs1, d1, ds1, p1, q1, rfl, rfl, rfl, h1, r1⟩ := trodAll_cons r0
  obtain ⟨rfl, rfl, rfl⟩ := trodAll_nil r1
  obtain rfl : args = #[v0, v1] := by cases args; simp_all
  obtain ⟨rfl, rfl⟩ := trodVars_none hV
  obtain ⟨a0, len0, cap0, rfl⟩ := okWide_slice Try.underlying22 (hval 0 22 v0 rfl rfl)
  have k0 := h0
  have lt0 : ∀ x ∈ p0, x.block < W.heap.size := by obtain ⟨m, hm⟩ := k0; exact DataW.trod_lt m _ _ _ hm
  obtain ⟨ss0, rfl, w0, ft0, n0⟩ := Ru.openOB h0
  obtain ⟨t1, rfl, rfl, rfl, w1⟩ := open_string Try.underlying9 (hval 1 9 v1 rfl rfl) h1
  clear hA0 hval0
  refine (walk a0 cap0 ss0 t1 W w0 ft0 n0).mono fun e W' ⟨he, bel⟩ => ?_
  subst he
  exact ⟨_, rfl, _, _, _, [], _, [], hW', trodAll_mk1 (shut_bool Try.underlying4 _), (trodAll_cons_mk (Below.trod laidOut (by kernel_rfl) (of_decide_eq_true (by kernel_rfl)) k0 bel lt0) (trodAll_cons_mk (shut_string Try.underlying9 w1) trodAll_mk0)), rfl, bel.frame _, fun h => by cases h⟩

theorem over : Rows.fnExactFindRuleRow.holds Try.pinned (OpenSpec.ofChange Rows.fnExactFindRuleSpec) :=
  OpenClaim.holds_of_wide 6 Try.f6 rfl rfl rfl rfl rfl rfl rfl ⟨rfl, rfl, rfl, rfl, rfl⟩ rfl rfl rfl rfl rfl (by kernel_rfl) Try.func6 (by kernel_rfl)
    (of_decide_eq_true (by kernel_rfl)) (by unfold Func.isWrapper; first | (rw [if_pos (by decide +kernel)]; kernel_rfl) | (rw [if_neg (by decide +kernel)]; exact ⟨rfl, rfl⟩))
    (fun os started H enc _ => lifted os started H enc)

theorem proved : Rows.FnExactFindRuleSaid := over
end Go.Proofs.Ytciddfpkcdicaab.FrLaw
namespace Go.Proofs.Ytciddfpkcdicaab
theorem fnExactFindRule_proved : Rows.FnExactFindRuleSaid := FrLaw.proved
end Go.Proofs.Ytciddfpkcdicaab
