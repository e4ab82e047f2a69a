/- Proved: at every three texts FnExactMergeTexts returns true (MergeTexts answers as its specification). No condition: FnExactMergeTextsSaid itself. -/
import Derived.Test.YtciddfpkcdicaaaRows
import Derived.Test.YtciddfpkcdicaaaLemQ
import Derived.Test.YtciddfpkcdicaaaDTabQ
import Derived.Test.YtciddfpkcdicaaaHkTQ
import Derived.Test.YtciddfpkcdicaaaMxKQ
import Derived.Test.YtciddfpkcdicaaaCoTQ
import Derived.WalkKit
import Derived.ProofKit
import Derived.OpenShut
import Derived.ShutString
import Derived.Below
namespace Go.Proofs.Ytciddfpkcdicaaa.MgLaw
open Go.ChangeShapes Go.WideShapes Go.ChangeAt Go.RowKit
open Go.ChangeMaps (open_string shut_string)

set_option maxHeartbeats 400000 in
theorem eqMergeR (c v : Int) (s : ByteArray) (w : World) :
    Calls Try.prog 18 #[.agg #[.int .i64 c, .int .i64 v, .string s], .agg #[.int .i64 c, .int .i64 v, .string s]] w fun e w' => e = .returned (.bool true) ∧ Below w.heap.size w w' := by
  have q0 : (c != c) = false := by simp
  have q1 : (v != v) = false := by simp
  have hb := beq_bytes_true (rfl : s = s)
  go_enter Try.func18, Try.ntmps18
  go_wp2
  go_ret
  exact ⟨rfl, ((Below.refl _ _).alloc (Nat.le_refl _) _).alloc (by simp) _⟩
set_option maxRecDepth 20000 in
set_option maxHeartbeats 1000000 in
theorem walk (p d k : ByteArray) (w : World) :
    Calls Try.prog 6 #[.string p, .string d, .string k] w fun e w' => e = .returned (.bool true) ∧ Below w.heap.size w w' := by
  by_cases h1 : (1048576 : Int) < (p.size : Int)
  · go_enter Try.func6, Try.ntmps6
    go_wp2
    go_ret
    exact ⟨rfl, Below.refl _ _⟩
  by_cases h2 : (1048576 : Int) < (d.size : Int)
  · go_enter Try.func6, Try.ntmps6
    go_wp2
    go_ret
    exact ⟨rfl, Below.refl _ _⟩
  by_cases h3 : (1048576 : Int) < (k.size : Int)
  · go_enter Try.func6, Try.ntmps6
    go_wp2
    go_ret
    exact ⟨rfl, Below.refl _ _⟩
  have hS := fun w => specMergeTexts p d k w (by omega) (by omega) (by omega)
  have hI := fun w => implMergeTexts p d k w (by omega) (by omega) (by omega)
  obtain ⟨v, hv⟩ : ∃ v, mtR p d k = v := ⟨_, rfl⟩
  obtain ⟨V, hV⟩ : ∃ v, mtN p d k = v := ⟨_, rfl⟩
  obtain ⟨T, hT⟩ : ∃ v, mtT p d k = v := ⟨_, rfl⟩
  rw [hv, hV, hT] at hS hI
  clear hv hV hT
  go_enter Try.func6, Try.ntmps6
  go_wp2_with fail
  refine (hS _).mono ?_; rintro e w3 ⟨rfl, b3⟩
  obtain ⟨W3, hW3⟩ : ∃ W, w3.alloc (.cells #[.int .i64 v, .int .i64 V, .string T] 28) = W := ⟨_, rfl⟩
  have bW : Below w3.heap.size w3 W3 := by rw [← hW3]; exact allocBelow _ _
  have zW : w3.heap.size < W3.heap.size := by rw [← hW3]; simp
  have u3 : Rf W3 w3.heap.size [.int .i64 v, .int .i64 V, .string T] := by rw [← hW3]; exact Rf.new _ _ _
  have S3 := b3.size
  have BB3 := below_step b3 S3 bW
  clear b3 bW hS
  go_wp2_with fail
  refine (hI _).mono ?_; rintro e w5 ⟨rfl, b5⟩
  obtain ⟨q, hq⟩ : ∃ q, w3.heap.size = q := ⟨_, rfl⟩
  rw [hq] at u3 zW S3 ⊢
  obtain ⟨W5, hW5⟩ : ∃ W, w5.alloc (.cells #[.int .i64 v, .int .i64 V, .string T] 28) = W := ⟨_, rfl⟩
  have bV : Below w5.heap.size w5 W5 := by rw [← hW5]; exact allocBelow _ _
  have u6 : Rf W5 w5.heap.size [.int .i64 v, .int .i64 V, .string T] := by rw [← hW5]; exact Rf.new _ _ _
  have S5 := b5.size
  have u5 := (u3.below zW b5).below (by omega) bV
  have BB5 := below_step (below_step BB3 (by omega) b5) (by omega) bV
  have S6 := bV.size
  have d0 := u5.at_ 0 _ rfl
  have d1 := u5.at_ 1 _ rfl
  have d2 := u5.at_ 2 _ rfl
  have e0 := u6.at_ 0 _ rfl
  have e1 := u6.at_ 1 _ rfl
  have e2 := u6.at_ 2 _ rfl
  clear b5 BB3 u3 u5 u6 bV hI hW3 hq
  go_wp2_with fail
  refine (eqMergeR v V T _).mono ?_; rintro e w6 ⟨rfl, b6⟩
  have BB6 := below_step BB5 (by omega) b6
  clear b6 BB5 d0 d1 d2 e0 e1 e2 hW5
  go_wp2_with fail
  go_ret
  exact ⟨rfl, BB6⟩

set_option linter.unusedVariables false
theorem laidOut : laidOutB Try.prog = true := by kernel_rfl
theorem own : ownKnob Try.prog.godebug = none := by kernel_rfl
set_option maxRecDepth 100000 in
theorem lifted (os : Os) (started : os.Started) (H : Type) (enc : TypeId × Value → H) :
    ReturnsInHanded {} Try.checked os 6 .any (Rows.fnExactMergeTextsSpec.pre6 enc Try.prog Try.f6 Rows.fnExactMergeTextsRow.domain false) (Rows.fnExactMergeTextsSpec.post enc Try.prog Try.f6 false true false false) := by
  refine returnsInHanded_of_change (C := Try.checked) own started (by kernel_rfl) Try.func6
    (ChangeSpec.witness6 (enc := enc) (C := Try.checked) false ⟨#[], #[.string ByteArray.empty, .string ByteArray.empty, .string ByteArray.empty], []⟩ 8 (by kernel_rfl) (by kernel_rfl) (by kernel_rfl) (by kernel_rfl)) ?_
  intro W base args ds gs before hval0 hW hcnd _
  have hval : ∀ (j : Nat) t v, Try.f6.params[j]? = some t → args[j]? = some v → Value.okWide Try.prog W .any base t v := hval0
  have hW' := hW
  obtain ⟨p, q, hA0, hV, rfl, hfz, hnd⟩ := hW
  have hA : DataW.TrodAll enc Try.prog W 0 (fun _ => true) true Try.f6.params.toList args.toList ds p := hA0
  rw [Try.params6] at hA hval
  obtain ⟨v0, vs0, d0, ds0, p0, q0, hargs, rfl, rfl, h0, r0⟩ := trodAll_cons hA
  obtain ⟨v1, vs1, d1, ds1, p1, q1, rfl, rfl, rfl, h1, r1⟩ := trodAll_cons r0
  obtain ⟨v2, vs2, d2, ds2, p2, q2, rfl, rfl, rfl, h2, r2⟩ := trodAll_cons r1
  obtain ⟨rfl, rfl, rfl⟩ := trodAll_nil r2
  obtain rfl : args = #[v0, v1, v2] := by cases args; simp_all
  obtain ⟨rfl, rfl⟩ := trodVars_none hV
  obtain ⟨t0, rfl, rfl, rfl, w0⟩ := open_string Try.underlying9 (hval 0 9 v0 rfl rfl) h0
  obtain ⟨t1, rfl, rfl, rfl, w1⟩ := open_string Try.underlying9 (hval 1 9 v1 rfl rfl) h1
  obtain ⟨t2, rfl, rfl, rfl, w2⟩ := open_string Try.underlying9 (hval 2 9 v2 rfl rfl) h2
  clear hA0 hval0
  refine (walk t0 t1 t2 W ).mono fun e W' ⟨he, bel⟩ => ?_
  subst he
  exact ⟨_, rfl, _, _, _, [], _, [], hW', trodAll_mk1 (shut_bool Try.underlying4 _), (trodAll_cons_mk (shut_string Try.underlying9 w0) (trodAll_cons_mk (shut_string Try.underlying9 w1) (trodAll_cons_mk (shut_string Try.underlying9 w2) trodAll_mk0))), rfl, bel.frame _, fun h => by cases h⟩

theorem over : Rows.fnExactMergeTextsRow.holds Try.pinned (OpenSpec.ofChange Rows.fnExactMergeTextsSpec) :=
  OpenClaim.holds_of_wide 6 Try.f6 rfl rfl rfl rfl rfl rfl rfl ⟨rfl, rfl, rfl, rfl, rfl⟩ rfl rfl rfl rfl rfl (by kernel_rfl) Try.func6 (by kernel_rfl)
    (of_decide_eq_true (by kernel_rfl)) (by unfold Func.isWrapper; first | (rw [if_pos (by decide +kernel)]; kernel_rfl) | (rw [if_neg (by decide +kernel)]; exact ⟨rfl, rfl⟩))
    (fun os started H enc _ => lifted os started H enc)

theorem proved : Rows.FnExactMergeTextsSaid := over
end Go.Proofs.Ytciddfpkcdicaaa.MgLaw
namespace Go.Proofs.Ytciddfpkcdicaaa
theorem fnExactMergeTexts_proved : Rows.FnExactMergeTextsSaid := MgLaw.proved
end Go.Proofs.Ytciddfpkcdicaaa
