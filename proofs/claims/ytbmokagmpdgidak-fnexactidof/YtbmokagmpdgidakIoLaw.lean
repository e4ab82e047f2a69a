/- Proved: at every kind and every text FnExactIdOf returns true (IdOf answers as its specification, field by field). No condition: FnExactIdOfSaid itself. -/
import Derived.Test.YtbmokagmpdgidakRows
import Derived.Test.YtbmokagmpdgidakLem
import Derived.Test.YtbmokagmpdgidakStrs
import Derived.Test.YtbmokagmpdgidakDTab
import Derived.Test.YtbmokagmpdgidakOwn
import Derived.Test.YtbmokagmpdgidakFr
import Derived.Test.YtbmokagmpdgidakIn
import Derived.Test.YtbmokagmpdgidakIdM
import Derived.WalkKit
import Derived.ProofKit
import Derived.OpenShut
import Derived.ShutString
import Derived.Below
namespace Go.Proofs.Ytbmokagmpdgidak.IoLaw
open Go.ChangeShapes Go.WideShapes Go.ChangeAt Go.RowKit
open Go.ChangeMaps (open_string shut_string)

theorem beq_self (s : ByteArray) : (s.toList == s.toList) = true := beq_bytes_true rfl
set_option maxHeartbeats 400000 in
theorem eqTextResult (c : Int) (s : ByteArray) (w : World) :
    Calls Try.prog 11 #[.agg #[.int .i64 c, .string s], .agg #[.int .i64 c, .string s]] w fun e w' => e = .returned (.bool true) ∧ Below w.heap.size w w' := by
  have hb := beq_self s
  go_enter Try.func11, Try.ntmps11
  go_wp2
  go_ret
  exact ⟨rfl, ((Below.refl _ _).alloc (Nat.le_refl _) _).alloc (by simp) _⟩

set_option maxHeartbeats 1000000 in
theorem walk (x0 : Int) (a1 : ByteArray) (w : World) :
    Calls Try.prog 3 #[.int .i64 x0, .string a1] w fun e w' => e = .returned (.bool true) ∧ Below w.heap.size w w' := by
  by_cases hbig : (1048576 : Int) < (a1.size : Int)
  · go_enter Try.func3, Try.ntmps3
    go_wp2
    go_ret
    exact ⟨rfl, Below.refl _ _⟩
  · have hs : a1.size ≤ 1048576 := by omega
    have hS := fun w => specIdOf x0 a1 w hs
    have hI := fun w => implIdOf x0 a1 w hs
    obtain ⟨C, hC⟩ : ∃ C, idK x0 a1 = C := ⟨_, rfl⟩
    obtain ⟨T, hT⟩ : ∃ T, idT x0 a1 = T := ⟨_, rfl⟩
    rw [hC, hT] at hS hI
    clear hC hT
    go_enter Try.func3, Try.ntmps3
    go_wp2_with fail
    refine (hS _).mono ?_; rintro e w1 ⟨rfl, b1⟩
    obtain ⟨W1, hW1⟩ : ∃ W1, w1.alloc (.cells #[.int .i64 C, .string T] 23) = W1 := ⟨_, rfl⟩
    have r1 : Res2 W1 w1.heap.size (.int .i64 C) (.string T) := by rw [← hW1]; exact Res2.new _ _ _ _
    have B1 : Below w.heap.size w W1 := by rw [← hW1]; exact b1.alloc b1.size _
    have z1 : w1.heap.size < W1.heap.size := by rw [← hW1]; simp
    have HB1 : Hid (Below w.heap.size w W1) := B1
    clear B1 b1 hS
    go_wp2_with fail
    refine (hI _).mono ?_; rintro e w2 ⟨rfl, b2⟩
    have r2 := r1.below z1 b2
    have B2 := HB1.out.trans (b2.mono HB1.out.size)
    have z2 : w1.heap.size < w2.heap.size := Nat.lt_of_lt_of_le z1 b2.size
    obtain ⟨q1, hq1⟩ : ∃ q1, w1.heap.size = q1 := ⟨_, rfl⟩
    rw [hq1] at r2 z2 ⊢
    clear hq1 hW1 r1 b2 hI HB1 z1
    obtain ⟨W2, hW2⟩ : ∃ W2, w2.alloc (.cells #[.int .i64 C, .string T] 23) = W2 := ⟨_, rfl⟩
    have r3 : Res2 W2 w2.heap.size (.int .i64 C) (.string T) := by rw [← hW2]; exact Res2.new _ _ _ _
    have B3 : Below w.heap.size w W2 := by rw [← hW2]; exact B2.alloc B2.size _
    have r4 : Res2 W2 q1 (.int .i64 C) (.string T) := by rw [← hW2]; exact r2.below z2 (allocBelow _ _)
    have d0 := r3.c0
    have d1 := r3.c1
    have e0 := r4.c0
    have e1 := r4.c1
    have HB3 : Hid (Below w.heap.size w W2) := B3
    clear r3 r4 r2 B2 B3
    go_wp2_with fail
    refine (eqTextResult C T _).mono ?_; rintro e w3 ⟨rfl, b3⟩
    have B4 : Hid (Below w.heap.size w w3) := HB3.out.trans (b3.mono HB3.out.size)
    clear b3 HB3 d0 d1 e0 e1
    go_wp2
    go_ret
    exact ⟨rfl, B4.out⟩

set_option linter.unusedVariables false
theorem laidOut : laidOutB Try.prog = true := by kernel_rfl
theorem own : ownKnob Try.prog.godebug = none := by kernel_rfl
set_option maxRecDepth 100000 in
theorem lifted (os : Os) (started : os.Started) (H : Type) (enc : TypeId × Value → H) :
    ReturnsInHanded {} Try.checked os 3 .any (Rows.fnExactIdOfSpec.pre6 enc Try.prog Try.f3 Rows.fnExactIdOfRow.domain false) (Rows.fnExactIdOfSpec.post enc Try.prog Try.f3 false true false false) := by
  refine returnsInHanded_of_change (C := Try.checked) own started (by kernel_rfl) Try.func3
    (ChangeSpec.witness6 (enc := enc) (C := Try.checked) false ⟨#[], #[.int .i64 0, .string ByteArray.empty], []⟩ 8 (by kernel_rfl) (by kernel_rfl) (by kernel_rfl) (by kernel_rfl)) ?_
  intro W base args ds gs before hval0 hW hcnd _
  have hval : ∀ (j : Nat) t v, Try.f3.params[j]? = some t → args[j]? = some v → Value.okWide Try.prog W .any base t v := hval0
  have hW' := hW
  obtain ⟨p, q, hA0, hV, rfl, hfz, hnd⟩ := hW
  have hA : DataW.TrodAll enc Try.prog W 0 (fun _ => true) true Try.f3.params.toList args.toList ds p := hA0
  rw [Try.params3] at hA hval
  obtain ⟨v0, vs0, d0, ds0, p0, q0, hargs, rfl, rfl, h0, r0⟩ := trodAll_cons hA
  obtain ⟨v1, vs1, d1, ds1, p1, q1, rfl, rfl, rfl, h1, r1⟩ := trodAll_cons r0
  obtain ⟨rfl, rfl, rfl⟩ := trodAll_nil r1
  obtain rfl : args = #[v0, v1] := by cases args; simp_all
  obtain ⟨rfl, rfl⟩ := trodVars_none hV
  obtain ⟨x0, rfl, rfl, rfl, w0⟩ := open_int Try.underlying2 (hval 0 2 v0 rfl rfl) h0
  obtain ⟨t1, rfl, rfl, rfl, w1⟩ := open_string Try.underlying9 (hval 1 9 v1 rfl rfl) h1
  clear hA0 hval0
  refine (walk x0 t1 W ).mono fun e W' ⟨he, bel⟩ => ?_
  subst he
  exact ⟨_, rfl, _, _, _, [], _, [], hW', trodAll_mk1 (shut_bool Try.underlying4 _), (trodAll_cons_mk (shut_int Try.underlying2 w0) (trodAll_cons_mk (shut_string Try.underlying9 w1) trodAll_mk0)), rfl, bel.frame _, fun h => by cases h⟩

theorem over : Rows.fnExactIdOfRow.holds Try.pinned (OpenSpec.ofChange Rows.fnExactIdOfSpec) :=
  OpenClaim.holds_of_wide 3 Try.f3 rfl rfl rfl rfl rfl rfl rfl ⟨rfl, rfl, rfl, rfl, rfl⟩ rfl rfl rfl rfl rfl (by kernel_rfl) Try.func3 (by kernel_rfl)
    (of_decide_eq_true (by kernel_rfl)) (by unfold Func.isWrapper; first | (rw [if_pos (by decide +kernel)]; kernel_rfl) | (rw [if_neg (by decide +kernel)]; exact ⟨rfl, rfl⟩))
    (fun os started H enc _ => lifted os started H enc)

theorem proved : Rows.FnExactIdOfSaid := over
end Go.Proofs.Ytbmokagmpdgidak.IoLaw
namespace Go.Proofs.Ytbmokagmpdgidak
theorem fnExactIdOf_proved : Rows.FnExactIdOfSaid := IoLaw.proved
end Go.Proofs.Ytbmokagmpdgidak
