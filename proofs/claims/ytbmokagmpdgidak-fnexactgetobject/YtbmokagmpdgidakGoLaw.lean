/- Proved: at every list of objects, every kind and every id FnExactGetObject returns true (GetObject answers as its specification and changes no argument). No condition: FnExactGetObjectSaid itself. -/
import Derived.Test.YtbmokagmpdgidakRows
import Derived.Test.YtbmokagmpdgidakLem
import Derived.Test.YtbmokagmpdgidakStrs
import Derived.Test.YtbmokagmpdgidakDTab
import Derived.Test.YtbmokagmpdgidakOwn
import Derived.Test.YtbmokagmpdgidakFr
import Derived.Test.YtbmokagmpdgidakIn
import Derived.Test.YtbmokagmpdgidakHkT
import Derived.Test.YtbmokagmpdgidakIdM
import Derived.Test.YtbmokagmpdgidakObL
import Derived.Test.YtbmokagmpdgidakObT
import Derived.Test.YtbmokagmpdgidakOpO
import Derived.Test.YtbmokagmpdgidakSfC
import Derived.Test.YtbmokagmpdgidakGtS
import Derived.Test.YtbmokagmpdgidakGoC
import Derived.WalkKit
import Derived.ProofKit
import Derived.OpenShut
import Derived.ShutString
import Derived.Below
import Derived.Carry
namespace Go.Proofs.Ytbmokagmpdgidak.GoLaw
open Go.ChangeShapes Go.WideShapes Go.ChangeAt Go.RowKit
open Go.ChangeMaps (open_string shut_string)

set_option maxHeartbeats 1000000 in
theorem eqObjectResult (c : Int) (s t : ByteArray) (k : Int) (w : World) :
    Calls Try.prog 27 #[.agg #[.int .i64 c, .string s, .int .i64 k, .string t], .agg #[.int .i64 c, .string s, .int .i64 k, .string t]] w fun e w' => e = .returned (.bool true) ∧ Below w.heap.size w w' := by
  have hE := fun w => eqObject s t k w
  go_enter Try.func27, Try.ntmps27
  go_wp2_with fail
  refine (hE _).mono ?_; rintro e w1 ⟨rfl, b1⟩
  have B : Hid (Below w.heap.size w w1) := (((Below.refl _ _).alloc (Nat.le_refl _) _).alloc (by simp) _).trans (b1.mono (by simp; omega))
  clear b1
  go_wp2
  go_ret
  exact ⟨rfl, B.out⟩

set_option maxRecDepth 20000 in
set_option maxHeartbeats 4000000 in
theorem walk (a : Option Addr) (c : Nat) (l : List Ob) (kd : Int) (id : ByteArray) (w : World) (h : OB w.heap.size w a l) (hf : FitsO l) (hn : l.length ≤ 9223372036854775807) :
    Calls Try.prog 7 #[.slice a l.length c, .int .i64 kd, .string id] w fun e w' => e = .returned (.bool true) ∧ Below w.heap.size w w' := by
  by_cases hbig : (1048576 : Int) < (id.size : Int)
  · go_enter Try.func7, Try.ntmps7
    go_wp2
    go_ret
    exact ⟨rfl, Below.refl _ _⟩
  have hZ := szObjectS a c l 1048576 w h hf hn (by omega) (by omega)
  by_cases hx : leftO 1048576 l < 0
  · go_enter Try.func7, Try.ntmps7
    go_wp2_with fail
    refine hZ.mono ?_; rintro e w1 ⟨rfl, b1⟩
    clear hZ
    go_wp2_with fail
    go_ret
    exact ⟨rfl, b1⟩
  obtain ⟨hs, hls⟩ := leftO_nums hx (by omega)
  have hS := fun (a : Option Addr) (c : Nat) W h => specGetObject a c l kd id W h hs hls
  have hI := fun (a : Option Addr) (c : Nat) W h => implGetObject a c l kd id W h hs hls
  have hT := fun W h => toObjectS a c l W h hls
  obtain ⟨v, hv⟩ : ∃ v, goR l kd id = v := ⟨_, rfl⟩
  obtain ⟨o, ho⟩ : ∃ o, goO l kd id = o := ⟨_, rfl⟩
  rw [hv, ho] at hS hI
  obtain ⟨s, k, t⟩ := o
  clear hv ho
  go_enter Try.func7, Try.ntmps7
  go_wp2_with fail
  refine hZ.mono ?_; rintro e w1 ⟨rfl, b1⟩
  have A1 := h.below b1
  have S1 := b1.size
  have BB1 := b1
  clear hZ b1 h
  go_wp2_with fail
  refine (hT _ (A1.mono S1)).mono ?_; rintro e w2 ⟨rfl, o2, b2⟩
  have A2 := A1.below b2
  have S2 := b2.size
  have BB2 := below_step BB1 S1 b2
  have r2 := OB.of o2
  clear o2 b2 A1 BB1
  go_wp2_with fail
  refine (hS _ _ _ r2).mono ?_; rintro e w3 ⟨rfl, b3⟩
  obtain ⟨W3, hW3⟩ : ∃ W, w3.alloc (.cells #[.int .i64 v, .string s, .int .i64 k, .string t] 45) = W := ⟨_, rfl⟩
  have bW : Below w3.heap.size w3 W3 := by rw [← hW3]; exact allocBelow _ _
  have zW : w3.heap.size < W3.heap.size := by rw [← hW3]; simp
  have u3 : Rf W3 w3.heap.size [.int .i64 v, .string s, .int .i64 k, .string t] := by rw [← hW3]; exact Rf.new _ _ _
  have A3 := (A2.below b3).below bW
  have S3 := b3.size
  have BB3 := below_step (below_step BB2 (by omega) b3) (by omega) bW
  clear b3 A2 BB2 r2 bW
  go_wp2_with fail
  refine (hT _ (A3.mono (by omega))).mono ?_; rintro e w4 ⟨rfl, o4, b4⟩
  have A4 := A3.below b4
  have S4 := b4.size
  have u4 := u3.below zW b4
  have BB4 := below_step BB3 (by omega) b4
  have r4 := OB.of o4
  obtain ⟨q, hq⟩ : ∃ q, w3.heap.size = q := ⟨_, rfl⟩
  have hq4 : q < w4.heap.size := by omega
  have hw4 : w.heap.size ≤ w4.heap.size := by omega
  rw [hq] at u4 ⊢
  clear b4 A3 BB3 u3 hW3 zW hq S1 S2 S3 S4
  go_wp2_with fail
  refine (hI _ _ _ r4).mono ?_; rintro e w5 ⟨rfl, b5⟩
  obtain ⟨W5, hW5⟩ : ∃ W, w5.alloc (.cells #[.int .i64 v, .string s, .int .i64 k, .string t] 45) = W := ⟨_, rfl⟩
  have bW : Below w5.heap.size w5 W5 := by rw [← hW5]; exact allocBelow _ _
  have u6 : Rf W5 w5.heap.size [.int .i64 v, .string s, .int .i64 k, .string t] := by rw [← hW5]; exact Rf.new _ _ _
  have S5 := b5.size
  have S6 := bW.size
  have u5 := (u4.below hq4 b5).below (by omega) bW
  have A5 := (A4.below b5).below bW
  have BB5 := below_step (below_step BB4 hw4 b5) (by omega) bW
  have o5 := (o4.kept (grownOfBelow b5 none) (.inr (by simp [Value.ownBlock]))).kept (grownOfBelow bW none) (.inr (by simp [Value.ownBlock]))
  have d0 := u5.at_ 0 _ rfl
  have d1 := u5.at_ 1 _ rfl
  have d2 := u5.at_ 2 _ rfl
  have d3 := u5.at_ 3 _ rfl
  have e0 := u6.at_ 0 _ rfl
  have e1 := u6.at_ 1 _ rfl
  have e2 := u6.at_ 2 _ rfl
  have e3 := u6.at_ 3 _ rfl
  clear b5 A4 BB4 o4 r4 u4 u5 u6 bW
  go_wp2_with fail
  refine (eqObjectResult v s t k _).mono ?_; rintro e w6 ⟨rfl, b6⟩
  have A6 := A5.below b6
  have S7 := b6.size
  have BB6 := below_step BB5 (by omega) b6
  have o6 := o5.kept (grownOfBelow b6 none) (.inr (by simp [Value.ownBlock]))
  clear b6 A5 BB5 o5 d0 d1 d2 d3 e0 e1 e2 e3 hW5
  go_wp2_with fail
  refine (hT _ (A6.mono (by omega))).mono ?_; rintro e w7 ⟨rfl, o7, b7⟩
  have S8 := b7.size
  have BB7 := below_step BB6 (by omega) b7
  have o8 := o6.kept (grownOfBelow b7 none) (.inr (by simp [Value.ownBlock]))
  have r7 := OB.of o7
  have r8 := OB.of o8
  clear b7 A6 BB6 o6 o7 o8
  go_wp2_with fail
  refine (eqObjectS _ _ _ _ l _ r8 r7 hls).mono ?_; rintro e w9 ⟨rfl, b9⟩
  have BB9 := below_step BB7 (by omega) b9
  clear b9 r7 r8 BB7
  go_wp2_with fail
  go_ret
  exact ⟨rfl, BB9⟩

set_option linter.unusedVariables false
theorem laidOut : laidOutB Try.prog = true := by kernel_rfl
theorem own : ownKnob Try.prog.godebug = none := by kernel_rfl
set_option maxRecDepth 100000 in
theorem lifted (os : Os) (started : os.Started) (H : Type) (enc : TypeId × Value → H) :
    ReturnsInHanded {} Try.checked os 7 .any (Rows.fnExactGetObjectSpec.pre6 enc Try.prog Try.f7 Rows.fnExactGetObjectRow.domain false) (Rows.fnExactGetObjectSpec.post enc Try.prog Try.f7 false true false false) := by
  refine returnsInHanded_of_change (C := Try.checked) own started (by kernel_rfl) Try.func7
    (ChangeSpec.witness6 (enc := enc) (C := Try.checked) false ⟨#[], #[.slice none 0 0, .int .i64 0, .string ByteArray.empty], []⟩ 8 (by kernel_rfl) (by kernel_rfl) (by kernel_rfl) (by kernel_rfl)) ?_
  intro W base args ds gs before hval0 hW hcnd _
  have hval : ∀ (j : Nat) t v, Try.f7.params[j]? = some t → args[j]? = some v → Value.okWide Try.prog W .any base t v := hval0
  have hW' := hW
  obtain ⟨p, q, hA0, hV, rfl, hfz, hnd⟩ := hW
  have hA : DataW.TrodAll enc Try.prog W 0 (fun _ => true) true Try.f7.params.toList args.toList ds p := hA0
  rw [Try.params7] at hA hval
  obtain ⟨v0, vs0, d0, ds0, p0, q0, hargs, rfl, rfl, h0, r0⟩ := trodAll_cons hA
  obtain ⟨v1, vs1, d1, ds1, p1, q1, rfl, rfl, rfl, h1, r1⟩ := trodAll_cons r0
  obtain ⟨v2, vs2, d2, ds2, p2, q2, rfl, rfl, rfl, h2, r2⟩ := trodAll_cons r1
  obtain ⟨rfl, rfl, rfl⟩ := trodAll_nil r2
  obtain rfl : args = #[v0, v1, v2] := by cases args; simp_all
  obtain ⟨rfl, rfl⟩ := trodVars_none hV
  obtain ⟨a0, len0, cap0, rfl⟩ := okWide_slice Try.underlying28 (hval 0 28 v0 rfl rfl)
  have k0 := h0
  have lt0 : ∀ x ∈ p0, x.block < W.heap.size := by obtain ⟨m, hm⟩ := k0; exact DataW.trod_lt m _ _ _ hm
  obtain ⟨ss0, rfl, w0, ft0, n0⟩ := openOB h0
  obtain ⟨x1, rfl, rfl, rfl, w1⟩ := open_int Try.underlying2 (hval 1 2 v1 rfl rfl) h1
  obtain ⟨t2, rfl, rfl, rfl, w2⟩ := open_string Try.underlying9 (hval 2 9 v2 rfl rfl) h2
  clear hA0 hval0
  refine (walk a0 cap0 ss0 x1 t2 W w0 ft0 n0).mono fun e W' ⟨he, bel⟩ => ?_
  subst he
  exact ⟨_, rfl, _, _, _, [], _, [], hW', trodAll_mk1 (shut_bool Try.underlying4 _), (trodAll_cons_mk (Below.trod laidOut (by kernel_rfl) (of_decide_eq_true (by kernel_rfl)) k0 bel lt0) (trodAll_cons_mk (shut_int Try.underlying2 w1) (trodAll_cons_mk (shut_string Try.underlying9 w2) trodAll_mk0))), rfl, bel.frame _, fun h => by cases h⟩

theorem over : Rows.fnExactGetObjectRow.holds Try.pinned (OpenSpec.ofChange Rows.fnExactGetObjectSpec) :=
  OpenClaim.holds_of_wide 7 Try.f7 rfl rfl rfl rfl rfl rfl rfl ⟨rfl, rfl, rfl, rfl, rfl⟩ rfl rfl rfl rfl rfl (by kernel_rfl) Try.func7 (by kernel_rfl)
    (of_decide_eq_true (by kernel_rfl)) (by unfold Func.isWrapper; first | (rw [if_pos (by decide +kernel)]; kernel_rfl) | (rw [if_neg (by decide +kernel)]; exact ⟨rfl, rfl⟩))
    (fun os started H enc _ => lifted os started H enc)

theorem proved : Rows.FnExactGetObjectSaid := over
end Go.Proofs.Ytbmokagmpdgidak.GoLaw
namespace Go.Proofs.Ytbmokagmpdgidak
theorem fnExactGetObject_proved : Rows.FnExactGetObjectSaid := GoLaw.proved
end Go.Proofs.Ytbmokagmpdgidak
