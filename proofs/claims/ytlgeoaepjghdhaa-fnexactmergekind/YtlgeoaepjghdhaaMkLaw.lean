/- Proved: at every three files FnExactMergeKind returns true (MergeKind answers as its specification). No condition: FnExactMergeKindSaid itself. -/
import Derived.Test.YtlgeoaepjghdhaaRows
import Derived.Test.YtlgeoaepjghdhaaLem
import Derived.Test.YtlgeoaepjghdhaaStrs
import Derived.Test.YtlgeoaepjghdhaaDTab
import Derived.Test.YtlgeoaepjghdhaaOwn
import Derived.Test.YtlgeoaepjghdhaaFr
import Derived.Test.YtlgeoaepjghdhaaHkT
import Derived.Test.YtlgeoaepjghdhaaFlL
import Derived.Test.YtlgeoaepjghdhaaFlT
import Derived.Test.YtlgeoaepjghdhaaOpFs
import Derived.Test.YtlgeoaepjghdhaaMkC
import Derived.WalkKit
import Derived.ProofKit
import Derived.OpenShut
import Derived.ShutString
import Derived.Below
import Derived.Carry
import Derived.Deep.RegionWith
import Derived.Deep.RegionHeld
import Derived.Deep.CutRange
namespace Go.Proofs.Ytlgeoaepjghdhaa.MkLaw
open Go.ChangeShapes Go.WideShapes Go.ChangeAt Go.RowKit
open Go.ChangeMaps (open_string shut_string)
open Go.Proofs.Ytlgeoaepjghdhaa.Fl

theorem zc1 {w w' : World} {g o : Nat} {v : Value} (b : Below w.heap.size w w') (h : w.cell? ⟨g, o, none⟩ = some v) : w'.cell? ⟨g, o, none⟩ = some v :=
  (Fr.ofBelow (lo := 0) (hi := 0) b).cell h (.inr (Nat.zero_le _))
/-- Three boxes. -/
theorem boxes (x y z : Array Value) (t : TypeId) (w W : World) (hW : ((w.alloc (.cells x t)).alloc (.cells y t)).alloc (.cells z t) = W) :
    Rs W w.heap.size x.toList ∧ Rs W (w.heap.size + 1) y.toList ∧ Rs W (w.heap.size + 1 + 1) z.toList ∧ Below w.heap.size w W := by
  subst hW
  have r1 := Rs.new w x t
  have r2 := Rs.new (w.alloc (.cells x t)) y t
  have r3 := Rs.new ((w.alloc (.cells x t)).alloc (.cells y t)) z t
  have f2 := Fr.ofBelow (lo := 0) (hi := 0) (allocBelow (w.alloc (.cells x t)) (.cells y t))
  have f3 := Fr.ofBelow (lo := 0) (hi := 0) (allocBelow ((w.alloc (.cells x t)).alloc (.cells y t)) (.cells z t))
  have z1 : (w.alloc (.cells x t)).heap.size = w.heap.size + 1 := by simp
  have z2 : ((w.alloc (.cells x t)).alloc (.cells y t)).heap.size = w.heap.size + 1 + 1 := by simp
  rw [z1] at r2
  rw [z2] at r3
  exact ⟨f3.rs (f2.rs r1 (.inr (Nat.zero_le _))) (.inr (Nat.zero_le _)), f3.rs r2 (.inr (Nat.zero_le _)), r3, (((Below.refl _ _).alloc (Nat.le_refl _) _).alloc (by simp) _).alloc (by simp; omega) _⟩

set_option maxRecDepth 20000 in
set_option maxHeartbeats 4000000 in
theorem walk (b1 : ByteArray) (b2 : Int) (b3 o1 : ByteArray) (o2 : Int) (o3 t1 : ByteArray) (t2 : Int) (t3 : ByteArray) (w : World) (fb : b1.size ≤ 9223372036854775807 ∧ b3.size ≤ 9223372036854775807) (fo : o1.size ≤ 9223372036854775807 ∧ o3.size ≤ 9223372036854775807) (ft : t1.size ≤ 9223372036854775807 ∧ t3.size ≤ 9223372036854775807) :
    Calls Try.prog 5 #[.agg #[.string b1, .int .i64 b2, .string b3], .agg #[.string o1, .int .i64 o2, .string o3], .agg #[.string t1, .int .i64 t2, .string t3]] w fun e w' => e = .returned (.bool true) ∧ Below w.heap.size w w' := by
  obtain ⟨W, hW⟩ : ∃ W, ((w.alloc (.cells #[.string b1, .int .i64 b2, .string b3] 39)).alloc (.cells #[.string o1, .int .i64 o2, .string o3] 39)).alloc (.cells #[.string t1, .int .i64 t2, .string t3] 39) = W := ⟨_, rfl⟩
  obtain ⟨rb, ro, rt, B⟩ := boxes _ _ _ _ _ _ hW
  have p0 := rb 0 _ rfl
  have p1 := rb 1 _ rfl
  have p2 := rb 2 _ rfl
  have q0 := ro 0 _ rfl
  have q1 := ro 1 _ rfl
  have q2 := ro 2 _ rfl
  have u0 := rt 0 _ rfl
  have u1 := rt 1 _ rfl
  have u2 := rt 2 _ rfl
  clear rb ro rt
  have hZb := fun W => Fl.szFile (b1, b2, b3) 1048576 W fb.1 fb.2 (by omega) (by omega)
  have nb : ¬ left1 1048576 (b1, b2, b3) < 0 → left1 1048576 (b1, b2, b3) ≤ 1048576 := fun h => by have := (left1_nums h).1; simp only [] at this; omega
  generalize left1 1048576 (b1, b2, b3) = N1 at hZb nb
  simp only [] at hZb
  go_enter Try.func5, Try.ntmps5
  go_wp2_with fail
  refine (hZb _).mono ?_; rintro e w1 ⟨rfl, b1'⟩
  replace p0 := zc1 b1' p0
  replace p1 := zc1 b1' p1
  replace p2 := zc1 b1' p2
  replace q0 := zc1 b1' q0
  replace q1 := zc1 b1' q1
  replace q2 := zc1 b1' q2
  replace u0 := zc1 b1' u0
  replace u1 := zc1 b1' u1
  replace u2 := zc1 b1' u2
  have B1 := below_step B (by have := B.size; omega) b1'
  clear hZb b1' hW B
  by_cases x1 : N1 < 0
  · go_wp2_with fail
    go_ret
    exact ⟨rfl, B1⟩
  have hZo := fun W => Fl.szFile (o1, o2, o3) N1 W fo.1 fo.2 (by omega) (nb (by omega))
  have no : ¬ left1 N1 (o1, o2, o3) < 0 → left1 N1 (o1, o2, o3) ≤ 1048576 := fun h => by have := (left1_nums h).1; have := nb (by omega); simp only [] at *; omega
  generalize left1 N1 (o1, o2, o3) = N2 at hZo no
  simp only [] at hZo
  clear nb
  go_wp2_with fail
  refine (hZo _).mono ?_; rintro e w2 ⟨rfl, b2'⟩
  replace p0 := zc1 b2' p0
  replace p1 := zc1 b2' p1
  replace p2 := zc1 b2' p2
  replace q0 := zc1 b2' q0
  replace q1 := zc1 b2' q1
  replace q2 := zc1 b2' q2
  replace u0 := zc1 b2' u0
  replace u1 := zc1 b2' u1
  replace u2 := zc1 b2' u2
  have B2 := below_step B1 (by have := B1.size; omega) b2'
  clear hZo b2' B1
  by_cases x2 : N2 < 0
  · go_wp2_with fail
    go_ret
    exact ⟨rfl, B2⟩
  have hZt := fun W => Fl.szFile (t1, t2, t3) N2 W ft.1 ft.2 (by omega) (no (by omega))
  generalize left1 N2 (t1, t2, t3) = N3 at hZt
  simp only [] at hZt
  clear no x1
  go_wp2_with fail
  refine (hZt _).mono ?_; rintro e w3 ⟨rfl, b3'⟩
  replace p0 := zc1 b3' p0
  replace p1 := zc1 b3' p1
  replace p2 := zc1 b3' p2
  replace q0 := zc1 b3' q0
  replace q1 := zc1 b3' q1
  replace q2 := zc1 b3' q2
  replace u0 := zc1 b3' u0
  replace u1 := zc1 b3' u1
  replace u2 := zc1 b3' u2
  have B3 := below_step B2 (by have := B2.size; omega) b3'
  clear hZt b3' B2 x2
  by_cases x3 : N3 < 0
  · go_wp2_with fail
    go_ret
    exact ⟨rfl, B3⟩
  have hS := fun W => specMergeKind b1 b3 o1 o3 t1 t3 b2 o2 t2 W
  have hI := fun W => implMergeKind b1 b3 o1 o3 t1 t3 b2 o2 t2 W
  generalize mk (b1, b2, b3) (o1, o2, o3) (t1, t2, t3) = R at hS hI
  have hRR : (R != R) = false := by simp
  have hRS : (R == R) = true := by simp
  clear fb fo ft
  go_wp2_with fail
  go_upto_region 11 with fail
  go_cut [8] from 25 to 32 (fun s wx => s = .int .i64 R ∧ ∃ W', W' = wx ∧ Below w3.heap.size w3 W')
  case first =>
    have BD : Below w3.heap.size w3 w3.drew := (Below.refl _ _).drew
    go_region_held (fun w' => w'.cell? ⟨w.heap.size, 0, none⟩ = some (.string b1) ∧ w'.cell? ⟨w.heap.size, 1, none⟩ = some (.int .i64 b2) ∧ w'.cell? ⟨w.heap.size, 2, none⟩ = some (.string b3) ∧ w'.cell? ⟨w.heap.size + 1, 0, none⟩ = some (.string o1) ∧ w'.cell? ⟨w.heap.size + 1, 1, none⟩ = some (.int .i64 o2) ∧ w'.cell? ⟨w.heap.size + 1, 2, none⟩ = some (.string o3) ∧ w'.cell? ⟨w.heap.size + 1 + 1, 0, none⟩ = some (.string t1) ∧ w'.cell? ⟨w.heap.size + 1 + 1, 1, none⟩ = some (.int .i64 t2) ∧ w'.cell? ⟨w.heap.size + 1 + 1, 2, none⟩ = some (.string t3)) (first | with_reducible exact ⟨p0, p1, p2, q0, q1, q2, u0, u1, u2⟩ | exact ⟨p0, p1, p2, q0, q1, q2, u0, u1, u2⟩)
      ((first
        | (go_at_call 22; refine (Fl.toFile _ _ _ _).mono ?_; rintro e w' ⟨rfl, b⟩; have p0 := zc1 b p0; have p1 := zc1 b p1; have p2 := zc1 b p2; have q0 := zc1 b q0; have q1 := zc1 b q1; have q2 := zc1 b q2; have u0 := zc1 b u0; have u1 := zc1 b u1; have u2 := zc1 b u2; have BD := below_step BD (by have := BD.size; omega) b; clear b)
        | (go_at_call 21; refine (hS _).mono ?_; rintro e w' ⟨rfl, b⟩; have p0 := zc1 b p0; have p1 := zc1 b p1; have p2 := zc1 b p2; have q0 := zc1 b q0; have q1 := zc1 b q1; have q2 := zc1 b q2; have u0 := zc1 b u0; have u1 := zc1 b u1; have u2 := zc1 b u2; have BD := below_step BD (by have := BD.size; omega) b; clear b)))
    all_goals (go_wp2_with fail; go_meet; exact ⟨rfl, _, rfl, BD⟩)
  case rest =>
  obtain ⟨rfl, w4, rfl, b⟩ := hcut
  replace p0 := zc1 b p0
  replace p1 := zc1 b p1
  replace p2 := zc1 b p2
  replace q0 := zc1 b q0
  replace q1 := zc1 b q1
  replace q2 := zc1 b q2
  replace u0 := zc1 b u0
  replace u1 := zc1 b u1
  replace u2 := zc1 b u2
  have B4 := below_step B3 (by have := B3.size; omega) b
  clear b hS B3
  go_upto_region 12 with fail
  go_cut [9] from 32 to 39 (fun s wx => s = .int .i64 R ∧ ∃ W', W' = wx ∧ Below w4.heap.size w4 W')
  case first =>
    have BD : Below w4.heap.size w4 w4.drew := (Below.refl _ _).drew
    go_region_held (fun w' => w'.cell? ⟨w.heap.size, 0, none⟩ = some (.string b1) ∧ w'.cell? ⟨w.heap.size, 1, none⟩ = some (.int .i64 b2) ∧ w'.cell? ⟨w.heap.size, 2, none⟩ = some (.string b3) ∧ w'.cell? ⟨w.heap.size + 1, 0, none⟩ = some (.string o1) ∧ w'.cell? ⟨w.heap.size + 1, 1, none⟩ = some (.int .i64 o2) ∧ w'.cell? ⟨w.heap.size + 1, 2, none⟩ = some (.string o3) ∧ w'.cell? ⟨w.heap.size + 1 + 1, 0, none⟩ = some (.string t1) ∧ w'.cell? ⟨w.heap.size + 1 + 1, 1, none⟩ = some (.int .i64 t2) ∧ w'.cell? ⟨w.heap.size + 1 + 1, 2, none⟩ = some (.string t3)) (first | with_reducible exact ⟨p0, p1, p2, q0, q1, q2, u0, u1, u2⟩ | exact ⟨p0, p1, p2, q0, q1, q2, u0, u1, u2⟩)
      ((first
        | (go_at_call 22; refine (Fl.toFile _ _ _ _).mono ?_; rintro e w' ⟨rfl, b⟩; have p0 := zc1 b p0; have p1 := zc1 b p1; have p2 := zc1 b p2; have q0 := zc1 b q0; have q1 := zc1 b q1; have q2 := zc1 b q2; have u0 := zc1 b u0; have u1 := zc1 b u1; have u2 := zc1 b u2; have BD := below_step BD (by have := BD.size; omega) b; clear b)
        | (go_at_call 23; refine (hI _).mono ?_; rintro e w' ⟨rfl, b⟩; have p0 := zc1 b p0; have p1 := zc1 b p1; have p2 := zc1 b p2; have q0 := zc1 b q0; have q1 := zc1 b q1; have q2 := zc1 b q2; have u0 := zc1 b u0; have u1 := zc1 b u1; have u2 := zc1 b u2; have BD := below_step BD (by have := BD.size; omega) b; clear b)))
    all_goals (go_wp2_with fail; go_meet; exact ⟨rfl, _, rfl, BD⟩)
  case rest =>
  obtain ⟨rfl, w5, rfl, b⟩ := hcut
  have B5 := below_step B4 (by have := B4.size; omega) b
  clear b hI B4 p0 p1 p2 q0 q1 q2 u0 u1 u2
  go_wp2_with fail
  go_ret
  exact ⟨rfl, B5⟩

set_option linter.unusedVariables false
theorem laidOut : laidOutB Try.prog = true := by kernel_rfl
theorem own : ownKnob Try.prog.godebug = none := by kernel_rfl
set_option maxRecDepth 100000 in
theorem lifted (os : Os) (started : os.Started) (H : Type) (enc : TypeId × Value → H) :
    ReturnsInHanded {} Try.checked os 5 .any (Rows.fnExactMergeKindSpec.pre6 enc Try.prog Try.f5 Rows.fnExactMergeKindRow.domain false) (Rows.fnExactMergeKindSpec.post enc Try.prog Try.f5 false true false false) := by
  refine returnsInHanded_of_change (C := Try.checked) own started (by kernel_rfl) Try.func5
    (ChangeSpec.witness6 (enc := enc) (C := Try.checked) false ⟨#[], #[.agg #[.string ByteArray.empty, .int .i64 0, .string ByteArray.empty], .agg #[.string ByteArray.empty, .int .i64 0, .string ByteArray.empty], .agg #[.string ByteArray.empty, .int .i64 0, .string ByteArray.empty]], []⟩ 8 (by kernel_rfl) (by kernel_rfl) (by kernel_rfl) (by kernel_rfl)) ?_
  intro W base args ds gs before hval0 hW hcnd _
  have hval : ∀ (j : Nat) t v, Try.f5.params[j]? = some t → args[j]? = some v → Value.okWide Try.prog W .any base t v := hval0
  have hW' := hW
  obtain ⟨p, q, hA0, hV, rfl, hfz, hnd⟩ := hW
  have hA : DataW.TrodAll enc Try.prog W 0 (fun _ => true) true Try.f5.params.toList args.toList ds p := hA0
  rw [Try.params5] at hA hval
  obtain ⟨v0, vs0, d0, ds0, p0, q0, hargs, rfl, rfl, h0, r0⟩ := trodAll_cons hA
  obtain ⟨v1, vs1, d1, ds1, p1, q1, rfl, rfl, rfl, h1, r1⟩ := trodAll_cons r0
  obtain ⟨v2, vs2, d2, ds2, p2, q2, rfl, rfl, rfl, h2, r2⟩ := trodAll_cons r1
  obtain ⟨rfl, rfl, rfl⟩ := trodAll_nil r2
  obtain rfl : args = #[v0, v1, v2] := by cases args; simp_all
  obtain ⟨rfl, rfl⟩ := trodVars_none hV
  obtain ⟨cs0, rfl, hcs0⟩ := okWide_struct Try.underlying39 (hval 0 39 v0 rfl rfl)
  have k0 := h0
  have lt0 : ∀ x ∈ p0, x.block < W.heap.size := by obtain ⟨m, hm⟩ := k0; exact DataW.trod_lt m _ _ _ hm
  obtain ⟨C0, hcc0, g0, n0⟩ : ∃ C : Fl.Ob, cs0.toList = [.string C.1, .int .i64 C.2.1, .string C.2.2] ∧ C.1.size ≤ 9223372036854775807 ∧ C.2.2.size ≤ 9223372036854775807 := by
    obtain ⟨m, hm⟩ := k0
    exact Fl.openF hm
  obtain ⟨x0, y0, z0⟩ := C0
  obtain rfl : cs0 = #[.string x0, .int .i64 y0, .string z0] := by
    cases cs0; simp_all
  obtain ⟨cs1, rfl, hcs1⟩ := okWide_struct Try.underlying39 (hval 1 39 v1 rfl rfl)
  have k1 := h1
  have lt1 : ∀ x ∈ p1, x.block < W.heap.size := by obtain ⟨m, hm⟩ := k1; exact DataW.trod_lt m _ _ _ hm
  obtain ⟨C1, hcc1, g1, n1⟩ : ∃ C : Fl.Ob, cs1.toList = [.string C.1, .int .i64 C.2.1, .string C.2.2] ∧ C.1.size ≤ 9223372036854775807 ∧ C.2.2.size ≤ 9223372036854775807 := by
    obtain ⟨m, hm⟩ := k1
    exact Fl.openF hm
  obtain ⟨x1, y1, z1⟩ := C1
  obtain rfl : cs1 = #[.string x1, .int .i64 y1, .string z1] := by
    cases cs1; simp_all
  obtain ⟨cs2, rfl, hcs2⟩ := okWide_struct Try.underlying39 (hval 2 39 v2 rfl rfl)
  have k2 := h2
  have lt2 : ∀ x ∈ p2, x.block < W.heap.size := by obtain ⟨m, hm⟩ := k2; exact DataW.trod_lt m _ _ _ hm
  obtain ⟨C2, hcc2, g2, n2⟩ : ∃ C : Fl.Ob, cs2.toList = [.string C.1, .int .i64 C.2.1, .string C.2.2] ∧ C.1.size ≤ 9223372036854775807 ∧ C.2.2.size ≤ 9223372036854775807 := by
    obtain ⟨m, hm⟩ := k2
    exact Fl.openF hm
  obtain ⟨x2, y2, z2⟩ := C2
  obtain rfl : cs2 = #[.string x2, .int .i64 y2, .string z2] := by
    cases cs2; simp_all
  clear hA0 hval0
  refine (walk x0 y0 z0 x1 y1 z1 x2 y2 z2 W ⟨g0, n0⟩ ⟨g1, n1⟩ ⟨g2, n2⟩).mono fun e W' ⟨he, bel⟩ => ?_
  subst he
  exact ⟨_, rfl, _, _, _, [], _, [], hW', trodAll_mk1 (shut_bool Try.underlying4 _), (trodAll_cons_mk (Below.trod laidOut (by kernel_rfl) (of_decide_eq_true (by kernel_rfl)) k0 bel lt0) (trodAll_cons_mk (Below.trod laidOut (by kernel_rfl) (of_decide_eq_true (by kernel_rfl)) k1 bel lt1) (trodAll_cons_mk (Below.trod laidOut (by kernel_rfl) (of_decide_eq_true (by kernel_rfl)) k2 bel lt2) trodAll_mk0))), rfl, bel.frame _, fun h => by cases h⟩

theorem over : Rows.fnExactMergeKindRow.holds Try.pinned (OpenSpec.ofChange Rows.fnExactMergeKindSpec) :=
  OpenClaim.holds_of_wide 5 Try.f5 rfl rfl rfl rfl rfl rfl rfl ⟨rfl, rfl, rfl, rfl, rfl⟩ rfl rfl rfl rfl rfl (by kernel_rfl) Try.func5 (by kernel_rfl)
    (of_decide_eq_true (by kernel_rfl)) (by unfold Func.isWrapper; first | (rw [if_pos (by decide +kernel)]; kernel_rfl) | (rw [if_neg (by decide +kernel)]; exact ⟨rfl, rfl⟩))
    (fun os started H enc _ => lifted os started H enc)

theorem proved : Rows.FnExactMergeKindSaid := over
end Go.Proofs.Ytlgeoaepjghdhaa.MkLaw
namespace Go.Proofs.Ytlgeoaepjghdhaa
theorem fnExactMergeKind_proved : Rows.FnExactMergeKindSaid := MkLaw.proved
end Go.Proofs.Ytlgeoaepjghdhaa
