/- Proved: at every list of objects and every list of files FnExactHasBlobs returns true (HasBlobs answers as its specification and changes no argument). No condition: FnExactHasBlobsSaid itself. -/
import Derived.Test.YtlgeoaepjghdhaaRows
import Derived.Test.YtlgeoaepjghdhaaLem
import Derived.Test.YtlgeoaepjghdhaaStrs
import Derived.Test.YtlgeoaepjghdhaaDTab
import Derived.Test.YtlgeoaepjghdhaaOwn
import Derived.Test.YtlgeoaepjghdhaaFr
import Derived.Test.YtlgeoaepjghdhaaObL
import Derived.Test.YtlgeoaepjghdhaaObT
import Derived.Test.YtlgeoaepjghdhaaOpO
import Derived.Test.YtlgeoaepjghdhaaFlL
import Derived.Test.YtlgeoaepjghdhaaFlT
import Derived.Test.YtlgeoaepjghdhaaOpF
import Derived.Test.YtlgeoaepjghdhaaHbC
import Derived.WalkKit
import Derived.ProofKit
import Derived.OpenShut
import Derived.ShutString
import Derived.Below
import Derived.Carry
namespace Go.Proofs.Ytlgeoaepjghdhaa.HbLaw
open Go.ChangeShapes Go.WideShapes Go.ChangeAt Go.RowKit

set_option maxRecDepth 20000 in
set_option maxHeartbeats 2000000 in
theorem walk (a : Option Addr) (c : Nat) (l : List Ob) (fa : Option Addr) (fc : Nat) (fs : List Fl.Ob) (w : World) (h : OB w.heap.size w a l) (hf : FitsO l) (hn : l.length ≤ 9223372036854775807) (h2 : Fl.OB w.heap.size w fa fs) (hf2 : Fl.FitsO fs) (hn2 : fs.length ≤ 9223372036854775807) :
    Calls Try.prog 7 #[.slice a l.length c, .slice fa fs.length fc] w fun e w' => e = .returned (.bool true) ∧ Below w.heap.size w w' := by
  have hZ := szObjectS a c l 1048576 w h hf hn (by omega) (by omega)
  by_cases hx : leftO 1048576 l < 0
  · go_enter Try.func7, Try.ntmps7
    go_wp2_with fail
    refine hZ.mono ?_; rintro e w1 ⟨rfl, b1⟩
    clear hZ
    go_wp2_with fail
    go_ret
    exact ⟨rfl, b1⟩
  obtain ⟨hs, hls⟩ := leftO_nums hx (by omega)
  have hbd := leftO_bd hx
  have hZ2 := fun W p => Fl.szFileS fa fc fs (leftO 1048576 l) W p hf2 hn2 (by omega) (by omega)
  have hnum : ¬ Fl.leftO (leftO 1048576 l) fs < 0 → fs.length ≤ 1048576 := fun q => (Fl.leftO_nums q (by omega)).2
  generalize leftO 1048576 l = N at hZ hx hZ2 hnum
  generalize Fl.leftO N fs = M at hZ2 hnum
  clear hbd
  go_enter Try.func7, Try.ntmps7
  go_wp2_with fail
  refine hZ.mono ?_; rintro e w1 ⟨rfl, b1⟩
  have S1 := b1.size
  have A1 := h.below b1
  have G1 := h2.below b1
  have BB1 := b1
  clear hZ b1 h h2
  go_wp2_with fail
  refine (hZ2 _ (G1.mono (by omega))).mono ?_; rintro e w2 ⟨rfl, b2⟩
  have S2 := b2.size
  have A2 := A1.below b2
  have G2 := G1.below b2
  have BB2 := below_step BB1 (by omega) b2
  clear hZ2 b2 A1 G1 BB1
  by_cases hy : M < 0
  · go_wp2_with fail
    go_ret
    exact ⟨rfl, BB2⟩
  have hls2 := hnum (by omega)
  have hT := fun W h => toObjectS a c l W h hls
  have hT2 := fun W h => Fl.toFileS fa fc fs W h hls2
  have hS := fun (a : Option Addr) (c : Nat) (fa : Option Addr) (fc : Nat) W p q => specHasBlobs a c l fa fc fs W p q hs hls hls2
  have hI := fun (a : Option Addr) (c : Nat) (fa : Option Addr) (fc : Nat) W p q => implHasBlobs a c l fa fc fs W p q hs hls hls2
  generalize hasB l fs = R at hS hI
  have hRR : (R != R) = false := by cases R <;> rfl
  have hRS : (R == R) = true := by cases R <;> rfl
  clear hnum hx
  go_wp2_with fail
  refine (hT _ (A2.mono (by omega))).mono ?_; rintro e w3 ⟨rfl, o3, b3⟩
  have S3 := b3.size
  have A3 := A2.below b3
  have G3 := G2.below b3
  have BB3 := below_step BB2 (by omega) b3
  clear b3 A2 G2 BB2
  go_wp2_with fail
  refine (hT2 _ (G3.mono (by omega))).mono ?_; rintro e w4 ⟨rfl, o4, b4⟩
  have S4 := b4.size
  have A4 := A3.below b4
  have G4 := G3.below b4
  have BB4 := below_step BB3 (by omega) b4
  have r3 := (OB.of o3).below b4
  have r4 := Fl.OB.of o4
  clear b4 A3 G3 BB3 o3 o4
  go_wp2_with fail
  refine (hS _ _ _ _ _ (r3.mono (by omega)) r4).mono ?_; rintro e w5 ⟨rfl, b5⟩
  have S5 := b5.size
  have A5 := A4.below b5
  have G5 := G4.below b5
  have BB5 := below_step BB4 (by omega) b5
  clear b5 A4 G4 BB4 r3 r4 hS
  go_wp2_with fail
  refine (hT _ (A5.mono (by omega))).mono ?_; rintro e w6 ⟨rfl, o6, b6⟩
  have S6 := b6.size
  have A6 := A5.below b6
  have G6 := G5.below b6
  have BB6 := below_step BB5 (by omega) b6
  clear b6 A5 G5 BB5
  go_wp2_with fail
  refine (hT2 _ (G6.mono (by omega))).mono ?_; rintro e w7 ⟨rfl, o7, b7⟩
  have S7 := b7.size
  have A7 := A6.below b7
  have G7 := G6.below b7
  have BB7 := below_step BB6 (by omega) b7
  replace o6 := o6.kept (grownOfBelow b7 none) (.inr (by simp [Value.ownBlock]))
  have r6 := OB.of o6
  have r7 := Fl.OB.of o7
  clear b7 A6 G6 BB6
  go_wp2_with fail
  refine (hI _ _ _ _ _ r6 r7).mono ?_; rintro e w8 ⟨rfl, b8⟩
  have S8 := b8.size
  have A8 := A7.below b8
  have G8 := G7.below b8
  have BB8 := below_step BB7 (by omega) b8
  replace o6 := o6.kept (grownOfBelow b8 none) (.inr (by simp [Value.ownBlock]))
  replace o7 := o7.kept (grownOfBelow b8 none) (.inr (by simp [Value.ownBlock]))
  clear b8 A7 G7 BB7 r6 r7 hI
  go_wp2_with fail
  refine (hT _ (A8.mono (by omega))).mono ?_; rintro e w9 ⟨rfl, o9, b9⟩
  have S9 := b9.size
  have G9 := G8.below b9
  have BB9 := below_step BB8 (by omega) b9
  replace o6 := o6.kept (grownOfBelow b9 none) (.inr (by simp [Value.ownBlock]))
  replace o7 := o7.kept (grownOfBelow b9 none) (.inr (by simp [Value.ownBlock]))
  have r6 := OB.of o6
  have r9 := OB.of o9
  clear b9 A8 G8 BB8 hT o6 o9
  go_wp2_with fail
  refine (eqObjectS _ _ _ _ l _ r6 r9 hls).mono ?_; rintro e v1 ⟨rfl, b10⟩
  have S10 := b10.size
  have G10 := G9.below b10
  have BB10 := below_step BB9 (by omega) b10
  replace o7 := o7.kept (grownOfBelow b10 none) (.inr (by simp [Value.ownBlock]))
  clear b10 G9 BB9 r6 r9
  go_wp2_with fail
  refine (hT2 _ (G10.mono (by omega))).mono ?_; rintro e v2 ⟨rfl, o11, b11⟩
  have S11 := b11.size
  have BB11 := below_step BB10 (by omega) b11
  replace o7 := o7.kept (grownOfBelow b11 none) (.inr (by simp [Value.ownBlock]))
  have r7 := Fl.OB.of o7
  have r11 := Fl.OB.of o11
  clear b11 G10 BB10 hT2 o7 o11
  go_wp2_with fail
  refine (Fl.eqFileS _ _ _ _ fs _ r7 r11 hls2).mono ?_; rintro e v3 ⟨rfl, b12⟩
  have BB12 := below_step BB11 (by omega) b12
  clear b12 r7 r11 BB11
  go_wp2_with fail
  go_ret
  exact ⟨rfl, BB12⟩

set_option linter.unusedVariables false
theorem laidOut : laidOutB Try.prog = true := by kernel_rfl
theorem own : ownKnob Try.prog.godebug = none := by kernel_rfl
set_option maxRecDepth 100000 in
theorem lifted (os : Os) (started : os.Started) (H : Type) (enc : TypeId × Value → H) :
    ReturnsInHanded {} Try.checked os 7 .any (Rows.fnExactHasBlobsSpec.pre6 enc Try.prog Try.f7 Rows.fnExactHasBlobsRow.domain false) (Rows.fnExactHasBlobsSpec.post enc Try.prog Try.f7 false true false false) := by
  refine returnsInHanded_of_change (C := Try.checked) own started (by kernel_rfl) Try.func7
    (ChangeSpec.witness6 (enc := enc) (C := Try.checked) false ⟨#[], #[.slice none 0 0, .slice none 0 0], []⟩ 8 (by kernel_rfl) (by kernel_rfl) (by kernel_rfl) (by kernel_rfl)) ?_
  intro W base args ds gs before hval0 hW hcnd _
  have hval : ∀ (j : Nat) t v, Try.f7.params[j]? = some t → args[j]? = some v → Value.okWide Try.prog W .any base t v := hval0
  have hW' := hW
  obtain ⟨p, q, hA0, hV, rfl, hfz, hnd⟩ := hW
  have hA : DataW.TrodAll enc Try.prog W 0 (fun _ => true) true Try.f7.params.toList args.toList ds p := hA0
  rw [Try.params7] at hA hval
  obtain ⟨v0, vs0, d0, ds0, p0, q0, hargs, rfl, rfl, h0, r0⟩ := trodAll_cons hA
  obtain ⟨v1, vs1, d1, ds1, p1, q1, rfl, rfl, rfl, h1, r1⟩ := trodAll_cons r0
  obtain ⟨rfl, rfl, rfl⟩ := trodAll_nil r1
  obtain rfl : args = #[v0, v1] := by cases args; simp_all
  obtain ⟨rfl, rfl⟩ := trodVars_none hV
  obtain ⟨a0, len0, cap0, rfl⟩ := okWide_slice Try.underlying55 (hval 0 55 v0 rfl rfl)
  have k0 := h0
  have lt0 : ∀ x ∈ p0, x.block < W.heap.size := by obtain ⟨m, hm⟩ := k0; exact DataW.trod_lt m _ _ _ hm
  obtain ⟨ss0, rfl, w0, ft0, n0⟩ := openOB h0
  obtain ⟨a1, len1, cap1, rfl⟩ := okWide_slice Try.underlying56 (hval 1 56 v1 rfl rfl)
  have k1 := h1
  have lt1 : ∀ x ∈ p1, x.block < W.heap.size := by obtain ⟨m, hm⟩ := k1; exact DataW.trod_lt m _ _ _ hm
  obtain ⟨ss1, rfl, w1, ft1, n1⟩ := Fl.openOB h1
  clear hA0 hval0
  refine (walk a0 cap0 ss0 a1 cap1 ss1 W w0 ft0 n0 w1 ft1 n1).mono fun e W' ⟨he, bel⟩ => ?_
  subst he
  exact ⟨_, rfl, _, _, _, [], _, [], hW', trodAll_mk1 (shut_bool Try.underlying4 _), (trodAll_cons_mk (Below.trod laidOut (by kernel_rfl) (of_decide_eq_true (by kernel_rfl)) k0 bel lt0) (trodAll_cons_mk (Below.trod laidOut (by kernel_rfl) (of_decide_eq_true (by kernel_rfl)) k1 bel lt1) trodAll_mk0)), rfl, bel.frame _, fun h => by cases h⟩

theorem over : Rows.fnExactHasBlobsRow.holds Try.pinned (OpenSpec.ofChange Rows.fnExactHasBlobsSpec) :=
  OpenClaim.holds_of_wide 7 Try.f7 rfl rfl rfl rfl rfl rfl rfl ⟨rfl, rfl, rfl, rfl, rfl⟩ rfl rfl rfl rfl rfl (by kernel_rfl) Try.func7 (by kernel_rfl)
    (of_decide_eq_true (by kernel_rfl)) (by unfold Func.isWrapper; first | (rw [if_pos (by decide +kernel)]; kernel_rfl) | (rw [if_neg (by decide +kernel)]; exact ⟨rfl, rfl⟩))
    (fun os started H enc _ => lifted os started H enc)

theorem proved : Rows.FnExactHasBlobsSaid := over
end Go.Proofs.Ytlgeoaepjghdhaa.HbLaw
namespace Go.Proofs.Ytlgeoaepjghdhaa
theorem fnExactHasBlobs_proved : Rows.FnExactHasBlobsSaid := HbLaw.proved
end Go.Proofs.Ytlgeoaepjghdhaa
