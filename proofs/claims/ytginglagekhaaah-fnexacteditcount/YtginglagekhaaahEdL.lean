/- Proved: at every two lists of lines FnExactEditCount returns true (EditCount answers as its specification, field by field, and changes neither list). No condition: FnExactEditCountSaid itself. -/
import Derived.Test.YtginglagekhaaahRows
import Derived.Test.YtginglagekhaaahLem
import Derived.Test.YtginglagekhaaahStrs
import Derived.Test.YtginglagekhaaahLFLem
import Derived.Test.YtginglagekhaaahLF
import Derived.Test.YtginglagekhaaahCom
import Derived.Test.YtginglagekhaaahAsked
import Derived.Test.YtginglagekhaaahCoC
import Derived.Test.YtginglagekhaaahEdC
import Derived.WalkKit
import Derived.ProofKit
import Derived.OpenShut
import Derived.Below
import Derived.Carry
namespace Go.Proofs.Ytginglagekhaaah.EdLaw
open Go.ChangeShapes Go.WideShapes Go.ChangeAt Go.RowKit

set_option maxHeartbeats 1600000 in
theorem walk (a1 a2 : Option Addr) (c1 c2 : Nat) (xs ys : List ByteArray) (w : World) (h1 : SS w a1 xs) (h2 : SS w a2 ys) (hn : xs.length ≤ 9223372036854775807) (hm : ys.length ≤ 9223372036854775807) :
    Calls Try.prog 4 #[.slice a1 xs.length c1, .slice a2 ys.length c2] w fun e w' => e = .returned (.bool true) ∧ Below w.heap.size w w' := by
  by_cases hx : left 1048576 xs < 0
  · go_enter Try.func4, Try.ntmps4
    go_wp2_with (go_at_call 7; refine (szStringS _ _ _ _ _ h1 hn (by omega) (by omega)).mono ?_; rintro e w' ⟨rfl, rfl⟩)
    go_ret
    exact ⟨rfl, Below.refl _ _⟩
  obtain ⟨e1, g1, k1⟩ := left_ge hx
  have ht := tot_nonneg xs
  have hl0 : 0 ≤ left 1048576 xs := by omega
  have hl1 : left 1048576 xs ≤ 1048576 := by omega
  by_cases hy : left (left 1048576 xs) ys < 0
  · clear e1 hx
    go_enter Try.func4, Try.ntmps4
    go_wp2_with fail
    refine (szStringS _ _ _ _ _ h1 hn (by omega) (by omega)).mono ?_; rintro e w' ⟨rfl, rfl⟩
    go_wp2_with fail
    refine (szStringS _ _ _ _ _ h2 hm hl0 hl1).mono ?_; rintro e w' ⟨rfl, rfl⟩
    go_wp2_with fail
    go_ret
    exact ⟨rfl, Below.refl _ _⟩
  obtain ⟨e2, g2, k2⟩ := left_ge hy
  have ht2 := tot_nonneg ys
  have hxs : xs.length ≤ 1048576 := by omega
  have hys : ys.length ≤ 1048576 := by omega
  have htx : tot xs ≤ 1048576 := by omega
  have hty : tot ys ≤ 1048576 := by omega
  have hS := fun (a1 a2 : Option Addr) (c1 c2 : Nat) w h1 h2 => specEditCount a1 a2 c1 c2 xs ys w h1 h2 hxs htx hys hty
  have hI := fun (a1 a2 : Option Addr) (c1 c2 : Nat) w h1 h2 => implEditCount a1 a2 c1 c2 xs ys w h1 h2 hxs hys
  obtain ⟨r, hr⟩ : ∃ r, asked xs ys = r := ⟨_, rfl⟩
  obtain ⟨v, hv⟩ : ∃ v, edV xs ys = v := ⟨_, rfl⟩
  rw [hr, hv] at hS hI
  clear e1 e2 g1 k1 g2 k2 hr hv ht ht2
  go_enter Try.func4, Try.ntmps4
  go_wp2_with fail
  refine (szStringS _ _ _ _ _ h1 hn (by omega) (by omega)).mono ?_; rintro e w ⟨rfl, rfl⟩
  go_wp2_with fail
  refine (szStringS _ _ _ _ _ h2 hm hl0 hl1).mono ?_; rintro e w ⟨rfl, rfl⟩
  go_wp2_with fail
  refine (toStringS' _ _ _ _ h1 hxs).mono ?_; rintro e w1 ⟨rfl, x1, b1, z1⟩
  have h1a := h1.below b1
  have h2a := h2.below b1
  go_wp2_with fail
  refine (toStringS' _ _ _ _ h2a hys).mono ?_; rintro e w2 ⟨rfl, y1, b2, z2⟩
  have h1b := h1a.below b2
  have h2b := h2a.below b2
  have BB2 := below_step b1 (Nat.le_of_lt z1) b2
  go_wp2_with fail
  refine (hS _ _ _ _ _ (x1.below b2) y1).mono ?_; rintro e w3 ⟨rfl, b3⟩
  have h1c := h1b.below b3
  have h2c := h2b.below b3
  have BB3 := below_step BB2 (by omega) b3
  have S3 := b3.size
  clear h1 h2 h1a h2a h1b h2b b1 b2 b3 BB2 x1 y1
  go_wp2_with fail
  obtain ⟨W3, hW3⟩ : ∃ W3, w3.alloc (.cells #[.int .i64 r, .int .i64 v] 33) = W3 := ⟨_, rfl⟩
  have B3 : Below w3.heap.size w3 W3 := by rw [← hW3]; exact allocBelow _ _
  have Z3 : Hid (W3.heap.size = w3.heap.size + 1) := by show W3.heap.size = _; rw [← hW3]; simp
  have r3 : Res2 W3 w3.heap.size (.int .i64 r) (.int .i64 v) := by rw [← hW3]; exact Res2.new _ _ _ _
  rw [hW3]
  have h1d := h1c.below B3
  have h2d := h2c.below B3
  have BB4 := below_step BB3 (by omega) B3
  have S4 := B3.size
  clear hW3 h1c h2c B3 BB3
  refine (toStringS' _ _ _ _ h1d hxs).mono ?_; rintro e w5 ⟨rfl, x2, b5, z5⟩
  have h1e := h1d.below b5
  have h2e := h2d.below b5
  have r5 := r3.below (by have := Z3.out; omega) b5
  have BB5 := below_step BB4 (by omega) b5
  go_wp2_with fail
  refine (toStringS' _ _ _ _ h2e hys).mono ?_; rintro e w6 ⟨rfl, y2, b6, z6⟩
  have h1f := h1e.below b6
  have h2f := h2e.below b6
  have x2f := x2.below b6
  have r6 := r5.below (by have := Z3.out; omega) b6
  have BB6 := below_step BB5 (by omega) b6
  clear h1d h2d h1e h2e r3 r5 BB4 BB5 b5 x2
  go_wp2_with fail
  refine (hI _ _ _ _ _ x2f y2).mono ?_; rintro e w7 ⟨rfl, b7⟩
  have h1g := h1f.below b7
  have h2g := h2f.below b7
  have x2g := x2f.below b7
  have y2g := y2.below b7
  have hlt6 : w3.heap.size < w6.heap.size := by have := Z3.out; omega
  have r7 := r6.below hlt6 b7
  have BB7 := below_step BB6 (by omega) b7
  have S7 := b7.size
  have hlt7 : w3.heap.size < w7.heap.size := Nat.lt_of_lt_of_le hlt6 S7
  have d0 : ∀ o, (w7.alloc o).cell? ⟨w3.heap.size, 0, none⟩ = some (.int .i64 r) := fun o => by rw [World.cell?_alloc_past _ _ _ hlt7]; exact r7.c0
  have d1 : ∀ o, (w7.alloc o).cell? ⟨w3.heap.size, 1, none⟩ = some (.int .i64 v) := fun o => by rw [World.cell?_alloc_past _ _ _ hlt7]; exact r7.c1
  clear h1f h2f x2f y2 r6 BB6 b6 b7 Z3 r7 hS hI
  go_wp2_with fail
  obtain ⟨W8, hW8⟩ : ∃ W8, w7.alloc (.cells #[.int .i64 r, .int .i64 v] 33) = W8 := ⟨_, rfl⟩
  have B8 : Below w7.heap.size w7 W8 := by rw [← hW8]; exact allocBelow _ _
  rw [hW8]
  have h1h := h1g.below B8
  have h2h := h2g.below B8
  have x2h := x2g.below B8
  have y2h := y2g.below B8
  have BB8 := below_step BB7 (by omega) B8
  have S8 := B8.size
  clear hW8 d0 d1 h1g h2g x2g y2g B8 BB7
  refine (eqIntResult _ _ _).mono ?_; rintro e w9 ⟨rfl, b9⟩
  have h1i := h1h.below b9
  have h2i := h2h.below b9
  have x2i := x2h.below b9
  have y2i := y2h.below b9
  have BB9 := below_step BB8 (by omega) b9
  have S9 := b9.size
  clear h1h h2h x2h y2h b9 BB8
  go_wp2_with fail
  refine (toStringS' _ _ _ _ h1i hxs).mono ?_; rintro e w10 ⟨rfl, x3, b10, z10⟩
  have h2j := h2i.below b10
  have x2j := x2i.below b10
  have y2j := y2i.below b10
  have BB10 := below_step BB9 (by omega) b10
  go_wp2_with fail
  refine (eqStringS _ _ _ _ _ _ _ x2j x3 hxs hxs).mono ?_; rintro e w10' ⟨rfl, n3, rfl⟩
  rw [eqB_self]
  go_wp2_with fail
  refine (toStringS' _ _ _ _ (h2j.drewN _) hys).mono ?_; rintro e w11 ⟨rfl, y3, b11, z11⟩
  have y2k := y2j.below' b11
  have BB11 := below_step (below_drewN' BB10 n3) (by simp; omega) b11
  go_wp2_with fail
  refine (eqStringS _ _ _ _ _ _ _ y2k y3 hys hys).mono ?_; rintro e w11' ⟨rfl, n4, rfl⟩
  rw [eqB_self]
  go_wp2_with fail
  go_ret
  exact ⟨rfl, below_drewN' BB11 n4⟩

set_option linter.unusedVariables false
theorem laidOut : laidOutB Try.prog = true := by kernel_rfl
theorem own : ownKnob Try.prog.godebug = none := by kernel_rfl
set_option maxRecDepth 100000 in
theorem lifted (os : Os) (started : os.Started) (H : Type) (enc : TypeId × Value → H) :
    ReturnsInHanded {} Try.checked os 4 .any (Rows.fnExactEditCountSpec.pre6 enc Try.prog Try.f4 Rows.fnExactEditCountRow.domain false) (Rows.fnExactEditCountSpec.post enc Try.prog Try.f4 false true false false) := by
  refine returnsInHanded_of_change (C := Try.checked) own started (by kernel_rfl) Try.func4
    (ChangeSpec.witness6 (enc := enc) (C := Try.checked) false ⟨#[], #[.slice none 0 0, .slice none 0 0], []⟩ 8 (by kernel_rfl) (by kernel_rfl) (by kernel_rfl) (by kernel_rfl)) ?_
  intro W base args ds gs before hval0 hW hcnd _
  have hval : ∀ (j : Nat) t v, Try.f4.params[j]? = some t → args[j]? = some v → Value.okWide Try.prog W .any base t v := hval0
  have hW' := hW
  obtain ⟨p, q, hA0, hV, rfl, hfz, hnd⟩ := hW
  have hA : DataW.TrodAll enc Try.prog W 0 (fun _ => true) true Try.f4.params.toList args.toList ds p := hA0
  rw [Try.params4] at hA hval
  obtain ⟨v0, vs0, d0, ds0, p0, q0, hargs, rfl, rfl, h0, r0⟩ := trodAll_cons hA
  obtain ⟨v1, vs1, d1, ds1, p1, q1, rfl, rfl, rfl, h1, r1⟩ := trodAll_cons r0
  obtain ⟨rfl, rfl, rfl⟩ := trodAll_nil r1
  obtain rfl : args = #[v0, v1] := by cases args; simp_all
  obtain ⟨rfl, rfl⟩ := trodVars_none hV
  obtain ⟨a0, len0, cap0, rfl⟩ := okWide_slice Try.underlying22 (hval 0 22 v0 rfl rfl)
  have k0 := h0
  have lt0 : ∀ x ∈ p0, x.block < W.heap.size := by obtain ⟨m, hm⟩ := k0; exact DataW.trod_lt m _ _ _ hm
  obtain ⟨ss0, rfl, w0, n0⟩ := openSS h0 lt0
  obtain ⟨a1, len1, cap1, rfl⟩ := okWide_slice Try.underlying22 (hval 1 22 v1 rfl rfl)
  have k1 := h1
  have lt1 : ∀ x ∈ p1, x.block < W.heap.size := by obtain ⟨m, hm⟩ := k1; exact DataW.trod_lt m _ _ _ hm
  obtain ⟨ss1, rfl, w1, n1⟩ := openSS h1 lt1
  clear hA0 hval0
  refine (walk a0 a1 cap0 cap1 ss0 ss1 W w0 w1 n0 n1).mono fun e W' ⟨he, bel⟩ => ?_
  subst he
  exact ⟨_, rfl, _, _, _, [], _, [], hW', trodAll_mk1 (shut_bool Try.underlying4 _), (trodAll_cons_mk (Below.trod laidOut (by kernel_rfl) (of_decide_eq_true (by kernel_rfl)) k0 bel lt0) (trodAll_cons_mk (Below.trod laidOut (by kernel_rfl) (of_decide_eq_true (by kernel_rfl)) k1 bel lt1) trodAll_mk0)), rfl, bel.frame _, fun h => by cases h⟩

theorem over : Rows.fnExactEditCountRow.holds Try.pinned (OpenSpec.ofChange Rows.fnExactEditCountSpec) :=
  OpenClaim.holds_of_wide 4 Try.f4 rfl rfl rfl rfl rfl rfl rfl ⟨rfl, rfl, rfl, rfl, rfl⟩ rfl rfl rfl rfl rfl (by kernel_rfl) Try.func4 (by kernel_rfl)
    (of_decide_eq_true (by kernel_rfl)) (by unfold Func.isWrapper; first | (rw [if_pos (by decide +kernel)]; kernel_rfl) | (rw [if_neg (by decide +kernel)]; exact ⟨rfl, rfl⟩))
    (fun os started H enc _ => lifted os started H enc)

theorem proved : Rows.FnExactEditCountSaid := over
end Go.Proofs.Ytginglagekhaaah.EdLaw
namespace Go.Proofs.Ytginglagekhaaah
theorem fnExactEditCount_proved : Rows.FnExactEditCountSaid := EdLaw.proved
end Go.Proofs.Ytginglagekhaaah
