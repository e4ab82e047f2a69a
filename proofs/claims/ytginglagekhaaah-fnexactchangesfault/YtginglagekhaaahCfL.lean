/- Proved: at every two lists of lines and every list of changes FnExactChangesFault returns true (ChangesFault answers as its specification and changes no argument). No condition: FnExactChangesFaultSaid itself. -/
import Derived.Test.YtginglagekhaaahRows
import Derived.Test.YtginglagekhaaahLem
import Derived.Test.YtginglagekhaaahStrs
import Derived.Test.YtginglagekhaaahLFLem
import Derived.Test.YtginglagekhaaahLF
import Derived.Test.YtginglagekhaaahCom
import Derived.Test.YtginglagekhaaahAsked
import Derived.Test.YtginglagekhaaahDTab
import Derived.Test.YtginglagekhaaahFr
import Derived.Test.YtginglagekhaaahChg
import Derived.Test.YtginglagekhaaahEdC
import Derived.Test.YtginglagekhaaahChR
import Derived.Test.YtginglagekhaaahCFC
import Derived.Test.YtginglagekhaaahCFI
import Derived.Test.YtginglagekhaaahCFS
import Derived.Test.YtginglagekhaaahToC
import Derived.Test.YtginglagekhaaahOpC
import Derived.WalkKit
import Derived.ProofKit
import Derived.OpenShut
import Derived.Below
import Derived.Carry
namespace Go.Proofs.Ytginglagekhaaah.CfLaw
open Go.ChangeShapes Go.WideShapes Go.ChangeAt Go.RowKit

set_option maxRecDepth 20000 in
set_option maxHeartbeats 4000000 in
theorem walk (a1 a2 a3 : Option Addr) (c1 c2 c3 : Nat) (xs ys : List ByteArray) (l : List Chg) (w : World) (h1 : SS w a1 xs) (h2 : SS w a2 ys) (h3 : CB w.heap.size w a3 l) (hr : Rng l) (hn : xs.length ≤ 9223372036854775807) (hm : ys.length ≤ 9223372036854775807) (hk : l.length ≤ 9223372036854775807) :
    Calls Try.prog 6 #[.slice a1 xs.length c1, .slice a2 ys.length c2, .slice a3 l.length c3] w fun e w' => e = .returned (.bool true) ∧ Below w.heap.size w w' := by
  by_cases hx : left 1048576 xs < 0
  · go_enter Try.func6, Try.ntmps6
    go_wp2_with (go_at_call 7; refine (szStringS _ _ _ _ _ h1 hn (by omega) (by omega)).mono ?_; rintro e w' ⟨rfl, rfl⟩)
    go_ret
    exact ⟨rfl, Below.refl _ _⟩
  obtain ⟨e1, g1, k1⟩ := left_ge hx
  have ht := tot_nonneg xs
  have hl0 : 0 ≤ left 1048576 xs := by omega
  have hl1 : left 1048576 xs ≤ 1048576 := by omega
  by_cases hy : left (left 1048576 xs) ys < 0
  · clear e1 hx
    go_enter Try.func6, Try.ntmps6
    go_wp2_with fail
    refine (szStringS _ _ _ _ _ h1 hn (by omega) (by omega)).mono ?_; rintro e w' ⟨rfl, rfl⟩
    go_wp2_with fail
    refine (szStringS _ _ _ _ _ h2 hm hl0 hl1).mono ?_; rintro e w' ⟨rfl, rfl⟩
    go_wp2_with fail
    go_ret
    exact ⟨rfl, Below.refl _ _⟩
  obtain ⟨e2, g2, k2⟩ := left_ge hy
  have ht2 := tot_nonneg ys
  have hxs : xs.length ≤ 1048576 := by omega
  have hys : ys.length ≤ 1048576 := by omega
  have htx : tot xs ≤ 1048576 := by omega
  have hty : tot ys ≤ 1048576 := by omega
  have hq0 : 0 ≤ left (left 1048576 xs) ys := by omega
  have hq1 : left (left 1048576 xs) ys ≤ 1048576 := by omega
  obtain ⟨Q, hQ⟩ : ∃ Q, left (left 1048576 xs) ys = Q := ⟨_, rfl⟩
  rw [hQ] at hq0 hq1 hy
  have HQ : Hid (left (left 1048576 xs) ys = Q) := hQ
  clear e1 e2 g1 k1 g2 k2 ht ht2 hQ
  by_cases hz : leftC Q l.length < 0
  · go_enter Try.func6, Try.ntmps6
    go_wp2_with fail
    refine (szStringS _ _ _ _ _ h1 hn (by omega) (by omega)).mono ?_; rintro e w' ⟨rfl, rfl⟩
    go_wp2_with fail
    refine (szStringS _ _ _ _ _ h2 hm hl0 hl1).mono ?_; rintro e w' ⟨rfl, rfl⟩
    rw [HQ.out]
    go_wp2_with fail
    refine (szChangeS _ _ _ _ _ hk hq0 hq1).mono ?_; rintro e w' ⟨rfl, rfl⟩
    go_wp2_with fail
    go_ret
    exact ⟨rfl, Below.refl _ _⟩
  have hls : l.length ≤ 1048576 := by
    unfold leftC at hz
    split at hz <;> omega
  have hS := fun (B : Nat) (a1 a2 a3 : Option Addr) (c1 c2 c3 : Nat) w h1 h2 h3 => specChangesFault B a1 a2 a3 c1 c2 c3 xs ys l w h1 h2 h3 hxs htx hys hty hls
  have hI := fun (B : Nat) (a1 a2 a3 : Option Addr) (c1 c2 c3 : Nat) w h1 h2 h3 => implChangesFault B a1 a2 a3 c1 c2 c3 xs ys l w h1 h2 h3 hr hxs hys hls
  obtain ⟨v, hv⟩ : ∃ v, cfa xs ys l = v := ⟨_, rfl⟩
  rw [hv] at hS hI
  have hvv : (v != v) = false := by simp
  clear hv
  go_enter Try.func6, Try.ntmps6
  go_wp2_with fail
  refine (szStringS _ _ _ _ _ h1 hn (by omega) (by omega)).mono ?_; rintro e w ⟨rfl, rfl⟩
  go_wp2_with fail
  refine (szStringS _ _ _ _ _ h2 hm hl0 hl1).mono ?_; rintro e w ⟨rfl, rfl⟩
  rw [HQ.out]
  go_wp2_with fail
  refine (szChangeS _ _ _ _ _ hk hq0 hq1).mono ?_; rintro e w ⟨rfl, rfl⟩
  go_wp2_with fail
  refine (toStringS' _ _ _ _ h1 hxs).mono ?_; rintro e w1 ⟨rfl, x1, b1, z1⟩
  have h1a := h1.below b1
  have h2a := h2.below b1
  have h3a := h3.below b1
  go_wp2_with fail
  refine (toStringS' _ _ _ _ h2a hys).mono ?_; rintro e w2 ⟨rfl, y1, b2, z2⟩
  have h1b := h1a.below b2
  have h2b := h2a.below b2
  have h3b := h3a.below b2
  have BB2 := below_step b1 (Nat.le_of_lt z1) b2
  go_wp2_with fail
  refine (toChangeS _ _ _ _ _ h3b hls).mono ?_; rintro e w3 ⟨rfl, o3, b3⟩
  have h1c := h1b.below b3
  have h2c := h2b.below b3
  have h3c := h3b.below b3
  have S3 := b3.size
  have BB3 := below_step BB2 (by omega) b3
  go_wp2_with fail
  refine (hS _ _ _ _ _ _ _ _ ((x1.below b2).below b3) (y1.below b3) (cbOf o3)).mono ?_; rintro e w4 ⟨rfl, b4⟩
  have h1d := h1c.below b4
  have h2d := h2c.below b4
  have h3d := h3c.below b4
  have S4 := b4.size
  have BB4 := below_step BB3 (by omega) b4
  clear h1 h2 h3 h1a h2a h3a h1b h2b h3b h1c h2c h3c x1 y1 o3 b1 b2 b3 b4 BB2 BB3
  go_wp2_with fail
  refine (toStringS' _ _ _ _ h1d hxs).mono ?_; rintro e w5 ⟨rfl, x2, b5, z5⟩
  have h1e := h1d.below b5
  have h2e := h2d.below b5
  have h3e := h3d.below b5
  have BB5 := below_step BB4 (by omega) b5
  go_wp2_with fail
  refine (toStringS' _ _ _ _ h2e hys).mono ?_; rintro e w6 ⟨rfl, y2, b6, z6⟩
  have h1f := h1e.below b6
  have h2f := h2e.below b6
  have h3f := h3e.below b6
  have x2f := x2.below b6
  have BB6 := below_step BB5 (by omega) b6
  go_wp2_with fail
  refine (toChangeS _ _ _ _ _ h3f hls).mono ?_; rintro e w7 ⟨rfl, o7, b7⟩
  have h1g := h1f.below b7
  have h2g := h2f.below b7
  have h3g := h3f.below b7
  have x2g := x2f.below b7
  have y2g := y2.below b7
  have S7 := b7.size
  have BB7 := below_step BB6 (by omega) b7
  have c7 := cbOf o7
  clear h1d h2d h3d h1e h2e h3e h1f h2f h3f x2 x2f y2 b5 b6 b7 BB4 BB5 BB6 o7
  go_wp2_with fail
  refine (hI _ _ _ _ _ _ _ _ x2g y2g c7).mono ?_; rintro e w8 ⟨rfl, b8⟩
  have h1h := h1g.below b8
  have h2h := h2g.below b8
  have h3h := h3g.below b8
  have x2h := x2g.below b8
  have y2h := y2g.below b8
  have c8 := c7.below b8
  have S8 := b8.size
  have BB8 := below_step BB7 (by omega) b8
  clear h1g h2g h3g x2g y2g c7 b8 BB7
  go_wp2_with fail
  refine (toStringS' _ _ _ _ h1h hxs).mono ?_; rintro e w9 ⟨rfl, x3, b9, z9⟩
  have h2i := h2h.below b9
  have h3i := h3h.below b9
  have x2i := x2h.below b9
  have y2i := y2h.below b9
  have c9 := c8.below b9
  have BB9 := below_step BB8 (by omega) b9
  go_wp2_with fail
  refine (eqStringS _ _ _ _ _ _ _ x2i x3 hxs hxs).mono ?_; rintro e w9' ⟨rfl, n3, rfl⟩
  rw [eqB_self]
  go_wp2_with fail
  refine (toStringS' _ _ _ _ (h2i.drewN _) hys).mono ?_; rintro e w10 ⟨rfl, y3, b10, z10⟩
  have y2j := y2i.below' b10
  have h3j : CB w.heap.size w10 a3 l := CB.below (w := w9.drewN n3) h3i b10
  have c10 : CB w7.heap.size w10 _ l := CB.below (w := w9.drewN n3) c9 b10
  have BB10 := below_step (below_drewN' BB9 n3) (by simp; omega) b10
  simp only [World.heap_drewN] at z10
  go_wp2_with fail
  refine (eqStringS _ _ _ _ _ _ _ y2j y3 hys hys).mono ?_; rintro e w10' ⟨rfl, n4, rfl⟩
  rw [eqB_self]
  have h3k : CB w.heap.size (w10.drewN n4) a3 l := h3j
  have c11 : CB w7.heap.size (w10.drewN n4) _ l := c10
  have BB11 := below_drewN' BB10 n4
  have S11 : w.heap.size ≤ (w10.drewN n4).heap.size := by simp; omega
  obtain ⟨W, hW⟩ : ∃ W, w10.drewN n4 = W := ⟨_, rfl⟩
  rw [hW] at h3k c11 BB11 S11 ⊢
  clear hW h3j c10 BB10 y2j y3 b10 z10 h2i h3i x2i y2i c9 BB9
  go_wp2_with fail
  refine (toChangeS _ _ _ _ _ h3k hls).mono ?_; rintro e w12 ⟨rfl, o12, b12⟩
  have c12 := c11.below b12
  have BB12 := below_step BB11 S11 b12
  have S12 := b12.size
  go_wp2_with fail
  refine (eqChangeS _ _ _ _ _ _ _ _ c12 (cbOf o12) hls).mono ?_; rintro e w13 ⟨rfl, b13⟩
  have BB13 := below_step BB12 (by omega) b13
  clear c12 o12 b13 BB12
  go_wp2_with fail
  go_ret
  exact ⟨rfl, BB13⟩

set_option linter.unusedVariables false
theorem laidOut : laidOutB Try.prog = true := by kernel_rfl
theorem own : ownKnob Try.prog.godebug = none := by kernel_rfl
set_option maxRecDepth 100000 in
theorem lifted (os : Os) (started : os.Started) (H : Type) (enc : TypeId × Value → H) :
    ReturnsInHanded {} Try.checked os 6 .any (Rows.fnExactChangesFaultSpec.pre6 enc Try.prog Try.f6 Rows.fnExactChangesFaultRow.domain false) (Rows.fnExactChangesFaultSpec.post enc Try.prog Try.f6 false true false false) := by
  refine returnsInHanded_of_change (C := Try.checked) own started (by kernel_rfl) Try.func6
    (ChangeSpec.witness6 (enc := enc) (C := Try.checked) false ⟨#[], #[.slice none 0 0, .slice none 0 0, .slice none 0 0], []⟩ 8 (by kernel_rfl) (by kernel_rfl) (by kernel_rfl) (by kernel_rfl)) ?_
  intro W base args ds gs before hval0 hW hcnd _
  have hval : ∀ (j : Nat) t v, Try.f6.params[j]? = some t → args[j]? = some v → Value.okWide Try.prog W .any base t v := hval0
  have hW' := hW
  obtain ⟨p, q, hA0, hV, rfl, hfz, hnd⟩ := hW
  have hA : DataW.TrodAll enc Try.prog W 0 (fun _ => true) true Try.f6.params.toList args.toList ds p := hA0
  rw [Try.params6] at hA hval
  obtain ⟨v0, vs0, d0, ds0, p0, q0, hargs, rfl, rfl, h0, r0⟩ := trodAll_cons hA
  obtain ⟨v1, vs1, d1, ds1, p1, q1, rfl, rfl, rfl, h1, r1⟩ := trodAll_cons r0
  obtain ⟨v2, vs2, d2, ds2, p2, q2, rfl, rfl, rfl, h2, r2⟩ := trodAll_cons r1
  obtain ⟨rfl, rfl, rfl⟩ := trodAll_nil r2
  obtain rfl : args = #[v0, v1, v2] := by cases args; simp_all
  obtain ⟨rfl, rfl⟩ := trodVars_none hV
  obtain ⟨a0, len0, cap0, rfl⟩ := okWide_slice Try.underlying22 (hval 0 22 v0 rfl rfl)
  have k0 := h0
  have lt0 : ∀ x ∈ p0, x.block < W.heap.size := by obtain ⟨m, hm⟩ := k0; exact DataW.trod_lt m _ _ _ hm
  obtain ⟨ss0, rfl, w0, n0⟩ := openSS h0 lt0
  obtain ⟨a1, len1, cap1, rfl⟩ := okWide_slice Try.underlying22 (hval 1 22 v1 rfl rfl)
  have k1 := h1
  have lt1 : ∀ x ∈ p1, x.block < W.heap.size := by obtain ⟨m, hm⟩ := k1; exact DataW.trod_lt m _ _ _ hm
  obtain ⟨ss1, rfl, w1, n1⟩ := openSS h1 lt1
  obtain ⟨a2, len2, cap2, rfl⟩ := okWide_slice Try.underlying36 (hval 2 36 v2 rfl rfl)
  have k2 := h2
  have lt2 : ∀ x ∈ p2, x.block < W.heap.size := by obtain ⟨m, hm⟩ := k2; exact DataW.trod_lt m _ _ _ hm
  obtain ⟨ss2, rfl, w2, r2, n2⟩ := openCB h2
  clear hA0 hval0
  refine (walk a0 a1 a2 cap0 cap1 cap2 ss0 ss1 ss2 W w0 w1 w2 r2 n0 n1 n2).mono fun e W' ⟨he, bel⟩ => ?_
  subst he
  exact ⟨_, rfl, _, _, _, [], _, [], hW', trodAll_mk1 (shut_bool Try.underlying4 _), (trodAll_cons_mk (Below.trod laidOut (by kernel_rfl) (of_decide_eq_true (by kernel_rfl)) k0 bel lt0) (trodAll_cons_mk (Below.trod laidOut (by kernel_rfl) (of_decide_eq_true (by kernel_rfl)) k1 bel lt1) (trodAll_cons_mk (Below.trod laidOut (by kernel_rfl) (of_decide_eq_true (by kernel_rfl)) k2 bel lt2) trodAll_mk0))), rfl, bel.frame _, fun h => by cases h⟩

theorem over : Rows.fnExactChangesFaultRow.holds Try.pinned (OpenSpec.ofChange Rows.fnExactChangesFaultSpec) :=
  OpenClaim.holds_of_wide 6 Try.f6 rfl rfl rfl rfl rfl rfl rfl ⟨rfl, rfl, rfl, rfl, rfl⟩ rfl rfl rfl rfl rfl (by kernel_rfl) Try.func6 (by kernel_rfl)
    (of_decide_eq_true (by kernel_rfl)) (by unfold Func.isWrapper; first | (rw [if_pos (by decide +kernel)]; kernel_rfl) | (rw [if_neg (by decide +kernel)]; exact ⟨rfl, rfl⟩))
    (fun os started H enc _ => lifted os started H enc)

theorem proved : Rows.FnExactChangesFaultSaid := over
end Go.Proofs.Ytginglagekhaaah.CfLaw
namespace Go.Proofs.Ytginglagekhaaah
theorem fnExactChangesFault_proved : Rows.FnExactChangesFaultSaid := CfLaw.proved
end Go.Proofs.Ytginglagekhaaah
