/- Proved: at every list of lines FnExactJoinLines returns true (JoinLines answers as its specification, field by field, and changes no line). No condition: FnExactJoinLinesSaid itself. -/
import Derived.Test.YthgoimdlhgdnoafRows
import Derived.Test.YthgoimdlhgdnoafLem
import Derived.Test.YthgoimdlhgdnoafStrs
import Derived.Test.YthgoimdlhgdnoafLFLem
import Derived.Test.YthgoimdlhgdnoafLF
import Derived.Test.YthgoimdlhgdnoafJoin
import Derived.WalkKit
import Derived.ProofKit
import Derived.OpenShut
import Derived.Below
import Derived.Carry
namespace Go.Proofs.Ythgoimdlhgdnoaf.JoinLaw
open Go.ChangeShapes Go.WideShapes Go.ChangeAt Go.RowKit

theorem beq_self (s : ByteArray) : (s.toList == s.toList) = true := beq_bytes_true rfl
set_option maxHeartbeats 400000 in
theorem eqTextResult (c : Int) (s : ByteArray) (w : World) :
    Calls Try.prog 17 #[.agg #[.int .i64 c, .string s], .agg #[.int .i64 c, .string s]] w fun e w' => e = .returned (.bool true) ∧ Below w.heap.size w w' := by
  have hb := beq_self s
  go_enter Try.func17, Try.ntmps17
  go_wp2
  go_ret
  exact ⟨rfl, ((Below.refl _ _).alloc (Nat.le_refl _) _).alloc (by simp) _⟩

set_option maxHeartbeats 1600000 in
theorem walk (a1 : Option Addr) (c1 : Nat) (xs : List ByteArray) (w : World) (h1 : SS w a1 xs) (hn : xs.length ≤ 9223372036854775807) :
    Calls Try.prog 5 #[.slice a1 xs.length c1] w fun e w' => e = .returned (.bool true) ∧ Below w.heap.size w w' := by
  by_cases hx : left 1048576 xs < 0
  · go_enter Try.func5, Try.ntmps5
    go_wp2_with (go_at_call 13; refine (szStringS _ _ _ _ _ h1 hn (by omega) (by omega)).mono ?_; rintro e w' ⟨rfl, rfl⟩)
    go_ret
    exact ⟨rfl, Below.refl _ _⟩
  obtain ⟨e1, g1, k1⟩ := left_ge hx
  have ht := tot_nonneg xs
  have hxs : xs.length ≤ 1048576 := by omega
  have htx : tot xs ≤ 1048576 := by omega
  clear e1 g1 k1
  obtain ⟨r, hr⟩ : ∃ r, lf xs = r := ⟨_, rfl⟩
  obtain ⟨t, hjt⟩ : ∃ t, joinText xs = t := ⟨_, rfl⟩
  go_enter Try.func5, Try.ntmps5
  go_wp2_with fail
  refine (szStringS _ _ _ _ _ h1 hn (by omega) (by omega)).mono ?_; rintro e w ⟨rfl, rfl⟩
  go_wp2_with fail
  refine (toStringS' _ _ _ _ h1 hxs).mono ?_; rintro e w1 ⟨rfl, x1, b1, z1⟩
  have h1a := h1.below b1
  go_wp2_with fail
  refine (specJoinLines _ _ _ _ x1 hxs htx).mono ?_; rintro e w2 ⟨rfl, b2⟩
  rw [hr, hjt]
  have h1b := h1a.below b2
  go_wp2_with fail
  obtain ⟨W3, hW3⟩ : ∃ W3, w2.alloc (.cells #[.int .i64 r, .string t] 32) = W3 := ⟨_, rfl⟩
  have B3 : Below w2.heap.size w2 W3 := by rw [← hW3]; exact (Below.refl _ _).alloc (Nat.le_refl _) _
  have Z3 : Hid (W3.heap.size = w2.heap.size + 1) := by show W3.heap.size = _; rw [← hW3]; simp
  have c30 : W3.cell? ⟨w2.heap.size, 0, none⟩ = some (.int .i64 r) := by rw [← hW3]; simp
  have c31 : W3.cell? ⟨w2.heap.size, 1, none⟩ = some (.string t) := by rw [← hW3]; simp
  rw [hW3]
  have h1c := h1b.below B3
  clear hW3
  refine (toStringS' _ _ _ _ h1c hxs).mono ?_; rintro e w4 ⟨rfl, x2, b4, z4⟩
  have h1d := h1c.below b4
  have c40 := (b4.cell (p := ⟨w2.heap.size, 0, none⟩) (by rw [Z3.out]; exact Nat.lt_succ_self _)).trans c30
  have c41 := (b4.cell (p := ⟨w2.heap.size, 1, none⟩) (by rw [Z3.out]; exact Nat.lt_succ_self _)).trans c31
  go_wp2_with fail
  refine (implJoinLines _ _ _ _ x2 hxs htx).mono ?_; rintro e w5 ⟨rfl, b5⟩
  rw [hr, hjt]
  have h1e := h1d.below b5
  have x2e := x2.below b5
  have hlt2 : w2.heap.size < w4.heap.size := by have := Z3.out; omega
  have c50 := (b5.cell (p := ⟨w2.heap.size, 0, none⟩) hlt2).trans c40
  have c51 := (b5.cell (p := ⟨w2.heap.size, 1, none⟩) hlt2).trans c41
  have hlt3 : w2.heap.size < w5.heap.size := Nat.lt_of_lt_of_le hlt2 b5.size
  have S2 := b2.size
  have S5 := b5.size
  have S3 := Z3.out
  have BB : Below w.heap.size w w5 := below_step (below_step (below_step (below_step b1 (by omega) b2) (by omega) B3) (by omega) b4) (by omega) b5
  clear S3 Z3 c30 c31 c40 c41 B3 b4 b5 b1 b2 h1 h1a h1b h1c h1d x1 x2 hr hjt
  have d0 : ∀ o, (w5.alloc o).cell? ⟨w2.heap.size, 0, none⟩ = some (.int .i64 r) := fun o => by rw [World.cell?_alloc_past _ _ _ hlt3]; exact c50
  have d1 : ∀ o, (w5.alloc o).cell? ⟨w2.heap.size, 1, none⟩ = some (.string t) := fun o => by rw [World.cell?_alloc_past _ _ _ hlt3]; exact c51
  go_wp2_with fail
  obtain ⟨W6, hW6⟩ : ∃ W6, w5.alloc (.cells #[.int .i64 r, .string t] 32) = W6 := ⟨_, rfl⟩
  have B6 : Below w5.heap.size w5 W6 := by rw [← hW6]; exact (Below.refl _ _).alloc (Nat.le_refl _) _
  rw [hW6]
  have h1f := h1e.below B6
  have x2f := x2e.below B6
  have BB6 := below_step BB (by omega) B6
  have S6 := B6.size
  clear hW6 d0 d1 c50 c51 h1e x2e B6 BB
  refine (eqTextResult _ _ _).mono ?_; rintro e w7 ⟨rfl, b7⟩
  have h1g := h1f.below b7
  have x2g := x2f.below b7
  have BB7 := below_step BB6 (by omega) b7
  have S7 := b7.size
  clear h1f x2f b7 BB6
  go_wp2_with fail
  refine (toStringS' _ _ _ _ h1g hxs).mono ?_; rintro e w8 ⟨rfl, x3, b8, z8⟩
  have x2h := x2g.below b8
  have BB8 := below_step BB7 (by omega) b8
  go_wp2_with fail
  refine (eqStringS _ _ _ _ _ _ _ x2h x3 hxs hxs).mono ?_; rintro e w8' ⟨rfl, n3, rfl⟩
  rw [eqB_self]
  go_wp2_with fail
  go_ret
  exact ⟨rfl, below_drewN' BB8 n3⟩

set_option linter.unusedVariables false
theorem laidOut : laidOutB Try.prog = true := by kernel_rfl
theorem own : ownKnob Try.prog.godebug = none := by kernel_rfl
set_option maxRecDepth 100000 in
theorem lifted (os : Os) (started : os.Started) (H : Type) (enc : TypeId × Value → H) :
    ReturnsInHanded {} Try.checked os 5 .any (Rows.fnExactJoinLinesSpec.pre6 enc Try.prog Try.f5 Rows.fnExactJoinLinesRow.domain false) (Rows.fnExactJoinLinesSpec.post enc Try.prog Try.f5 false true false false) := by
  refine returnsInHanded_of_change (C := Try.checked) own started (by kernel_rfl) Try.func5
    (ChangeSpec.witness6 (enc := enc) (C := Try.checked) false ⟨#[], #[.slice none 0 0], []⟩ 8 (by kernel_rfl) (by kernel_rfl) (by kernel_rfl) (by kernel_rfl)) ?_
  intro W base args ds gs before hval0 hW hcnd _
  have hval : ∀ (j : Nat) t v, Try.f5.params[j]? = some t → args[j]? = some v → Value.okWide Try.prog W .any base t v := hval0
  have hW' := hW
  obtain ⟨p, q, hA0, hV, rfl, hfz, hnd⟩ := hW
  have hA : DataW.TrodAll enc Try.prog W 0 (fun _ => true) true Try.f5.params.toList args.toList ds p := hA0
  rw [Try.params5] at hA hval
  obtain ⟨v0, vs0, d0, ds0, p0, q0, hargs, rfl, rfl, h0, r0⟩ := trodAll_cons hA
  obtain ⟨rfl, rfl, rfl⟩ := trodAll_nil r0
  obtain rfl : args = #[v0] := by cases args; simp_all
  obtain ⟨rfl, rfl⟩ := trodVars_none hV
  obtain ⟨a0, len0, cap0, rfl⟩ := okWide_slice Try.underlying24 (hval 0 24 v0 rfl rfl)
  have k0 := h0
  have lt0 : ∀ x ∈ p0, x.block < W.heap.size := by obtain ⟨m, hm⟩ := k0; exact DataW.trod_lt m _ _ _ hm
  obtain ⟨ss0, rfl, w0, n0⟩ := openSS h0 lt0
  clear hA0 hval0
  refine (walk a0 cap0 ss0 W w0 n0).mono fun e W' ⟨he, bel⟩ => ?_
  subst he
  exact ⟨_, rfl, _, _, _, [], _, [], hW', trodAll_mk1 (shut_bool Try.underlying4 _), (trodAll_cons_mk (Below.trod laidOut (by kernel_rfl) (of_decide_eq_true (by kernel_rfl)) k0 bel lt0) trodAll_mk0), rfl, bel.frame _, fun h => by cases h⟩

theorem over : Rows.fnExactJoinLinesRow.holds Try.pinned (OpenSpec.ofChange Rows.fnExactJoinLinesSpec) :=
  OpenClaim.holds_of_wide 5 Try.f5 rfl rfl rfl rfl rfl rfl rfl ⟨rfl, rfl, rfl, rfl, rfl⟩ rfl rfl rfl rfl rfl (by kernel_rfl) Try.func5 (by kernel_rfl)
    (of_decide_eq_true (by kernel_rfl)) (by unfold Func.isWrapper; first | (rw [if_pos (by decide +kernel)]; kernel_rfl) | (rw [if_neg (by decide +kernel)]; exact ⟨rfl, rfl⟩))
    (fun os started H enc _ => lifted os started H enc)

theorem proved : Rows.FnExactJoinLinesSaid := over
end Go.Proofs.Ythgoimdlhgdnoaf.JoinLaw
namespace Go.Proofs.Ythgoimdlhgdnoaf
theorem fnExactJoinLines_proved : Rows.FnExactJoinLinesSaid := JoinLaw.proved
end Go.Proofs.Ythgoimdlhgdnoaf
