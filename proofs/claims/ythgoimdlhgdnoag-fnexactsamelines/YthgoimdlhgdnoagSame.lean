/- Proved: at every two lists of lines FnExactSameLines returns true (SameLines answers as its specification and changes neither list). No condition: FnExactSameLinesSaid itself. -/
import Derived.Test.YthgoimdlhgdnoagRows
import Derived.Test.YthgoimdlhgdnoagLem
import Derived.Test.YthgoimdlhgdnoagStrs
import Derived.WalkKit
import Derived.ProofKit
import Derived.OpenShut
import Derived.Below
import Derived.Carry
import Derived.SliceStrings
import Derived.Deep.QuietTactic
import Derived.BigQuiet
import Derived.WalkSpells
namespace Go.Proofs.Ythgoimdlhgdnoag.Same
open Go.ChangeShapes Go.WideShapes Go.ChangeAt Go.RowKit

set_option maxHeartbeats 1600000 in
theorem specSameLines : Eqs 16 := by
  intro a1 a2 c1 c2 xs ys w h1 h2 hn hm
  by_cases hl : xs.length = ys.length
  · have hlI : ((xs.length : Int) != (ys.length : Int)) = false := by simp [hl]
    have HL : Hid (xs.length = ys.length) := hl
    clear hl
    go_enter Try.func16, Try.ntmps16
    go_wp2
    go_loopw [5] (fun i wr => ∃ k : Nat, k ≤ xs.length ∧ i = .int .i64 k ∧ sameTo xs ys k ∧ ∃ n, wr = w.drewN n) (fun i _ => xs.length - (intOf i).toNat)
    case atStart => exact ⟨0, Nat.zero_le _, rfl, fun i hi => absurd hi (Nat.not_lt_zero _), 0, rfl⟩
    case round =>
      obtain ⟨k, hk, rfl, hsm, n, rfl⟩ := hrel
      by_cases hlt : k < xs.length
      · have hlt2 : k < ys.length := by have := HL.out; omega
        obtain ⟨b, off, rfl, hb, hc⟩ := h1.2 k hlt
        obtain ⟨b', off', rfl, hb', hc'⟩ := h2.2 k hlt2
        obtain ⟨s, hse⟩ : ∃ s, s = xs.getD k ByteArray.empty := ⟨_, rfl⟩
        obtain ⟨t, hte⟩ : ∃ t, t = ys.getD k ByteArray.empty := ⟨_, rfl⟩
        rw [← hse] at hc
        rw [← hte] at hc'
        have HS : Hid (s = xs.getD k ByteArray.empty) := hse
        have HT : Hid (t = ys.getD k ByteArray.empty) := hte
        clear hse hte h1 h2
        have q1 : (k : Int) < (xs.length : Int) := by omega
        have q2 : (k : Int) < (ys.length : Int) := by omega
        by_cases hst : s = t
        · have HST : Hid (s = t) := hst
          have hbe := beq_bytes_true hst
          clear hst
          go_wp2
          go_quiet (fail)
          go_wp2
          go_roundw
          case rel => exact ⟨k + 1, by omega, by go_num, sameTo_succ hsm (by rw [← HS.out, ← HT.out]; exact HST.out), _, rfl⟩
          case measure => simp [intOf]; omega
        · have HST : Hid (¬ s = t) := hst
          have hbe := beq_bytes_false hst
          clear hst
          have hE : Hid (eqB xs ys = false) := by
            show decide (xs = ys) = false
            refine decide_eq_false fun e => HST.out ?_
            rw [HS.out, HT.out, e]
          go_wp2
          go_quiet (fail)
          go_wp2
          go_ret
          exact ⟨ret_bool hE.out.symm, n + nq, World.drewN_drewN _ _ _⟩
      · have hE : Hid (eqB xs ys = true) := by
          have e : k = xs.length := by omega
          rw [e] at hsm
          exact decide_eq_true (eq_of_sameTo HL.out hsm)
        go_wp2
        go_ret
        exact ⟨ret_bool hE.out.symm, _, rfl⟩
  · have hlI : ((xs.length : Int) != (ys.length : Int)) = true := by simp; omega
    have hE : Hid (eqB xs ys = false) := by
      show decide (xs = ys) = false
      exact decide_eq_false fun e => hl (by rw [e])
    clear hl
    go_enter Try.func16, Try.ntmps16
    go_wp2
    go_ret
    exact ⟨ret_bool hE.out.symm, 0, rfl⟩

set_option maxHeartbeats 1600000 in
theorem slicesEqual : Eqs 22 := by
  intro a1 a2 c1 c2 xs ys w h1 h2 hn hm
  by_cases hl : xs.length = ys.length
  · have hlI : ((xs.length : Int) != (ys.length : Int)) = false := by simp [hl]
    have HL : Hid (xs.length = ys.length) := hl
    clear hl
    go_enter Try.func22, Try.ntmps22
    go_wp2
    go_loopw [13] (fun i wr => ∃ k : Nat, k ≤ xs.length ∧ i = .int .i64 k ∧ sameTo xs ys k ∧ ∃ n, wr = w.drewN n) (fun i _ => xs.length - (intOf i).toNat)
    case atStart => exact ⟨0, Nat.zero_le _, rfl, fun i hi => absurd hi (Nat.not_lt_zero _), 0, rfl⟩
    case round =>
      obtain ⟨k, hk, rfl, hsm, n, rfl⟩ := hrel
      by_cases hlt : k < xs.length
      · have hlt2 : k < ys.length := by have := HL.out; omega
        obtain ⟨b, off, rfl, hb, hc⟩ := h1.2 k hlt
        obtain ⟨b', off', rfl, hb', hc'⟩ := h2.2 k hlt2
        obtain ⟨s, hse⟩ : ∃ s, s = xs.getD k ByteArray.empty := ⟨_, rfl⟩
        obtain ⟨t, hte⟩ : ∃ t, t = ys.getD k ByteArray.empty := ⟨_, rfl⟩
        rw [← hse] at hc
        rw [← hte] at hc'
        have HS : Hid (s = xs.getD k ByteArray.empty) := hse
        have HT : Hid (t = ys.getD k ByteArray.empty) := hte
        clear hse hte h1 h2
        have q1 : (k : Int) < (xs.length : Int) := by omega
        have q2 : (k : Int) < (ys.length : Int) := by omega
        by_cases hst : s = t
        · have HST : Hid (s = t) := hst
          have hbe := beq_bytes_true hst
          clear hst
          go_wp2
          go_quiet (fail)
          go_wp2
          go_roundw
          case rel => exact ⟨k + 1, by omega, by go_num, sameTo_succ hsm (by rw [← HS.out, ← HT.out]; exact HST.out), _, rfl⟩
          case measure => simp [intOf]; omega
        · have HST : Hid (¬ s = t) := hst
          have hbe := beq_bytes_false hst
          clear hst
          have hE : Hid (eqB xs ys = false) := by
            show decide (xs = ys) = false
            refine decide_eq_false fun e => HST.out ?_
            rw [HS.out, HT.out, e]
          go_wp2
          go_quiet (fail)
          go_wp2
          go_ret
          exact ⟨ret_bool hE.out.symm, n + nq, World.drewN_drewN _ _ _⟩
      · have hE : Hid (eqB xs ys = true) := by
          have e : k = xs.length := by omega
          rw [e] at hsm
          exact decide_eq_true (eq_of_sameTo HL.out hsm)
        go_wp2
        go_ret
        exact ⟨ret_bool hE.out.symm, _, rfl⟩
  · have hlI : ((xs.length : Int) != (ys.length : Int)) = true := by simp; omega
    have hE : Hid (eqB xs ys = false) := by
      show decide (xs = ys) = false
      exact decide_eq_false fun e => hl (by rw [e])
    clear hl
    go_enter Try.func22, Try.ntmps22
    go_wp2
    go_ret
    exact ⟨ret_bool hE.out.symm, 0, rfl⟩

theorem implSameLines : Eqs 17 := by
  intro a1 a2 c1 c2 xs ys w h1 h2 hn hm
  go_enter Try.func17, Try.ntmps17
  go_wp2_with (go_at_call 22; refine (slicesEqual _ _ _ _ _ _ _ h1 h2 hn hm).mono ?_; rintro e w' ⟨rfl, n, rfl⟩)
  go_ret
  exact ⟨rfl, _, rfl⟩

set_option maxHeartbeats 1600000 in
theorem walk (a1 a2 : Option Addr) (c1 c2 : Nat) (xs ys : List ByteArray) (w : World) (h1 : SS w a1 xs) (h2 : SS w a2 ys) (hn : xs.length ≤ 9223372036854775807) (hm : ys.length ≤ 9223372036854775807) :
    Calls Try.prog 6 #[.slice a1 xs.length c1, .slice a2 ys.length c2] w fun e w' => e = .returned (.bool true) ∧ Below w.heap.size w w' := by
  by_cases hx : left 1048576 xs < 0
  · go_enter Try.func6, Try.ntmps6
    go_wp2_with (go_at_call 7; refine (szStringS _ _ _ _ _ h1 hn (by omega) (by omega)).mono ?_; rintro e w' ⟨rfl, rfl⟩)
    go_ret
    exact ⟨rfl, Below.refl _ _⟩
  obtain ⟨e1, g1, k1⟩ := left_ge hx
  have HE1 : Hid (left 1048576 xs = 1048576 - xs.length - tot xs) := e1
  have ht := tot_nonneg xs
  have hl0 : 0 ≤ left 1048576 xs := by omega
  have hl1 : left 1048576 xs ≤ 1048576 := by omega
  clear e1 hx
  by_cases hy : left (left 1048576 xs) ys < 0
  · go_enter Try.func6, Try.ntmps6
    go_wp2_with fail
    refine (szStringS _ _ _ _ _ h1 hn (by omega) (by omega)).mono ?_; rintro e w' ⟨rfl, rfl⟩
    go_wp2_with fail
    refine (szStringS _ _ _ _ _ h2 hm hl0 hl1).mono ?_; rintro e w' ⟨rfl, rfl⟩
    go_wp2_with fail
    go_ret
    exact ⟨rfl, Below.refl _ _⟩
  obtain ⟨e2, g2, k2⟩ := left_ge hy
  have hxs : xs.length ≤ 1048576 := by omega
  have hys : ys.length ≤ 1048576 := by omega
  clear e2
  go_enter Try.func6, Try.ntmps6
  go_wp2_with fail
  refine (szStringS _ _ _ _ _ h1 hn (by omega) (by omega)).mono ?_; rintro e w ⟨rfl, rfl⟩
  go_wp2_with fail
  refine (szStringS _ _ _ _ _ h2 hm hl0 hl1).mono ?_; rintro e w ⟨rfl, rfl⟩
  go_wp2_with fail
  refine (toStringS' _ _ _ _ h1 hxs).mono ?_; rintro e w1 ⟨rfl, x1, b1, z1⟩
  have h1a := h1.below b1
  have h2a := h2.below b1
  go_wp2_with fail
  refine (toStringS' _ _ _ _ h2a hys).mono ?_; rintro e w2 ⟨rfl, y1, b2, z2⟩
  have h1b := h1a.below b2
  have h2b := h2a.below b2
  have x1b := x1.below b2
  have B2 : Below w.heap.size w w2 := below_step b1 (Nat.le_of_lt z1) b2
  have Z2 : w.heap.size ≤ w2.heap.size := by omega
  obtain ⟨r, hr⟩ : ∃ r, r = eqB xs ys := ⟨_, rfl⟩
  have HR : Hid (r = eqB xs ys) := hr
  clear hr
  go_wp2_with fail
  refine (specSameLines _ _ _ _ _ _ _ x1b y1 hxs hys).mono ?_; rintro e w2' ⟨rfl, n1, rfl⟩
  rw [← HR.out]
  go_wp2_with fail
  refine (toStringS' _ _ _ _ (h1b.drewN _) hxs).mono ?_; rintro e w3 ⟨rfl, x2, b3, z3⟩
  have h1c := h1b.below' b3
  have h2c := h2b.below' b3
  go_wp2_with fail
  refine (toStringS' _ _ _ _ h2c hys).mono ?_; rintro e w4 ⟨rfl, y2, b4, z4⟩
  have h1d := h1c.below b4
  have h2d := h2c.below b4
  have x2d := x2.below b4
  go_wp2_with fail
  refine (implSameLines _ _ _ _ _ _ _ x2d y2 hxs hys).mono ?_; rintro e w4' ⟨rfl, n2, rfl⟩
  rw [← HR.out]
  go_wp2_with fail
  refine (toStringS' _ _ _ _ (h1d.drewN _) hxs).mono ?_; rintro e w5 ⟨rfl, x3, b5, z5⟩
  have h2e := h2d.below' b5
  have x2e := x2d.below' b5
  have y2e := y2.below' b5
  go_wp2_with fail
  refine (eqStringS _ _ _ _ _ _ _ x2e x3 hxs hxs).mono ?_; rintro e w5' ⟨rfl, n3, rfl⟩
  rw [eqB_self]
  go_wp2_with fail
  refine (toStringS' _ _ _ _ (h2e.drewN _) hys).mono ?_; rintro e w6 ⟨rfl, y3, b6, z6⟩
  have y2f := y2e.below' b6
  go_wp2_with fail
  refine (eqStringS _ _ _ _ _ _ _ y2f y3 hys hys).mono ?_; rintro e w6' ⟨rfl, n4, rfl⟩
  rw [eqB_self]
  go_wp2_with fail
  go_ret
  refine ⟨rfl, ?_⟩
  simp only [World.heap_drewN] at z3 z5 z6
  have B3 : Below w.heap.size w w3 := below_step (below_drewN' B2 n1) Z2 b3
  have B4 : Below w.heap.size w w4 := below_step B3 (by omega) b4
  have B5 : Below w.heap.size w w5 := below_step (below_drewN' B4 n2) (by simp; omega) b5
  have B6 : Below w.heap.size w w6 := below_step (below_drewN' B5 n3) (by simp; omega) b6
  exact below_drewN' B6 n4

set_option linter.unusedVariables false
theorem laidOut : laidOutB Try.prog = true := by kernel_rfl
theorem own : ownKnob Try.prog.godebug = none := by kernel_rfl
set_option maxRecDepth 100000 in
theorem lifted (os : Os) (started : os.Started) (H : Type) (enc : TypeId × Value → H) :
    ReturnsInHanded {} Try.checked os 6 .any (Rows.fnExactSameLinesSpec.pre6 enc Try.prog Try.f6 Rows.fnExactSameLinesRow.domain false) (Rows.fnExactSameLinesSpec.post enc Try.prog Try.f6 false true false false) := by
  refine returnsInHanded_of_change (C := Try.checked) own started (by kernel_rfl) Try.func6
    (ChangeSpec.witness6 (enc := enc) (C := Try.checked) false ⟨#[], #[.slice none 0 0, .slice none 0 0], []⟩ 8 (by kernel_rfl) (by kernel_rfl) (by kernel_rfl) (by kernel_rfl)) ?_
  intro W base args ds gs before hval0 hW hcnd _
  have hval : ∀ (j : Nat) t v, Try.f6.params[j]? = some t → args[j]? = some v → Value.okWide Try.prog W .any base t v := hval0
  have hW' := hW
  obtain ⟨p, q, hA0, hV, rfl, hfz, hnd⟩ := hW
  have hA : DataW.TrodAll enc Try.prog W 0 (fun _ => true) true Try.f6.params.toList args.toList ds p := hA0
  rw [Try.params6] at hA hval
  obtain ⟨v0, vs0, d0, ds0, p0, q0, hargs, rfl, rfl, h0, r0⟩ := trodAll_cons hA
  obtain ⟨v1, vs1, d1, ds1, p1, q1, rfl, rfl, rfl, h1, r1⟩ := trodAll_cons r0
  obtain ⟨rfl, rfl, rfl⟩ := trodAll_nil r1
  obtain rfl : args = #[v0, v1] := by cases args; simp_all
  obtain ⟨rfl, rfl⟩ := trodVars_none hV
  obtain ⟨a0, len0, cap0, rfl⟩ := okWide_slice Try.underlying22 (hval 0 22 v0 rfl rfl)
  have k0 := h0
  have lt0 : ∀ x ∈ p0, x.block < W.heap.size := by obtain ⟨m, hm⟩ := k0; exact DataW.trod_lt m _ _ _ hm
  obtain ⟨ss0, rfl, w0, n0⟩ := openSS h0 lt0
  obtain ⟨a1, len1, cap1, rfl⟩ := okWide_slice Try.underlying22 (hval 1 22 v1 rfl rfl)
  have k1 := h1
  have lt1 : ∀ x ∈ p1, x.block < W.heap.size := by obtain ⟨m, hm⟩ := k1; exact DataW.trod_lt m _ _ _ hm
  obtain ⟨ss1, rfl, w1, n1⟩ := openSS h1 lt1
  clear hA0 hval0
  refine (walk a0 a1 cap0 cap1 ss0 ss1 W w0 w1 n0 n1).mono fun e W' ⟨he, bel⟩ => ?_
  subst he
  exact ⟨_, rfl, _, _, _, [], _, [], hW', trodAll_mk1 (shut_bool Try.underlying4 _), (trodAll_cons_mk (Below.trod laidOut (by kernel_rfl) (of_decide_eq_true (by kernel_rfl)) k0 bel lt0) (trodAll_cons_mk (Below.trod laidOut (by kernel_rfl) (of_decide_eq_true (by kernel_rfl)) k1 bel lt1) trodAll_mk0)), rfl, bel.frame _, fun h => by cases h⟩

theorem over : Rows.fnExactSameLinesRow.holds Try.pinned (OpenSpec.ofChange Rows.fnExactSameLinesSpec) :=
  OpenClaim.holds_of_wide 6 Try.f6 rfl rfl rfl rfl rfl rfl rfl ⟨rfl, rfl, rfl, rfl, rfl⟩ rfl rfl rfl rfl rfl (by kernel_rfl) Try.func6 (by kernel_rfl)
    (of_decide_eq_true (by kernel_rfl)) (by unfold Func.isWrapper; first | (rw [if_pos (by decide +kernel)]; kernel_rfl) | (rw [if_neg (by decide +kernel)]; exact ⟨rfl, rfl⟩))
    (fun os started H enc _ => lifted os started H enc)

theorem proved : Rows.FnExactSameLinesSaid := over
end Go.Proofs.Ythgoimdlhgdnoag.Same
namespace Go.Proofs.Ythgoimdlhgdnoag
theorem fnExactSameLines_proved : Rows.FnExactSameLinesSaid := Same.proved
end Go.Proofs.Ythgoimdlhgdnoag
