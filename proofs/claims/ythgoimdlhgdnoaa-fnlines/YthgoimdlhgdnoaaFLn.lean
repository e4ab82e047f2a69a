/- Proved: at every code of bytes FnLines returns true (a text is its lines, joined; lines that are right are those of their text), and the code reads as before. No condition: FnLinesSaid itself. -/
import Derived.Test.YthgoimdlhgdnoaaRows
import Derived.Test.YthgoimdlhgdnoaaLem
import Derived.Test.YthgoimdlhgdnoaaStrs
import Derived.Test.YthgoimdlhgdnoaaLF
import Derived.Test.YthgoimdlhgdnoaaJoin
import Derived.Test.YthgoimdlhgdnoaaSpl
import Derived.Test.YthgoimdlhgdnoaaSplI
import Derived.Test.YthgoimdlhgdnoaaDigC
import Derived.Test.YthgoimdlhgdnoaaSameC
import Derived.Test.YthgoimdlhgdnoaaDraw3
import Derived.Test.YthgoimdlhgdnoaaDraw4
import Derived.Test.YthgoimdlhgdnoaaRtLem
import Derived.Test.YthgoimdlhgdnoaaFrm
import Derived.WalkKit
import Derived.ProofKit
import Derived.OpenShut
import Derived.Below
import Derived.Carry
import Derived.Deep.QuietTactic
import Derived.BigQuiet
import Derived.Deep.RegionWith
namespace Go.Proofs.Ythgoimdlhgdnoaa.FLn
open Go.ChangeShapes Go.WideShapes Go.ChangeAt Go.RowKit

theorem lwBig (a : Option Addr) (n cap : Nat) (w : World) : Calls Try.prog 4 #[.slice a n cap] w fun e w' => e = .returned (.bool (decide ((1048576 : Int) < (n : Int)))) ∧ w' = w := by
  go_enter Try.func4, Try.ntmps4
  go_wp2
  go_ret
  exact ⟨rfl, rfl⟩

set_option maxHeartbeats 4000000 in
theorem walk (a : Option Addr) (n cap : Nat) (w : World) (h : Bts w a n) (hm : n ≤ 9223372036854775807) :
    Calls Try.prog 3 #[.slice a n cap] w fun e w' => e = .returned (.bool true) ∧ Below w.heap.size w w' := by
  by_cases hbig : (1048576 : Int) < (n : Int)
  · go_enter Try.func3, Try.ntmps3
    go_wp2_with (go_at_call 4; refine (lwBig _ _ _ _).mono ?_; rintro e w' ⟨rfl, rfl⟩)
    go_ret
    exact ⟨rfl, Below.refl _ _⟩
  have hn : n ≤ 1048576 := by omega
  go_enter Try.func3, Try.ntmps3
  go_wp2_with fail
  refine (lwBig _ _ _ _).mono ?_; rintro e w ⟨rfl, rfl⟩
  go_wp2_with fail
  refine (drawSplitLines a n cap _ h hn).mono ?_; rintro e w1 ⟨x, rfl, hx, b1⟩
  have h1 := h.below b1
  have hxs : x.size ≤ 1048576 := by omega
  have hsm : ∀ k, k < (splitL x).length → ((splitL x).getD k ByteArray.empty).size ≤ 9223372036854775807 := by
    unfold splitL
    split
    · exact lines_small x hxs
    · intro k hk; exact absurd hk (Nat.not_lt_zero _)
  have hle : (splitL x).length ≤ 4096 := by
    have := lines_le x
    unfold splitL
    split
    · omega
    · simp
  go_wp2_with fail
  refine (implSplitLines x _ hxs).mono ?_; rintro e w2 ⟨v, rfl, own2, b2⟩
  obtain ⟨x1, k1, rfl, S2, _⟩ := SS_of_row own2 rfl hsm
  have B2 := b1.trans (b2.mono b1.size)
  have h2 := h1.below b2
  obtain ⟨W2, hW2⟩ : ∃ W2, w2.alloc (.cells #[.int .i64 (tf x), .slice x1 (splitL x).length k1] 27) = W2 := ⟨_, rfl⟩
  have t2 : Two W2 w2.heap.size (.int .i64 (tf x)) (.slice x1 (splitL x).length k1) := by rw [← hW2]; exact Two.new _ _ _ _
  have bW2 : Below w2.heap.size w2 W2 := by rw [← hW2]; exact alloc_below _ _
  have Z2 : Hid (W2.heap.size = w2.heap.size + 1) := by show W2.heap.size = _; rw [← hW2]; simp
  have hST := fun w => specTextFault x w hxs
  by_cases hc : tf x = 0
  · have hJ := splitL_ok hc
    have hlf := lf_lines hc
    have hjt : joinText (linesOf x) = x := (joinText_ok hlf).trans (join_lines x)
    rw [hJ] at S2 t2 hW2 hsm hle ⊢
    rw [hc] at t2 hW2 ⊢
    have htot : tot (linesOf x) ≤ 1048576 := by rw [← catB_size, join_lines]; omega
    obtain ⟨L, hL⟩ : ∃ L, linesOf x = L := ⟨_, rfl⟩
    rw [hL] at S2 t2 hW2 hsm hle hlf hjt htot ⊢
    have HW2 : Hid (w2.alloc (.cells #[.int .i64 0, .slice x1 L.length k1] 27) = W2) := hW2
    have hLn : L.length ≤ 1048576 := by omega
    have SW2 := S2.below bW2
    have hW := h2.below bW2
    have BW2 := B2.trans (bW2.mono B2.size)
    clear hW2 own2 hL hJ hc hST h h1 h2 S2 bW2 b1 b2 B2 hsm
    go_wp2_with fail
    rw [HW2.out]
    clear HW2
    refine (implJoinLines _ _ _ _ SW2 hLn htot).mono ?_; rintro e w3 ⟨rfl, b3⟩
    rw [hlf, hjt]
    have t23 := t2.below b3
    have S3 := SW2.below b3
    have h3 := hW.below b3
    have B3 := BW2.trans (b3.mono BW2.size)
    clear t2 SW2 hW BW2 b3
    go_wp2_with fail
    obtain ⟨W3, hW3⟩ : ∃ W3, w3.alloc (.cells #[.int .i64 0, .string x] 31) = W3 := ⟨_, rfl⟩
    have t5 : Two W3 w3.heap.size (.int .i64 0) (.string x) := by rw [← hW3]; exact Two.new _ _ _ _
    have bW3 : Below w3.heap.size w3 W3 := by rw [← hW3]; exact alloc_below _ _
    rw [hW3]
    clear hW3
    refine (drawJoinLines a n cap _ (h3.below bW3) hn).mono ?_; rintro e w4 ⟨y, k4, ss, rfl, Sy, hsl, hst, b4⟩
    have t24 := (t23.below bW3).below b4
    have t54 := t5.below b4
    have S4 := (S3.below bW3).below b4
    have B4 := (B3.trans (bW3.mono B3.size)).trans (b4.mono (by have := B3.size; have := bW3.size; omega))
    clear t23 S3 h3 B3 bW3 t5 b4
    go_wp2_with fail
    refine (implJoinLines _ _ _ _ Sy (by omega) (by omega)).mono ?_; rintro e w5 ⟨rfl, b5⟩
    have t25 := t24.below b5
    have t55 := t54.below b5
    have S5 := S4.below b5
    have Sy5 := Sy.below b5
    have B5 := B4.trans (b5.mono B4.size)
    clear t24 t54 S4 Sy B4 b5
    obtain ⟨W5, hW5⟩ : ∃ W5, w5.alloc (.cells #[.int .i64 (lf ss), .string (joinText ss)] 31) = W5 := ⟨_, rfl⟩
    have t7 : Two W5 w5.heap.size (.int .i64 (lf ss)) (.string (joinText ss)) := by rw [← hW5]; exact Two.new _ _ _ _
    have bW5 : Below w5.heap.size w5 W5 := by rw [← hW5]; exact alloc_below _ _
    have t25W := t25.below bW5
    have t55W := t55.below bW5
    have S5W := S5.below bW5
    have Sy5W := Sy5.below bW5
    have B5W := B5.trans (bW5.mono B5.size)
    clear t25 t55 S5 Sy5 B5 bW5
    by_cases hj : lf ss = 0
    · have hjo := joinText_ok hj
      have htj := tf_join hj
      have hlj := lines_join hj
      have hzs : (catB ss).size ≤ 1048576 := by have := catB_size ss; omega
      have hsp : splitL (catB ss) = ss := (splitL_ok htj).trans hlj
      obtain ⟨z, hz⟩ : ∃ z, catB ss = z := ⟨_, rfl⟩
      rw [hz] at htj hzs hsp hjo
      rw [hj, hjo] at t7 hW5 ⊢
      have hI := fun w => implSplitLines z w hzs
      rw [hsp, htj] at hI
      have hssm : ∀ k, k < ss.length → (ss.getD k ByteArray.empty).size ≤ 9223372036854775807 := Sy5W.1
      have HW5 : Hid (w5.alloc (.cells #[.int .i64 0, .string z] 31) = W5) := hW5
      clear hW5 hz hsp hjo htj hlj hj hzs
      go_wp2_with fail
      rw [HW5.out]
      clear HW5 t7
      refine (hI _).mono ?_; rintro e w6 ⟨v, rfl, own6, b6⟩
      obtain ⟨x6, k6, rfl, S6, _⟩ := SS_of_row own6 rfl hssm
      have t26 := t25W.below b6
      have t56 := t55W.below b6
      have SL6 := S5W.below b6
      have Sy6 := Sy5W.below b6
      have B6 := B5W.trans (b6.mono B5W.size)
      clear t25W t55W S5W Sy5W B5W b6 own6
      have u20 := fun o => (t26.alloc o).1
      have u21 := fun o => (t26.alloc o).2
      go_wp2_with fail
      obtain ⟨W6, hW6⟩ : ∃ W6, w6.alloc (.cells #[.int .i64 0, .slice x6 ss.length k6] 27) = W6 := ⟨_, rfl⟩
      have t8 : Two W6 w6.heap.size (.int .i64 0) (.slice x6 ss.length k6) := by rw [← hW6]; exact Two.new _ _ _ _
      have bW6 : Below w6.heap.size w6 W6 := by rw [← hW6]; exact alloc_below _ _
      rw [hW6]
      have t5W := t56.below bW6
      have SLW := SL6.below bW6
      have SyW := Sy6.below bW6
      have S6W := S6.below bW6
      have BW := B6.trans (bW6.mono B6.size)
      clear hW6 u20 u21 t26 t56 SL6 Sy6 S6 B6 bW6
      refine (implLinesFault _ _ _ _ SLW hLn).mono ?_; rintro e W6 ⟨rfl, rfl⟩
      rw [hlf]
      have q0 := t5W.1
      have q1 := t5W.2
      have q2 := t8.1
      have q3 := t8.2
      have hxx := beq_bytes_true (rfl : x = x)
      go_wp2_with fail
      refine (Same.implSameLines _ _ _ _ _ _ _ S6W SyW (by omega) (by omega)).mono ?_; rintro e w7 ⟨rfl, n7, rfl⟩
      rw [eqB_self]
      obtain ⟨d, hd⟩ : ∃ d, dig x.data.toList = d := ⟨_, rfl⟩
      have hdd : (d == d) = true := by simp
      have hD1 := fun w => implDigestOf x w (by unfold maxLen; omega)
      have hD2 := fun w => specDigestOf x w (by unfold maxLen; omega)
      rw [hd] at hD1 hD2
      clear q0 q1 q2 q3 SLW SyW S6W t5W t8
      go_wp2_with fail
      refine (hD1 _).mono ?_; rintro e w8 ⟨rfl, hw8⟩
      go_wp2_with fail
      refine (hD2 _).mono ?_; rintro e w9 ⟨rfl, hw9⟩
      go_wp2_with fail
      go_ret
      exact ⟨rfl, below_drewN' BW n7⟩
    · have hne : (lf ss != 0) = true := by simpa using hj
      have hSL := fun w hS => specLinesFault y k4 ss w hS (by omega) (by omega)
      obtain ⟨c, hce⟩ : ∃ c, lf ss = c := ⟨_, rfl⟩
      rw [hce] at hne hSL t7 hW5 ⊢
      have HW5 : Hid (w5.alloc (.cells #[.int .i64 c, .string (joinText ss)] 31) = W5) := hW5
      clear hce hj hW5
      go_wp2_with fail
      rw [HW5.out]
      have q0 := t7.1
      have q1 := t55W.1
      have q2 := t55W.2
      have hcc : (c == c) = true := by simp
      have hxx := beq_bytes_true (rfl : x = x)
      clear HW5
      go_quiet ((go_at_call 10; exact Calls.quiet_of_same (hSL _ Sy5W)))
      go_wp2
      go_ret
      exact ⟨rfl, below_drewN' B5W _⟩
  · have hne : (tf x != 0) = true := by simpa using hc
    obtain ⟨c, hce⟩ : ∃ c, tf x = c := ⟨_, rfl⟩
    rw [hce] at hne hST t2 hW2 ⊢
    have HW2 : Hid (w2.alloc (.cells #[.int .i64 c, .slice x1 (splitL x).length k1] 27) = W2) := hW2
    clear hce hc hW2
    go_wp2_with fail
    rw [HW2.out]
    have q0 := t2.1
    have hB2 := B2.trans (bW2.mono B2.size)
    have hlt2 : w2.heap.size < W2.heap.size := by have := Z2.out; omega
    have hcc : (c == c) = true := by simp
    clear HW2 t2 own2 S2 h1 h2 h b1 b2 bW2 Z2 hsm
    go_region_with (go_at_call 7; refine (hST _).mono ?_; rintro e w3 ⟨rfl, b3⟩; have q3 : w3.cell? ⟨w2.heap.size, 0, none⟩ = some (.int .i64 c) := (b3.cell (p := ⟨w2.heap.size, 0, none⟩) hlt2).trans q0)
    all_goals
      go_wp2
      go_ret
      exact ⟨rfl, hB2.drew.trans (b3.mono hB2.size)⟩

set_option linter.unusedVariables false
theorem laidOut : laidOutB Try.prog = true := by kernel_rfl
theorem own : ownKnob Try.prog.godebug = none := by kernel_rfl
set_option maxRecDepth 100000 in
theorem lifted (os : Os) (started : os.Started) (H : Type) (enc : TypeId × Value → H) :
    ReturnsInHanded {} Try.checked os 3 .any (Rows.fnLinesSpec.pre6 enc Try.prog Try.f3 Rows.fnLinesRow.domain false) (Rows.fnLinesSpec.post enc Try.prog Try.f3 false true false false) := by
  refine returnsInHanded_of_change (C := Try.checked) own started (by kernel_rfl) Try.func3
    (ChangeSpec.witness6 (enc := enc) (C := Try.checked) false ⟨#[], #[.slice none 0 0], []⟩ 8 (by kernel_rfl) (by kernel_rfl) (by kernel_rfl) (by kernel_rfl)) ?_
  intro W base args ds gs before hval0 hW hcnd _
  have hval : ∀ (j : Nat) t v, Try.f3.params[j]? = some t → args[j]? = some v → Value.okWide Try.prog W .any base t v := hval0
  have hW' := hW
  obtain ⟨p, q, hA0, hV, rfl, hfz, hnd⟩ := hW
  have hA : DataW.TrodAll enc Try.prog W 0 (fun _ => true) true Try.f3.params.toList args.toList ds p := hA0
  rw [Try.params3] at hA hval
  obtain ⟨v0, vs0, d0, ds0, p0, q0, hargs, rfl, rfl, h0, r0⟩ := trodAll_cons hA
  obtain ⟨rfl, rfl, rfl⟩ := trodAll_nil r0
  obtain rfl : args = #[v0] := by cases args; simp_all
  obtain ⟨rfl, rfl⟩ := trodVars_none hV
  obtain ⟨a0, len0, cap0, rfl⟩ := okWide_slice Try.underlying22 (hval 0 22 v0 rfl rfl)
  have k0 := h0
  have lt0 : ∀ x ∈ p0, x.block < W.heap.size := by obtain ⟨m, hm⟩ := k0; exact DataW.trod_lt m _ _ _ hm
  obtain ⟨w0, n0⟩ := openBts h0 lt0
  clear hA0 hval0
  refine (walk a0 len0 cap0 W w0 n0).mono fun e W' ⟨he, bel⟩ => ?_
  subst he
  exact ⟨_, rfl, _, _, _, [], _, [], hW', trodAll_mk1 (shut_bool Try.underlying4 _), (trodAll_cons_mk (Below.trod laidOut (by kernel_rfl) (of_decide_eq_true (by kernel_rfl)) k0 bel lt0) trodAll_mk0), rfl, bel.frame _, fun h => by cases h⟩

theorem over : Rows.fnLinesRow.holds Try.pinned (OpenSpec.ofChange Rows.fnLinesSpec) :=
  OpenClaim.holds_of_wide 3 Try.f3 rfl rfl rfl rfl rfl rfl rfl ⟨rfl, rfl, rfl, rfl, rfl⟩ rfl rfl rfl rfl rfl (by kernel_rfl) Try.func3 (by kernel_rfl)
    (of_decide_eq_true (by kernel_rfl)) (by unfold Func.isWrapper; first | (rw [if_pos (by decide +kernel)]; kernel_rfl) | (rw [if_neg (by decide +kernel)]; exact ⟨rfl, rfl⟩))
    (fun os started H enc _ => lifted os started H enc)

theorem proved : Rows.FnLinesSaid := over
end Go.Proofs.Ythgoimdlhgdnoaa.FLn
namespace Go.Proofs.Ythgoimdlhgdnoaa
theorem fnLines_proved : Rows.FnLinesSaid := FLn.proved
end Go.Proofs.Ythgoimdlhgdnoaa
