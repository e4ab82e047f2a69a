/- Proved: at every code FnTrivial returns true (what one side alone changed is taken, and so is what both made the same). No condition: FnTrivialSaid itself. -/
import Derived.Test.YtciddfpkcdicaaaRows
import Derived.Test.YtciddfpkcdicaaaLemQ
import Derived.Test.YtciddfpkcdicaaaMarksQ
import Derived.Test.YtciddfpkcdicaaaDTabQ
import Derived.Test.YtciddfpkcdicaaaHkTQ
import Derived.Test.YtciddfpkcdicaaaTFQ
import Derived.Test.YtciddfpkcdicaaaSplQ
import Derived.Test.YtciddfpkcdicaaaDrawQ
import Derived.Test.YtciddfpkcdicaaaMxJQ
import Derived.Test.YtciddfpkcdicaaaCoTQ
import Derived.Test.YtciddfpkcdicaaaTvMQ
import Derived.Test.YtciddfpkcdicaaaDraw15Q
import Derived.WalkKit
import Derived.ProofKit
import Derived.OpenShut
import Derived.Below
import Derived.WalkSpells
set_option linter.unusedVariables false
namespace Go.Proofs.Ytciddfpkcdicaaa.TvF
open Go.ChangeShapes Go.WideShapes Go.ChangeAt Go.RowKit

theorem lwBig (a : Option Addr) (n cap : Nat) (w : World) : Calls Try.prog 7 #[.slice a n cap] w fun e w' => e = .returned (.bool (decide ((1048576 : Int) < (n : Int)))) ∧ w' = w := by
  go_enter Try.func7, Try.ntmps7
  go_wp2
  go_ret
  exact ⟨rfl, rfl⟩
theorem keepc {w w' : World} {g o : Nat} {v : Value} (b : Below w.heap.size w w') (hg : g < w.heap.size) (d : w.cell? ⟨g, o, none⟩ = some v) : w'.cell? ⟨g, o, none⟩ = some v := (b.cell (p := ⟨g, o, none⟩) hg).trans d
set_option maxRecDepth 20000 in
set_option maxHeartbeats 4000000 in
theorem walk (a : Option Addr) (n cap : Nat) (w : World) (h : Bts w a n) (hm : n ≤ 9223372036854775807) :
    Calls Try.prog 3 #[.slice a n cap] w fun e w' => e = .returned (.bool true) ∧ Below w.heap.size w w' := by
  by_cases hbig : (1048576 : Int) < (n : Int)
  · go_enter Try.func3, Try.ntmps3
    go_wp2_with (go_at_call 7; refine (lwBig _ _ _ _).mono ?_; rintro e w' ⟨rfl, rfl⟩)
    go_ret
    exact ⟨rfl, Below.refl _ _⟩
  have hn : n ≤ 1048576 := by omega
  go_enter Try.func3, Try.ntmps3
  go_wp2_with fail
  refine (lwBig _ _ _ _).mono ?_; rintro e w ⟨rfl, rfl⟩
  go_wp2_with fail
  refine (drawMergeTexts a n cap _ h hn).mono ?_; rintro e w1 ⟨x, y, z, rfl, zx, zy, zz, b1⟩
  have hTx := fun W => specTextFault x W (by omega)
  have hTy := fun W => specTextFault y W (by omega)
  have hIz := fun W => implMergeTexts x y z W (by omega) (by omega) (by omega)
  have hSz := fun W => specMergeTexts x y z W (by omega) (by omega) (by omega)
  have hA := fun W => implMergeTexts x y x W (by omega) (by omega) (by omega)
  have hB := fun W => implMergeTexts x x y W (by omega) (by omega) (by omega)
  have hC := fun W => implMergeTexts x y y W (by omega) (by omega) (by omega)
  have hTriv := fun (h1 : tf x = 0) (h2 : tf y = 0) => mt_trivial h1 h2
  generalize mtR x y z = R at hIz hSz
  generalize mtN x y z = Nn at hIz hSz
  generalize mtT x y z = T at hIz hSz
  generalize tf x = q1 at hTx hTriv
  generalize tf y = q2 at hTy hTriv
  have qR : (R == R) = true := by simp
  have hf0 : ∀ w, (Instr.field 28 (.agg #[.int .i64 R, .int .i64 Nn, .string T]) 0).run Try.prog w = .ok (.int .i64 R) w := fun w => by kernel_rfl
  by_cases e1 : q1 = 0
  · subst e1
    by_cases e2 : q2 = 0
    · subst e2
      obtain ⟨⟨a1, a2, a3⟩, ⟨c1, c2, c3⟩, ⟨d1, d2, d3⟩⟩ := hTriv rfl rfl
      rw [a1, a2, a3] at hA
      rw [c1, c2, c3] at hB
      rw [d1, d2, d3] at hC
      clear hIz hSz hTriv a1 a2 a3 c1 c2 c3 d1 d2 d3 hf0 qR
      go_wp2_with fail
      refine (hTx _).mono ?_; rintro e w2 ⟨rfl, b2⟩
      have B2 := b1.trans (b2.mono b1.size)
      go_wp2_with fail
      refine (hTy _).mono ?_; rintro e w3 ⟨rfl, b3⟩
      have B3 := B2.trans (b3.mono B2.size)
      clear b1 b2 b3 B2 hTx hTy
      go_wp2_with fail
      refine (hA _).mono ?_; rintro e w4 ⟨rfl, b4⟩
      have B4 := B3.trans (b4.mono B3.size)
      obtain ⟨W5, hW5⟩ : ∃ W, w4.alloc (.cells #[.int .i64 0, .int .i64 0, .string y] 28) = W := ⟨_, rfl⟩
      have b5 : Below w4.heap.size w4 W5 := by rw [← hW5]; exact allocBelow _ _
      have u5 : Rf W5 w4.heap.size [.int .i64 0, .int .i64 0, .string y] := by rw [← hW5]; exact Rf.new _ _ _
      have z5 : w4.heap.size < W5.heap.size := by rw [← hW5]; simp
      have B5 := B4.trans (b5.mono B4.size)
      obtain ⟨p, hp⟩ : ∃ p, w4.heap.size = p := ⟨_, rfl⟩
      rw [hp] at u5 z5
      clear b4 b5 B3 B4 hA
      go_wp2_with fail
      refine (hB _).mono ?_; rintro e w6 ⟨rfl, b6⟩
      have B6 := B5.trans (b6.mono B5.size)
      have u6 := u5.below z5 b6
      have z6 : p < w6.heap.size := Nat.lt_of_lt_of_le z5 b6.size
      clear u5 z5 B5 b6 hB
      obtain ⟨W7, hW7⟩ : ∃ W, w6.alloc (.cells #[.int .i64 0, .int .i64 0, .string y] 28) = W := ⟨_, rfl⟩
      have b7 : Below w6.heap.size w6 W7 := by rw [← hW7]; exact allocBelow _ _
      have v7 : Rf W7 w6.heap.size [.int .i64 0, .int .i64 0, .string y] := by rw [← hW7]; exact Rf.new _ _ _
      have z7 : w6.heap.size < W7.heap.size := by rw [← hW7]; simp
      have B7 := B6.trans (b7.mono B6.size)
      have u7 := u6.below z6 b7
      have zp7 : p < W7.heap.size := Nat.lt_of_lt_of_le z6 b7.size
      obtain ⟨p2, hp2⟩ : ∃ p, w6.heap.size = p := ⟨_, rfl⟩
      rw [hp2] at v7 z7
      clear b7 u6 z6 B6
      go_wp2_with fail
      refine (hC _).mono ?_; rintro e w8 ⟨rfl, b8⟩
      have B8 := B7.trans (b8.mono B7.size)
      have u8 := u7.below zp7 b8
      have v8 := v7.below z7 b8
      have zu : p < w8.heap.size := Nat.lt_of_lt_of_le zp7 b8.size
      have zv : p2 < w8.heap.size := Nat.lt_of_lt_of_le z7 b8.size
      clear u7 v7 z7 zp7 B7 b8 hC
      obtain ⟨W9, hW9⟩ : ∃ W, w8.alloc (.cells #[.int .i64 0, .int .i64 0, .string y] 28) = W := ⟨_, rfl⟩
      have b9 : Below w8.heap.size w8 W9 := by rw [← hW9]; exact allocBelow _ _
      have t9 : Rf W9 w8.heap.size [.int .i64 0, .int .i64 0, .string y] := by rw [← hW9]; exact Rf.new _ _ _
      have B9 := B8.trans (b9.mono B8.size)
      have u9 := u8.below zu b9
      have v9 := v8.below zv b9
      obtain ⟨p3, hp3⟩ : ∃ p, w8.heap.size = p := ⟨_, rfl⟩
      rw [hp3] at t9
      have k0 := u9.at_ 0 _ rfl
      have k1 := u9.at_ 1 _ rfl
      have k2 := u9.at_ 2 _ rfl
      have k3 := v9.at_ 0 _ rfl
      have k4 := v9.at_ 1 _ rfl
      have k5 := v9.at_ 2 _ rfl
      have k6 := t9.at_ 0 _ rfl
      have k7 := t9.at_ 1 _ rfl
      have k8 := t9.at_ 2 _ rfl
      have qs : (y.toList == y.toList) = true := by simp
      clear u8 v8 u9 v9 t9 b9 B8
      go_wp2_with fail
      go_ret
      exact ⟨rfl, B9⟩
    · have q : (q2 != 0) = true := by simp [e2]
      clear hA hB hC hTriv e2
      go_wp2_with fail
      refine (hTx _).mono ?_; rintro e w2 ⟨rfl, b2⟩
      have B2 := b1.trans (b2.mono b1.size)
      go_wp2_with fail
      refine (hTy _).mono ?_; rintro e w3 ⟨rfl, b3⟩
      have B3 := B2.trans (b3.mono B2.size)
      clear b1 b2 b3 B2 hTx hTy
      go_wp2_with fail
      refine (hIz _).mono ?_; rintro e w4 ⟨rfl, b4⟩
      have B4 := B3.trans (b4.mono B3.size)
      go_wp2_with fail
      refine (hSz _).mono ?_; rintro e w5 ⟨rfl, b5⟩
      have B5 := B4.trans (b5.mono B4.size)
      clear b4 b5 B3 B4 hIz hSz
      go_wp2_with fail
      go_ret
      exact ⟨rfl, B5⟩
  · have q : (q1 != 0) = true := by simp [e1]
    clear hA hB hC hTriv e1 hTy
    go_wp2_with fail
    refine (hTx _).mono ?_; rintro e w2 ⟨rfl, b2⟩
    have B2 := b1.trans (b2.mono b1.size)
    clear b1 b2 hTx
    go_wp2_with fail
    refine (hIz _).mono ?_; rintro e w4 ⟨rfl, b4⟩
    have B4 := B2.trans (b4.mono B2.size)
    go_wp2_with fail
    refine (hSz _).mono ?_; rintro e w5 ⟨rfl, b5⟩
    have B5 := B4.trans (b5.mono B4.size)
    clear b4 b5 B2 B4 hIz hSz
    go_wp2_with fail
    go_ret
    exact ⟨rfl, B5⟩

set_option linter.unusedVariables false
theorem laidOut : laidOutB Try.prog = true := by kernel_rfl
theorem own : ownKnob Try.prog.godebug = none := by kernel_rfl
set_option maxRecDepth 100000 in
theorem lifted (os : Os) (started : os.Started) (H : Type) (enc : TypeId × Value → H) :
    ReturnsInHanded {} Try.checked os 3 .any (Rows.fnTrivialSpec.pre6 enc Try.prog Try.f3 Rows.fnTrivialRow.domain false) (Rows.fnTrivialSpec.post enc Try.prog Try.f3 false true false false) := by
  refine returnsInHanded_of_change (C := Try.checked) own started (by kernel_rfl) Try.func3
    (ChangeSpec.witness6 (enc := enc) (C := Try.checked) false ⟨#[], #[.slice none 0 0], []⟩ 8 (by kernel_rfl) (by kernel_rfl) (by kernel_rfl) (by kernel_rfl)) ?_
  intro W base args ds gs before hval0 hW hcnd _
  have hval : ∀ (j : Nat) t v, Try.f3.params[j]? = some t → args[j]? = some v → Value.okWide Try.prog W .any base t v := hval0
  have hW' := hW
  obtain ⟨p, q, hA0, hV, rfl, hfz, hnd⟩ := hW
  have hA : DataW.TrodAll enc Try.prog W 0 (fun _ => true) true Try.f3.params.toList args.toList ds p := hA0
  rw [Try.params3] at hA hval
  obtain ⟨v0, vs0, d0, ds0, p0, q0, hargs, rfl, rfl, h0, r0⟩ := trodAll_cons hA
  obtain ⟨rfl, rfl, rfl⟩ := trodAll_nil r0
  obtain rfl : args = #[v0] := by cases args; simp_all
  obtain ⟨rfl, rfl⟩ := trodVars_none hV
  obtain ⟨a0, len0, cap0, rfl⟩ := okWide_slice Try.underlying22 (hval 0 22 v0 rfl rfl)
  have k0 := h0
  have lt0 : ∀ x ∈ p0, x.block < W.heap.size := by obtain ⟨m, hm⟩ := k0; exact DataW.trod_lt m _ _ _ hm
  obtain ⟨w0, n0⟩ := openBts h0 lt0
  clear hA0 hval0
  refine (walk a0 len0 cap0 W w0 n0).mono fun e W' ⟨he, bel⟩ => ?_
  subst he
  exact ⟨_, rfl, _, _, _, [], _, [], hW', trodAll_mk1 (shut_bool Try.underlying4 _), (trodAll_cons_mk (Below.trod laidOut (by kernel_rfl) (of_decide_eq_true (by kernel_rfl)) k0 bel lt0) trodAll_mk0), rfl, bel.frame _, fun h => by cases h⟩

theorem over : Rows.fnTrivialRow.holds Try.pinned (OpenSpec.ofChange Rows.fnTrivialSpec) :=
  OpenClaim.holds_of_wide 3 Try.f3 rfl rfl rfl rfl rfl rfl rfl ⟨rfl, rfl, rfl, rfl, rfl⟩ rfl rfl rfl rfl rfl (by kernel_rfl) Try.func3 (by kernel_rfl)
    (of_decide_eq_true (by kernel_rfl)) (by unfold Func.isWrapper; first | (rw [if_pos (by decide +kernel)]; kernel_rfl) | (rw [if_neg (by decide +kernel)]; exact ⟨rfl, rfl⟩))
    (fun os started H enc _ => lifted os started H enc)

theorem proved : Rows.FnTrivialSaid := over
end Go.Proofs.Ytciddfpkcdicaaa.TvF
namespace Go.Proofs.Ytciddfpkcdicaaa
theorem fnTrivial_proved : Rows.FnTrivialSaid := TvF.proved
end Go.Proofs.Ytciddfpkcdicaaa
