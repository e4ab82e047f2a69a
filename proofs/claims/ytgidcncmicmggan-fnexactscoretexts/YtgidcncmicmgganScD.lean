/- The contracts of l8Score and ScoreTexts. No statement is proved here. -/
import Derived.Test.YtgidcncmicmgganRows
import Derived.Test.YtgidcncmicmgganLem
import Derived.Test.YtgidcncmicmgganStrs
import Derived.Test.YtgidcncmicmgganLFLem
import Derived.Test.YtgidcncmicmgganSplLem
import Derived.Test.YtgidcncmicmgganCom
import Derived.Test.YtgidcncmicmgganDTab
import Derived.Test.YtgidcncmicmgganOwn
import Derived.Test.YtgidcncmicmgganFr
import Derived.Test.YtgidcncmicmgganSTab
import Derived.Test.YtgidcncmicmgganTF
import Derived.Test.YtgidcncmicmgganSpl
import Derived.Test.YtgidcncmicmgganBinC
import Derived.Test.YtgidcncmicmgganScF
import Derived.Test.YtgidcncmicmgganScC
import Derived.WalkKit
import Derived.ProofKit
import Derived.Below
import Derived.WalkSpells
set_option linter.unusedVariables false
namespace Go.Proofs.Ytgidcncmicmggan.Sc
open Go.ChangeShapes Go.WideShapes Go.ChangeAt Go.RowKit

set_option maxRecDepth 20000 in
set_option maxHeartbeats 4000000 in
theorem l8ScoreC (a b : ByteArray) (w : World) (ha : tf a = 0) (hb : tf b = 0) :
    Calls Try.prog 19 #[.string a, .string b] w fun e w' => e = .returned (.int .i64 (scV a b)) ∧ Below w.heap.size w w' := by
  obtain ⟨za, la⟩ := tf_zero ha
  obtain ⟨zb, lb⟩ := tf_zero hb
  have hBa := fun w => specIsBinary a w (by unfold maxLen; omega)
  have hBb := fun w => specIsBinary b w (by unfold maxLen; omega)
  by_cases hab : a = b
  · have HV : Hid (scV a b = 1000) := sc_same hab
    have qab := beq_bytes_true hab
    go_enter Try.func19, Try.ntmps19
    go_wp2
    go_ret
    exact ⟨ret_int HV.out.symm, Below.refl _ _⟩
  have qab := beq_bytes_false hab
  obtain ⟨X, hX⟩ : ∃ X, binB a.data.toList = X := ⟨_, rfl⟩
  obtain ⟨Y, hY⟩ : ∃ X, binB b.data.toList = X := ⟨_, rfl⟩
  rw [hX] at hBa
  rw [hY] at hBb
  cases X with
  | true =>
    have HV : Hid (scV a b = 0) := sc_bin hab (.inl hX)
    go_enter Try.func19, Try.ntmps19
    go_wp2_with fail
    refine (hBa _).mono ?_; rintro e w' ⟨rfl, hw⟩
    have hw2 := hw.symm
    subst hw2
    go_wp2
    go_ret
    exact ⟨ret_int HV.out.symm, Below.refl _ _⟩
  | false =>
  cases Y with
  | true =>
    have HV : Hid (scV a b = 0) := sc_bin hab (.inr hY)
    go_enter Try.func19, Try.ntmps19
    go_wp2_with fail
    refine (hBa _).mono ?_; rintro e w' ⟨rfl, hw⟩
    have hw2 := hw.symm
    subst hw2
    go_wp2_with fail
    refine (hBb _).mono ?_; rintro e w' ⟨rfl, hw⟩
    have hw2 := hw.symm
    subst hw2
    go_wp2
    go_ret
    exact ⟨ret_int HV.out.symm, Below.refl _ _⟩
  | false =>
  have HV : Hid _ := sc_num hab hX hY
  have hpos := lines_some hab
  have h2c := com_two (linesOf a) (linesOf b)
  have hSa := fun w => l1Split a w (by omega)
  have hSb := fun w => l1Split b w (by omega)
  have sma := lines_small a (by omega)
  have smb := lines_small b (by omega)
  clear hX hY
  obtain ⟨xs, hxs⟩ : ∃ xs, linesOf a = xs := ⟨_, rfl⟩
  obtain ⟨ys, hys⟩ : ∃ xs, linesOf b = xs := ⟨_, rfl⟩
  rw [hxs] at hpos h2c la sma HV
  rw [hys] at hpos h2c lb smb HV
  simp only [hxs] at hSa
  simp only [hys] at hSb
  clear hxs hys
  go_enter Try.func19, Try.ntmps19
  go_wp2_with fail
  refine (hBa _).mono ?_; rintro e w' ⟨rfl, hw⟩
  have hw2 := hw.symm
  subst hw2
  go_wp2_with fail
  refine (hBb _).mono ?_; rintro e w' ⟨rfl, hw⟩
  have hw2 := hw.symm
  subst hw2
  clear hBa hBb
  go_wp2_with fail
  refine (hSa _).mono ?_; rintro e w1 ⟨v1, rfl, o1, b1⟩
  obtain ⟨a1, c1, rfl, s1, -⟩ := SS_of_row o1 rfl sma
  clear hSa o1
  go_wp2_with fail
  refine (hSb _).mono ?_; rintro e w2 ⟨v2, rfl, o2, b2⟩
  obtain ⟨a2, c2, rfl, s2, -⟩ := SS_of_row o2 rfl smb
  have s1' := s1.below b2
  have B2 : Below w.heap.size w w2 := b1.trans (b2.mono b1.size)
  clear hSb o2 s1 b1 b2
  go_wp2_with fail
  refine (l2Table _ _ _ _ _ _ _ s1' s2 la lb).mono ?_; rintro e w3 ⟨g, c, rs, T, rfl, hT, hc, b3⟩
  have d1 := hT.c1 0 (by omega)
  have d2 := hT.c2 0 0 (by omega) (by omega)
  rw [hc 0 0 (by omega) (by omega)] at d2
  obtain ⟨q, hq⟩ : ∃ q, rs.getD 0 0 = q := ⟨_, rfl⟩
  rw [hq] at d1 d2
  have B3 : Below w.heap.size w w3 := B2.trans (b3.mono B2.size)
  obtain ⟨cc, hcc⟩ : ∃ c, comAt xs ys 0 0 = c := ⟨_, rfl⟩
  rw [hcc] at d2 h2c HV
  have hnz : (((xs.length : Int) + (ys.length : Int)) == 0) = false := by simp; omega
  have hdv : Int.tdiv (2000 * (cc : Int)) ((xs.length : Int) + (ys.length : Int)) = ((2000 * cc / (xs.length + ys.length) : Nat) : Int) := by
    rw [show (2000 * (cc : Int)) = ((2000 * cc : Nat) : Int) by omega, show ((xs.length : Int) + (ys.length : Int)) = ((xs.length + ys.length : Nat) : Int) by omega, Int.ofNat_tdiv]
  have hle : 2000 * cc / (xs.length + ys.length) ≤ 200000 := Nat.le_trans (Nat.div_le_self _ _) (by omega)
  obtain ⟨V, hV⟩ : ∃ V : Int, ((2000 * cc / (xs.length + ys.length) : Nat) : Int) = V := ⟨_, rfl⟩
  rw [hV] at hdv
  have HE : Hid (scV a b = V) := by show _ = _; rw [HV.out, hV]
  have hv1 : 0 ≤ V ∧ V ≤ 200000 := by rw [← hV]; exact ⟨Int.natCast_nonneg _, Int.ofNat_le.2 hle⟩
  have hne : ¬ ((xs.length : Int) + (ys.length : Int)) = 0 := by omega
  clear hq hc hT b3 s1' s2 B2 hcc hV HV hle
  go_wp2
  go_ret
  exact ⟨ret_int HE.out.symm, B3⟩
/-- What ScoreTexts answers. -/
def stC (a b : ByteArray) : Int := if tf a = 0 then tf b else tf a
def stV (a b : ByteArray) : Int := if tf a = 0 ∧ tf b = 0 then scV a b else 0
set_option maxRecDepth 20000 in
set_option maxHeartbeats 4000000 in
theorem implScoreTexts (a b : ByteArray) (w : World) (hza : a.size ≤ 1048576) (hzb : b.size ≤ 1048576) :
    Calls Try.prog 9 #[.string a, .string b] w fun e w' => e = .returned (.agg #[.int .i64 (stC a b), .int .i64 (stV a b)]) ∧ Below w.heap.size w w' := by
  obtain ⟨r, hr⟩ : ∃ r, w.heap.size = r := ⟨_, rfl⟩
  obtain ⟨W1, hW1⟩ : ∃ W, w.alloc (.cells #[.int .i64 0, .int .i64 0] 24) = W := ⟨_, rfl⟩
  have b1 : Below r w W1 := by rw [← hW1, ← hr]; exact allocBelow _ _
  have z1 : r < W1.heap.size := by rw [← hW1, ← hr]; simp
  have r1 : Res2 W1 r (.int .i64 0) (.int .i64 0) := by rw [← hW1, ← hr]; exact Res2.new _ _ _ _
  have hA := fun w => implTextFault a w hza
  have hB := fun w => implTextFault b w hzb
  obtain ⟨x, hx⟩ : ∃ x, tf a = x := ⟨_, rfl⟩
  obtain ⟨y, hy⟩ : ∃ x, tf b = x := ⟨_, rfl⟩
  by_cases hx0 : tf a = 0
  rotate_left
  · have HC : Hid (stC a b = x ∧ stV a b = 0) := ⟨by unfold stC; rw [if_neg hx0, hx], if_neg (fun q => hx0 q.1)⟩
    rw [hx] at hx0
    simp only [hx] at hA
    have q1 : (x != 0) = true := by simpa using hx0
    go_enter Try.func9, Try.ntmps9
    go_wp2_with fail
    refine (hA _).mono ?_; rintro e w2 HA2
    obtain ⟨rfl, b2⟩ := HA2
    obtain ⟨k0, k1, g0, g1⟩ := r1.below z1 b2
    have B2 : Below r w w2 := b1.trans (b2.mono (Nat.le_of_lt z1))
    clear hA hB r1 b1 b2 hW1
    go_wp2
    refine bodyPost_ret (v := .agg #[.int .i64 x, .int .i64 0]) (by simp [results, Try.results9, go_sem, k0, k1]) rfl ?_
    rw [hr]
    exact ⟨by rw [HC.out.1, HC.out.2], below_sets B2 (Nat.le_refl _) _ _⟩
  have HX : Hid (tf a = 0) := hx0
  rw [hx] at hx0
  simp only [hx] at hA
  subst hx0
  by_cases hy0 : tf b = 0
  rotate_left
  · have HC : Hid (stC a b = y ∧ stV a b = 0) := ⟨by unfold stC; rw [if_pos HX.out, hy], if_neg (fun q => hy0 q.2)⟩
    rw [hy] at hy0
    simp only [hy] at hB
    have q1 : (y != 0) = true := by simpa using hy0
    go_enter Try.func9, Try.ntmps9
    go_wp2_with fail
    refine (hA _).mono ?_; rintro e w2 HA2
    obtain ⟨rfl, b2⟩ := HA2
    go_wp2_with fail
    refine (hB _).mono ?_; rintro e w3 HB3
    obtain ⟨rfl, b3⟩ := HB3
    have b23 : Below W1.heap.size W1 w3 := b2.trans (b3.mono b2.size)
    obtain ⟨k0, k1, g0, g1⟩ := r1.below z1 b23
    have B2 : Below r w w3 := b1.trans (b23.mono (Nat.le_of_lt z1))
    clear hA hB r1 b1 b2 b3 b23 hW1
    go_wp2
    refine bodyPost_ret (v := .agg #[.int .i64 y, .int .i64 0]) (by simp [results, Try.results9, go_sem, k0, k1]) rfl ?_
    rw [hr]
    exact ⟨by rw [HC.out.1, HC.out.2], below_sets B2 (Nat.le_refl _) _ _⟩
  have HY : Hid (tf b = 0) := hy0
  rw [hy] at hy0
  simp only [hy] at hB
  subst hy0
  have HC : Hid (stC a b = 0 ∧ stV a b = scV a b) := ⟨by unfold stC; rw [if_pos HX.out, HY.out], if_pos ⟨HX.out, HY.out⟩⟩
  go_enter Try.func9, Try.ntmps9
  go_wp2_with fail
  refine (hA _).mono ?_; rintro e w2 HA2
  obtain ⟨rfl, b2⟩ := HA2
  go_wp2_with fail
  refine (hB _).mono ?_; rintro e w3 HB3
  obtain ⟨rfl, b3⟩ := HB3
  have b23 : Below W1.heap.size W1 w3 := b2.trans (b3.mono b2.size)
  have r3 := r1.below z1 b23
  have B3 : Below r w w3 := b1.trans (b23.mono (Nat.le_of_lt z1))
  have z3 : r < w3.heap.size := by have := b23.size; omega
  clear hA hB r1 b1 b2 b3 b23 hW1 z1
  go_wp2_with fail
  refine (likenessC a b _ HX.out HY.out).mono ?_; rintro e w4 ⟨⟨q, rfl, hq⟩, b4⟩
  obtain ⟨k0, k1, g0, g1⟩ := r3.below z3 b4
  have B4 : Below r w w4 := B3.trans (b4.mono (Nat.le_of_lt z3))
  have hP : Calls Try.prog 21 #[.float .f64 q] w4 fun e w' => e = .returned (.int .i64 (scV a b)) ∧ w' = w4 := by
    rcases hq with ⟨h1, h2⟩ | ⟨f, h1, h2, h3⟩
    · rw [h2]; exact perMille_nan q w4 h1
    · exact perMille q f _ w4 h1 h2 h3
  obtain ⟨V, hV⟩ : ∃ V, scV a b = V := ⟨_, rfl⟩
  rw [hV] at HC hP
  clear hV r3 b4 B3 hq
  go_wp2_with fail
  refine hP.mono ?_; rintro e w5 ⟨rfl, rfl⟩
  clear hP
  go_wp2
  refine bodyPost_ret (v := .agg #[.int .i64 0, .int .i64 V]) (by simp [results, Try.results9, go_sem, k0, k1]) rfl ?_
  rw [hr]
  exact ⟨by rw [HC.out.1, HC.out.2], below_sets B4 (Nat.le_refl _) _ _⟩
set_option maxRecDepth 20000 in
set_option maxHeartbeats 4000000 in
theorem specScoreTexts (a b : ByteArray) (w : World) (hza : a.size ≤ 1048576) (hzb : b.size ≤ 1048576) :
    Calls Try.prog 8 #[.string a, .string b] w fun e w' => e = .returned (.agg #[.int .i64 (stC a b), .int .i64 (stV a b)]) ∧ Below w.heap.size w w' := by
  obtain ⟨r, hr⟩ : ∃ r, w.heap.size = r := ⟨_, rfl⟩
  obtain ⟨W1, hW1⟩ : ∃ W, w.alloc (.cells #[.int .i64 0, .int .i64 0] 24) = W := ⟨_, rfl⟩
  have b1 : Below r w W1 := by rw [← hW1, ← hr]; exact allocBelow _ _
  have z1 : r < W1.heap.size := by rw [← hW1, ← hr]; simp
  have r1 : Res2 W1 r (.int .i64 0) (.int .i64 0) := by rw [← hW1, ← hr]; exact Res2.new _ _ _ _
  have hA := fun w => specTextFault a w hza
  have hB := fun w => specTextFault b w hzb
  obtain ⟨x, hx⟩ : ∃ x, tf a = x := ⟨_, rfl⟩
  obtain ⟨y, hy⟩ : ∃ x, tf b = x := ⟨_, rfl⟩
  by_cases hx0 : tf a = 0
  rotate_left
  · have HC : Hid (stC a b = x ∧ stV a b = 0) := ⟨by unfold stC; rw [if_neg hx0, hx], if_neg (fun q => hx0 q.1)⟩
    rw [hx] at hx0
    simp only [hx] at hA
    have q1 : (x != 0) = true := by simpa using hx0
    go_enter Try.func8, Try.ntmps8
    go_wp2_with fail
    refine (hA _).mono ?_; rintro e w2 HA2
    obtain ⟨rfl, b2⟩ := HA2
    obtain ⟨k0, k1, g0, g1⟩ := r1.below z1 b2
    have B2 : Below r w w2 := b1.trans (b2.mono (Nat.le_of_lt z1))
    clear hA hB r1 b1 b2 hW1
    go_wp2
    refine bodyPost_ret (v := .agg #[.int .i64 x, .int .i64 0]) (by simp [results, Try.results8, go_sem, k0, k1]) rfl ?_
    rw [hr]
    exact ⟨by rw [HC.out.1, HC.out.2], below_sets B2 (Nat.le_refl _) _ _⟩
  have HX : Hid (tf a = 0) := hx0
  rw [hx] at hx0
  simp only [hx] at hA
  subst hx0
  by_cases hy0 : tf b = 0
  rotate_left
  · have HC : Hid (stC a b = y ∧ stV a b = 0) := ⟨by unfold stC; rw [if_pos HX.out, hy], if_neg (fun q => hy0 q.2)⟩
    rw [hy] at hy0
    simp only [hy] at hB
    have q1 : (y != 0) = true := by simpa using hy0
    go_enter Try.func8, Try.ntmps8
    go_wp2_with fail
    refine (hA _).mono ?_; rintro e w2 HA2
    obtain ⟨rfl, b2⟩ := HA2
    go_wp2_with fail
    refine (hB _).mono ?_; rintro e w3 HB3
    obtain ⟨rfl, b3⟩ := HB3
    have b23 : Below W1.heap.size W1 w3 := b2.trans (b3.mono b2.size)
    obtain ⟨k0, k1, g0, g1⟩ := r1.below z1 b23
    have B2 : Below r w w3 := b1.trans (b23.mono (Nat.le_of_lt z1))
    clear hA hB r1 b1 b2 b3 b23 hW1
    go_wp2
    refine bodyPost_ret (v := .agg #[.int .i64 y, .int .i64 0]) (by simp [results, Try.results8, go_sem, k0, k1]) rfl ?_
    rw [hr]
    exact ⟨by rw [HC.out.1, HC.out.2], below_sets B2 (Nat.le_refl _) _ _⟩
  have HY : Hid (tf b = 0) := hy0
  rw [hy] at hy0
  simp only [hy] at hB
  subst hy0
  have HC : Hid (stC a b = 0 ∧ stV a b = scV a b) := ⟨by unfold stC; rw [if_pos HX.out, HY.out], if_pos ⟨HX.out, HY.out⟩⟩
  go_enter Try.func8, Try.ntmps8
  go_wp2_with fail
  refine (hA _).mono ?_; rintro e w2 HA2
  obtain ⟨rfl, b2⟩ := HA2
  go_wp2_with fail
  refine (hB _).mono ?_; rintro e w3 HB3
  obtain ⟨rfl, b3⟩ := HB3
  have b23 : Below W1.heap.size W1 w3 := b2.trans (b3.mono b2.size)
  have r3 := r1.below z1 b23
  have B3 : Below r w w3 := b1.trans (b23.mono (Nat.le_of_lt z1))
  have z3 : r < w3.heap.size := by have := b23.size; omega
  clear hA hB r1 b1 b2 b3 b23 hW1 z1
  go_wp2_with fail
  refine (l8ScoreC a b _ HX.out HY.out).mono ?_; rintro e w4 ⟨rfl, b4⟩
  obtain ⟨k0, k1, g0, g1⟩ := r3.below z3 b4
  have B4 : Below r w w4 := B3.trans (b4.mono (Nat.le_of_lt z3))
  obtain ⟨V, hV⟩ : ∃ V, scV a b = V := ⟨_, rfl⟩
  rw [hV] at HC ⊢
  clear hV r3 b4 B3
  go_wp2
  refine bodyPost_ret (v := .agg #[.int .i64 0, .int .i64 V]) (by simp [results, Try.results8, go_sem, k0, k1]) rfl ?_
  rw [hr]
  exact ⟨by rw [HC.out.1, HC.out.2], below_sets B4 (Nat.le_refl _) _ _⟩
end Go.Proofs.Ytgidcncmicmggan.Sc
