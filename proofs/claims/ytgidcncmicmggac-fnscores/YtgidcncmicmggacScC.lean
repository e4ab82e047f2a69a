/- The contracts of likeness, l8Score and ScoreTexts, of the program and of the specification. No statement is proved here. -/
import Derived.Test.YtgidcncmicmggacRows
import Derived.Test.YtgidcncmicmggacLem
import Derived.Test.YtgidcncmicmggacStrs
import Derived.Test.YtgidcncmicmggacLFLem
import Derived.Test.YtgidcncmicmggacSplLem
import Derived.Test.YtgidcncmicmggacFdL
import Derived.Test.YtgidcncmicmggacMarks
import Derived.Test.YtgidcncmicmggacCom
import Derived.Test.YtgidcncmicmggacDTab
import Derived.Test.YtgidcncmicmggacOwn
import Derived.Test.YtgidcncmicmggacFr
import Derived.Test.YtgidcncmicmggacFill
import Derived.Test.YtgidcncmicmggacSTab
import Derived.Test.YtgidcncmicmggacAlc
import Derived.Test.YtgidcncmicmggacIter
import Derived.Test.YtgidcncmicmggacTF
import Derived.Test.YtgidcncmicmggacSpl
import Derived.Test.YtgidcncmicmggacBinC
import Derived.Test.YtgidcncmicmggacTri
import Derived.Test.YtgidcncmicmggacScK
import Derived.Test.YtgidcncmicmggacScF
import Derived.Test.YtgidcncmicmggacScL
import Derived.WalkKit
import Derived.ProofKit
import Derived.Below
import Derived.WalkSpells
import Derived.Laws.FloatArith
set_option linter.unusedVariables false
namespace Go.Proofs.Ytgidcncmicmggac.Sc
open Go.ChangeShapes Go.WideShapes Go.ChangeAt Go.RowKit

/-- The score of two texts. -/
def scV (a b : ByteArray) : Int := if a = b then 1000 else if binB a.data.toList = true ∨ binB b.data.toList = true then 0 else ((2000 * comAt (linesOf a) (linesOf b) 0 0 / ((linesOf a).length + (linesOf b).length) : Nat) : Int)
theorem sc_same {a b : ByteArray} (h : a = b) : scV a b = 1000 := if_pos h
theorem sc_bin {a b : ByteArray} (h : ¬ a = b) (k : binB a.data.toList = true ∨ binB b.data.toList = true) : scV a b = 0 := by unfold scV; rw [if_neg h, if_pos k]
theorem sc_num {a b : ByteArray} (h : ¬ a = b) (k1 : binB a.data.toList = false) (k2 : binB b.data.toList = false) : scV a b = ((2000 * comAt (linesOf a) (linesOf b) 0 0 / ((linesOf a).length + (linesOf b).length) : Nat) : Int) := by
  unfold scV; rw [if_neg h, if_neg (by rw [k1, k2]; simp)]
theorem lines_nil {s : ByteArray} (h : (linesOf s).length = 0) : s.data.toList = [] := by
  have h' : (spl s.data.toList).length = 0 := by simpa [linesOf, linesFrom] using h
  have := Te.spl_join s.data.toList
  rw [List.length_eq_zero_iff.1 h'] at this
  simpa using this.symm
theorem lines_some {a b : ByteArray} (h : ¬ a = b) : 0 < (linesOf a).length + (linesOf b).length := by
  rcases Nat.eq_zero_or_pos ((linesOf a).length + (linesOf b).length) with q | q
  · refine absurd (WideShapes.bytes_inj ?_) h
    rw [lines_nil (s := a) (by omega), lines_nil (s := b) (by omega)]
  · exact q
theorem tf_zero {s : ByteArray} (h : tf s = 0) : s.size ≤ 2000 ∧ (linesOf s).length ≤ 100 := by
  by_cases q : 2000 < (s.size : Int) ∨ 100 < ((linesOf s).length : Int)
  · rw [tf_many q] at h; cases h
  · omega
theorem com_two (xs ys : List ByteArray) : 2 * comAt xs ys 0 0 ≤ xs.length + ys.length := by
  have := comAt_le xs ys 0 0
  omega
theorem nan_order (t : Nat) : (FloatKind.f64.format.order ((t % 2) * 2 ^ 63 + 0x7ff0000000000000 + 1 + (t / 2) % (2 ^ 52 - 1)) ((t % 2) * 2 ^ 63 + 0x7ff0000000000000 + 1 + (t / 2) % (2 ^ 52 - 1)) != some .eq) = true := by
  have key : ∃ s p, FloatKind.f64.format.read ((t % 2) * 2 ^ 63 + 0x7ff0000000000000 + 1 + (t / 2) % (2 ^ 52 - 1)) = .nan s p := by
    have e1 : FloatKind.f64.format.signWeight = 9223372036854775808 := by decide
    have e2 : FloatKind.f64.format.binade = 4503599627370496 := by decide
    have e3 : FloatKind.f64.format.infRung = 9218868437227405312 := by decide
    unfold Ieee.Format.read
    rw [e1, e2, e3]
    simp only
    have hm : (t / 2) % (2 ^ 52 - 1) < 4503599627370495 := Nat.mod_lt _ (by decide)
    generalize (t / 2) % (2 ^ 52 - 1) = m at hm ⊢
    have hr : ((t % 2) * 2 ^ 63 + 0x7ff0000000000000 + 1 + m) % 9223372036854775808 = 9218868437227405313 + m := by
      have : t % 2 = 0 ∨ t % 2 = 1 := by omega
      rcases this with q | q <;> rw [q] <;> omega
    rw [hr, if_neg (by omega), if_neg (by omega), if_neg (by omega)]
    exact ⟨_, _, rfl⟩
  obtain ⟨s, p, e⟩ := key
  unfold Ieee.Format.order
  rw [e]
  rfl
theorem run_nan (t : TypeId) (w : World) : (binOp .quo t (.float .f64 0) (.float .f64 0)).run Try.prog w = .ok (.float .f64 ((Question.nanBits .f64 0 0).cut (w.tape w.drawn (.nanBits .f64 0 0)))) w.drew := by
  have h : FloatKind.f64.format.div 0 0 = none := by decide +kernel
  have hf : (Question.nanBits .f64 0 0).forced = false := by decide
  simp [binOp, Op.floatArith, h, choose, Sem.run, hf]
/-- How likeness ends. -/
def LK (a b : ByteArray) (q : Nat) : Prop := ((FloatKind.f64.format.order q q != some .eq) = true ∧ scV a b = 1000) ∨ (∃ f, flB q = some f ∧ floatToIntVal .f64 f .i64 = some (scV a b) ∧ (FloatKind.f64.format.order q q != some .eq) = false)
theorem lk_zero {a b : ByteArray} (h : scV a b = 0) : LK a b 0 := .inr ⟨0, by decide +kernel, by rw [h]; decide +kernel, by decide +kernel⟩
set_option maxRecDepth 20000 in
set_option maxHeartbeats 4000000 in
theorem likenessC (a b : ByteArray) (w : World) (ha : tf a = 0) (hb : tf b = 0) :
    Calls Try.prog 17 #[.string a, .string b] w fun e w' => (∃ q, e = .returned (.float .f64 q) ∧ LK a b q) ∧ Below w.heap.size w w' := by
  obtain ⟨za, la⟩ := tf_zero ha
  obtain ⟨zb, lb⟩ := tf_zero hb
  have hBa := fun w => implIsBinary a w
  have hBb := fun w => implIsBinary b w
  obtain ⟨X, hX⟩ : ∃ X, binB a.data.toList = X := ⟨_, rfl⟩
  obtain ⟨Y, hY⟩ : ∃ X, binB b.data.toList = X := ⟨_, rfl⟩
  rw [hX] at hBa
  rw [hY] at hBb
  by_cases hbin : ¬ a = b ∧ (X = true ∨ Y = true)
  · have HL : Hid (LK a b 0) := lk_zero (sc_bin hbin.1 (by rw [hX, hY]; exact hbin.2))
    have q1 := beq_bytes_false hbin.1
    obtain ⟨_, hXY⟩ := hbin
    clear hX hY
    cases X with
    | true =>
      go_enter Try.func17, Try.ntmps17
      go_wp2_with (go_at_call 24; refine (hBa _).mono ?_; rintro e w' ⟨rfl, rfl⟩)
      go_ret
      exact ⟨⟨_, rfl, HL.out⟩, Below.refl _ _⟩
    | false =>
      obtain rfl : Y = true := by simpa using hXY
      go_enter Try.func17, Try.ntmps17
      go_wp2_with (go_at_call 24; first | (refine (hBa _).mono ?_; rintro e w' ⟨rfl, rfl⟩) | (refine (hBb _).mono ?_; rintro e w' ⟨rfl, rfl⟩))
      go_ret
      exact ⟨⟨_, rfl, HL.out⟩, Below.refl _ _⟩
  by_cases hab : a = b
  · subst hab
    have HV : Hid (scV a a = 1000) := sc_same rfl
    have qab := beq_bytes_true (rfl : a = a)
    have hcom : comAt (linesOf a) (linesOf a) 0 0 = (linesOf a).length := by unfold comAt; exact com_self _
    have hcc : ((comAt (linesOf a) (linesOf a) 0 0 : Nat) : Int) = ((linesOf a).length : Int) := by rw [hcom]
    clear hbin hX hY hBa hBb hcom
    by_cases hlen : (linesOf a).length = 0
    · have e0 : floatOfInt .f64 ((linesOf a).length : Int) = 0 := by rw [hlen]; decide +kernel
      have e00 : floatOfInt .f64 (((linesOf a).length : Int) + ((linesOf a).length : Int)) = 0 := by rw [hlen]; decide +kernel
      have hop1 : ∀ t w, (binOp .mul t (.float .f64 4611686018427387904) (.float .f64 (floatOfInt .f64 ((linesOf a).length : Int)))).run Try.prog w = .ok (.float .f64 0) w := fun t w => by rw [e0]; exact run_float_arith w .mul t .f64 _ _ 0 (by decide +kernel)
      have hop2 : ∀ t w, (binOp .mul t (.float .f64 0) (.float .f64 4652007308841189376)).run Try.prog w = .ok (.float .f64 0) w := fun t w => run_float_arith w .mul t .f64 _ _ 0 (by decide +kernel)
      have hop3 : ∀ t w, (binOp .quo t (.float .f64 0) (.float .f64 (floatOfInt .f64 (((linesOf a).length : Int) + ((linesOf a).length : Int))))).run Try.prog w = .ok (.float .f64 ((Question.nanBits .f64 0 0).cut (w.tape w.drawn (.nanBits .f64 0 0)))) w.drew := fun t w => by rw [e00]; exact run_nan t w
      clear e0 e00 hlen
      go_enter Try.func17, Try.ntmps17

      go_wp2_with fail
      refine (linesIn_any a _).mono ?_; rintro e w0 ⟨rfl, rfl⟩
      obtain ⟨W1, hW1⟩ : ∃ W, w.alloc (.cells #[.string a] 9) = W := ⟨_, rfl⟩
      have b1 : Below w.heap.size w W1 := by rw [← hW1]; exact allocBelow _ _
      have z1 : w.heap.size < W1.heap.size := by rw [← hW1]; simp
      have t1 : W1.heap[w.heap.size]? = some (.cells #[.string a] 9 (0, 0)) := by rw [← hW1]; exact World.alloc_heap_new w _
      rw [hW1]
      have hC1 := collectC a w.heap.size W1 (by omega) z1 t1
      clear hW1
      go_wp2_with fail
      refine hC1.mono ?_; rintro e w2 ⟨v1, rfl, o1, b2⟩
      obtain ⟨a1, c1, rfl, s1, -⟩ := SS_of_row o1 rfl (lines_small a (by omega))
      have B2 : Below w.heap.size w w2 := b1.trans (b2.mono b1.size)
      clear hC1 t1 b1 b2 o1
      go_wp2_with fail
      refine (linesIn_any a _).mono ?_; rintro e w0 ⟨rfl, rfl⟩
      obtain ⟨W3, hW3⟩ : ∃ W, w2.alloc (.cells #[.string a] 9) = W := ⟨_, rfl⟩
      have b3 : Below w2.heap.size w2 W3 := by rw [← hW3]; exact allocBelow _ _
      have z3 : w2.heap.size < W3.heap.size := by rw [← hW3]; simp
      have t3 : W3.heap[w2.heap.size]? = some (.cells #[.string a] 9 (0, 0)) := by rw [← hW3]; exact World.alloc_heap_new w2 _
      rw [hW3]
      have hC3 := collectC a w2.heap.size W3 (by omega) z3 t3
      clear hW3
      go_wp2_with fail
      refine hC3.mono ?_; rintro e w4 ⟨v2, rfl, o2, b4⟩
      obtain ⟨a2, c2, rfl, s2, -⟩ := SS_of_row o2 rfl (lines_small a (by omega))
      have B24 : Below w2.heap.size w2 w4 := b3.trans (b4.mono b3.size)
      have B4 : Below w.heap.size w w4 := B2.trans (B24.mono B2.size)
      have s1' := s1.below B24
      clear hC3 t3 b3 b4 o2 B2 B24 s1
      obtain ⟨xs, hxs⟩ : ∃ xs, linesOf a = xs := ⟨_, rfl⟩
      rw [hxs] at s1' s2 hcc la ⊢
      simp only [hxs] at hop1 hop3
      clear hxs
      go_wp2_with (first | fail | (refine wpList_table rfl rfl ?_; intro W5 hD b5 z5))
      have r1 := s1'.toB.below b5
      have r2 := s2.toB.below b5
      refine (fill _ _ _ _ _ _ _ _ hD r1 r2 (by omega) (by omega)).mono ?_; rintro e w6 ⟨rfl, _, g6⟩
      have B6 : Below w4.heap.size w4 w6 := b5.grown g6 b5.size (fun k hk => by cases hk; exact Nat.le_refl _)
      have BB6 : Below w.heap.size w w6 := B4.trans (B6.mono B4.size)
      clear hD r1 r2 g6 b5 z5 s1' s2 B4 B6
      rw [hcc]
      go_wp2
      go_ret
      exact ⟨⟨_, rfl, .inl ⟨nan_order _, HV.out⟩⟩, below_drew BB6⟩
    · obtain ⟨A, Bq, q, f, e1, e2, e3, e4, e5, e6⟩ := score_way (c := (linesOf a).length) (n := (linesOf a).length + (linesOf a).length) (by omega) (by omega) (by omega)
      have hdiv : 2000 * (linesOf a).length / ((linesOf a).length + (linesOf a).length) = 1000 := by
        rw [show 2000 * (linesOf a).length = 1000 * ((linesOf a).length + (linesOf a).length) by omega]
        exact Nat.mul_div_cancel _ (by omega)
      rw [hdiv] at e5
      have HL : Hid (LK a a q) := .inr ⟨f, e4, by rw [HV.out]; exact e5, e6⟩
      have e3' := e3
      rw [Int.natCast_add] at e3'
      clear e3 e4 e5 e6 hdiv hlen HV
      have hop1 : ∀ t w, (binOp .mul t (.float .f64 4611686018427387904) (.float .f64 (floatOfInt .f64 ((linesOf a).length : Int)))).run Try.prog w = .ok (.float .f64 A) w := fun t w => run_float_arith w .mul t .f64 _ _ A e1
      have hop2 : ∀ t w, (binOp .mul t (.float .f64 A) (.float .f64 4652007308841189376)).run Try.prog w = .ok (.float .f64 Bq) w := fun t w => run_float_arith w .mul t .f64 _ _ Bq e2
      have hop3 : ∀ t w, (binOp .quo t (.float .f64 Bq) (.float .f64 (floatOfInt .f64 (((linesOf a).length : Int) + ((linesOf a).length : Int))))).run Try.prog w = .ok (.float .f64 q) w := fun t w => run_float_arith w .quo t .f64 _ _ q e3'
      go_enter Try.func17, Try.ntmps17

      go_wp2_with fail
      refine (linesIn_any a _).mono ?_; rintro e w0 ⟨rfl, rfl⟩
      obtain ⟨W1, hW1⟩ : ∃ W, w.alloc (.cells #[.string a] 9) = W := ⟨_, rfl⟩
      have b1 : Below w.heap.size w W1 := by rw [← hW1]; exact allocBelow _ _
      have z1 : w.heap.size < W1.heap.size := by rw [← hW1]; simp
      have t1 : W1.heap[w.heap.size]? = some (.cells #[.string a] 9 (0, 0)) := by rw [← hW1]; exact World.alloc_heap_new w _
      rw [hW1]
      have hC1 := collectC a w.heap.size W1 (by omega) z1 t1
      clear hW1
      go_wp2_with fail
      refine hC1.mono ?_; rintro e w2 ⟨v1, rfl, o1, b2⟩
      obtain ⟨a1, c1, rfl, s1, -⟩ := SS_of_row o1 rfl (lines_small a (by omega))
      have B2 : Below w.heap.size w w2 := b1.trans (b2.mono b1.size)
      clear hC1 t1 b1 b2 o1
      go_wp2_with fail
      refine (linesIn_any a _).mono ?_; rintro e w0 ⟨rfl, rfl⟩
      obtain ⟨W3, hW3⟩ : ∃ W, w2.alloc (.cells #[.string a] 9) = W := ⟨_, rfl⟩
      have b3 : Below w2.heap.size w2 W3 := by rw [← hW3]; exact allocBelow _ _
      have z3 : w2.heap.size < W3.heap.size := by rw [← hW3]; simp
      have t3 : W3.heap[w2.heap.size]? = some (.cells #[.string a] 9 (0, 0)) := by rw [← hW3]; exact World.alloc_heap_new w2 _
      rw [hW3]
      have hC3 := collectC a w2.heap.size W3 (by omega) z3 t3
      clear hW3
      go_wp2_with fail
      refine hC3.mono ?_; rintro e w4 ⟨v2, rfl, o2, b4⟩
      obtain ⟨a2, c2, rfl, s2, -⟩ := SS_of_row o2 rfl (lines_small a (by omega))
      have B24 : Below w2.heap.size w2 w4 := b3.trans (b4.mono b3.size)
      have B4 : Below w.heap.size w w4 := B2.trans (B24.mono B2.size)
      have s1' := s1.below B24
      clear hC3 t3 b3 b4 o2 B2 B24 s1
      obtain ⟨xs, hxs⟩ : ∃ xs, linesOf a = xs := ⟨_, rfl⟩
      rw [hxs] at s1' s2 hcc la ⊢
      simp only [hxs] at hop1 hop3
      clear hxs
      go_wp2_with (first | fail | (refine wpList_table rfl rfl ?_; intro W5 hD b5 z5))
      have r1 := s1'.toB.below b5
      have r2 := s2.toB.below b5
      refine (fill _ _ _ _ _ _ _ _ hD r1 r2 (by omega) (by omega)).mono ?_; rintro e w6 ⟨rfl, _, g6⟩
      have B6 : Below w4.heap.size w4 w6 := b5.grown g6 b5.size (fun k hk => by cases hk; exact Nat.le_refl _)
      have BB6 : Below w.heap.size w w6 := B4.trans (B6.mono B4.size)
      clear hD r1 r2 g6 b5 z5 s1' s2 B4 B6
      rw [hcc]
      go_wp2
      go_ret
      exact ⟨⟨_, rfl, HL.out⟩, BB6⟩
  · have hX0 : X = false := by cases X with | false => rfl | true => exact absurd ⟨hab, .inl rfl⟩ hbin
    have hY0 : Y = false := by cases Y with | false => rfl | true => exact absurd ⟨hab, .inr rfl⟩ hbin
    subst hX0
    subst hY0
    have HV : Hid _ := sc_num hab hX hY
    have qab := beq_bytes_false hab
    have hpos := lines_some hab
    have h2c := com_two (linesOf a) (linesOf b)
    clear hbin hX hY
    obtain ⟨cc, hc0⟩ : ∃ c, comAt (linesOf a) (linesOf b) 0 0 = c := ⟨_, rfl⟩
    rw [hc0] at HV h2c
    obtain ⟨A, Bq, q, f, e1, e2, e3, e4, e5, e6⟩ := score_way (c := cc) (n := (linesOf a).length + (linesOf b).length) (by omega) hpos h2c
    have HL : Hid (LK a b q) := .inr ⟨f, e4, by rw [HV.out]; exact e5, e6⟩
    have hcc : ((comAt (linesOf a) (linesOf b) 0 0 : Nat) : Int) = (cc : Int) := by rw [hc0]
    have e3' := e3
    rw [Int.natCast_add] at e3'
    clear e3 e4 e5 e6 HV hpos h2c hc0
    have hop1 : ∀ t w, (binOp .mul t (.float .f64 4611686018427387904) (.float .f64 (floatOfInt .f64 (cc : Int)))).run Try.prog w = .ok (.float .f64 A) w := fun t w => run_float_arith w .mul t .f64 _ _ A e1
    have hop2 : ∀ t w, (binOp .mul t (.float .f64 A) (.float .f64 4652007308841189376)).run Try.prog w = .ok (.float .f64 Bq) w := fun t w => run_float_arith w .mul t .f64 _ _ Bq e2
    have hop3 : ∀ t w, (binOp .quo t (.float .f64 Bq) (.float .f64 (floatOfInt .f64 (((linesOf a).length : Int) + ((linesOf b).length : Int))))).run Try.prog w = .ok (.float .f64 q) w := fun t w => run_float_arith w .quo t .f64 _ _ q e3'
    go_enter Try.func17, Try.ntmps17
    go_wp2_with fail
    refine (hBa _).mono ?_; rintro e w' ⟨rfl, hw⟩
    have hw2 := hw.symm
    subst hw2
    go_wp2_with fail
    refine (hBb _).mono ?_; rintro e w' ⟨rfl, hw⟩
    have hw2 := hw.symm
    subst hw2
    go_wp2_with fail
    refine (linesIn_any a _).mono ?_; rintro e w0 ⟨rfl, rfl⟩
    obtain ⟨W1, hW1⟩ : ∃ W, w.alloc (.cells #[.string a] 9) = W := ⟨_, rfl⟩
    have b1 : Below w.heap.size w W1 := by rw [← hW1]; exact allocBelow _ _
    have z1 : w.heap.size < W1.heap.size := by rw [← hW1]; simp
    have t1 : W1.heap[w.heap.size]? = some (.cells #[.string a] 9 (0, 0)) := by rw [← hW1]; exact World.alloc_heap_new w _
    rw [hW1]
    have hC1 := collectC a w.heap.size W1 (by omega) z1 t1
    clear hW1
    go_wp2_with fail
    refine hC1.mono ?_; rintro e w2 ⟨v1, rfl, o1, b2⟩
    obtain ⟨a1, c1, rfl, s1, -⟩ := SS_of_row o1 rfl (lines_small a (by omega))
    have B2 : Below w.heap.size w w2 := b1.trans (b2.mono b1.size)
    clear hC1 t1 b1 b2 o1
    go_wp2_with fail
    refine (linesIn_any b _).mono ?_; rintro e w0 ⟨rfl, rfl⟩
    obtain ⟨W3, hW3⟩ : ∃ W, w2.alloc (.cells #[.string b] 9) = W := ⟨_, rfl⟩
    have b3 : Below w2.heap.size w2 W3 := by rw [← hW3]; exact allocBelow _ _
    have z3 : w2.heap.size < W3.heap.size := by rw [← hW3]; simp
    have t3 : W3.heap[w2.heap.size]? = some (.cells #[.string b] 9 (0, 0)) := by rw [← hW3]; exact World.alloc_heap_new w2 _
    rw [hW3]
    have hC3 := collectC b w2.heap.size W3 (by omega) z3 t3
    clear hW3
    go_wp2_with fail
    refine hC3.mono ?_; rintro e w4 ⟨v2, rfl, o2, b4⟩
    obtain ⟨a2, c2, rfl, s2, -⟩ := SS_of_row o2 rfl (lines_small b (by omega))
    have B24 : Below w2.heap.size w2 w4 := b3.trans (b4.mono b3.size)
    have B4 : Below w.heap.size w w4 := B2.trans (B24.mono B2.size)
    have s1' := s1.below B24
    clear hC3 t3 b3 b4 o2 B2 B24 s1
    obtain ⟨xs, hxs⟩ : ∃ xs, linesOf a = xs := ⟨_, rfl⟩
    obtain ⟨ys, hys⟩ : ∃ ys, linesOf b = ys := ⟨_, rfl⟩
    rw [hxs] at s1' hcc la ⊢
    simp only [hxs] at hop3
    rw [hys] at s2 hcc lb ⊢
    simp only [hys] at hop3
    clear hxs hys
    go_wp2_with (first | fail | (refine wpList_table rfl rfl ?_; intro W5 hD b5 z5))
    have r1 := s1'.toB.below b5
    have r2 := s2.toB.below b5
    refine (fill _ _ _ _ _ _ _ _ hD r1 r2 (by omega) (by omega)).mono ?_; rintro e w6 ⟨rfl, _, g6⟩
    have B6 : Below w4.heap.size w4 w6 := b5.grown g6 b5.size (fun k hk => by cases hk; exact Nat.le_refl _)
    have BB6 : Below w.heap.size w w6 := B4.trans (B6.mono B4.size)
    clear hD r1 r2 g6 b5 z5 s1' s2 B4 B6
    rw [hcc]
    go_wp2
    go_ret
    exact ⟨⟨_, rfl, HL.out⟩, BB6⟩
end Go.Proofs.Ytgidcncmicmggac.Sc
