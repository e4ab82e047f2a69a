/- Proved: at every text FnExactSplitLines returns true (SplitLines answers as its specification, field by field; its answer owns its memory, behind another call too; the text reads as before). No condition: FnExactSplitLinesSaid itself. -/
import Derived.Test.YthgoimdlhgdnoafRows
import Derived.Test.YthgoimdlhgdnoafLem
import Derived.Test.YthgoimdlhgdnoafStrs
import Derived.Test.YthgoimdlhgdnoafMarks
import Derived.Test.YthgoimdlhgdnoafTF
import Derived.Test.YthgoimdlhgdnoafSpl
import Derived.Test.YthgoimdlhgdnoafSplI
import Derived.Test.YthgoimdlhgdnoafSplS
import Derived.WalkKit
import Derived.ProofKit
import Derived.OpenShut
import Derived.ShutString
import Derived.Below
namespace Go.Proofs.Ythgoimdlhgdnoaf.SplLaw
open Go.ChangeShapes Go.WideShapes Go.ChangeAt Go.RowKit
open Go.ChangeMaps (open_string shut_string)

/-- A slice of strings that lies below block B. -/
def SSB (B : Nat) (w : World) (a : Option Addr) (ss : List ByteArray) : Prop :=
  (∀ k, k < ss.length → (ss.getD k ByteArray.empty).size ≤ 9223372036854775807) ∧
  ∀ k, k < ss.length → ∃ b off, a = some ⟨b, off, none⟩ ∧ b < B ∧ w.cell? ⟨b, off + k, none⟩ = some (.string (ss.getD k ByteArray.empty))
theorem SSB.toSS {B : Nat} {w : World} {a : Option Addr} {ss : List ByteArray} (h : SSB B w a ss) (hB : B ≤ w.heap.size) : SS w a ss :=
  ⟨h.1, fun k hk => by obtain ⟨b, off, e, hb, hc⟩ := h.2 k hk; exact ⟨b, off, e, by omega, hc⟩⟩
theorem SSB.grown {B : Nat} {w w' : World} {row : Option Nat} {a : Option Addr} {ss : List ByteArray} (h : SSB B w a ss) (hg : w.grownBy w' row) (hr : ∀ k, row = some k → B ≤ k) : SSB B w' a ss :=
  ⟨h.1, fun k hk => by
    obtain ⟨b, off, e, hb, hc⟩ := h.2 k hk
    exact ⟨b, off, e, hb, hg.cell hc (fun e' => by have := hr b e'.symm; omega)⟩⟩
theorem SSB.below {B : Nat} {w w' : World} {a : Option Addr} {ss : List ByteArray} (h : SSB B w a ss) (hb : Below w.heap.size w w') : SSB B w' a ss := h.grown (grown_of_below hb none) (fun _ e => by cases e)
theorem alloc_below (w : World) (o : Obj) : Below w.heap.size w (w.alloc o) := (Below.refl _ _).alloc (Nat.le_refl _) _
theorem splitL_le (s : ByteArray) : (splitL s).length ≤ s.size := by
  unfold splitL
  split
  · exact lines_le s
  · simp
theorem splitL_small (s : ByteArray) (hs : s.size ≤ 1048576) : ∀ k, k < (splitL s).length → ((splitL s).getD k ByteArray.empty).size ≤ 9223372036854775807 := by
  unfold splitL
  split
  · exact lines_small s hs
  · intro k hk; exact absurd hk (Nat.not_lt_zero _)
/-- The cells of a struct of two cells that a variable holds. -/
def Two (w : World) (p : Nat) (u v : Value) : Prop := w.cell? ⟨p, 0, none⟩ = some u ∧ w.cell? ⟨p, 1, none⟩ = some v
theorem Two.new (w : World) (u v : Value) (t : TypeId) : Two (w.alloc (.cells #[u, v] t)) w.heap.size u v := ⟨by simp, by simp⟩
theorem Two.grown {w w' : World} {row : Option Nat} {p : Nat} {u v : Value} (h : Two w p u v) (hg : w.grownBy w' row) (hr : some p ≠ row) : Two w' p u v := ⟨hg.cell h.1 hr, hg.cell h.2 hr⟩
theorem Two.below {w w' : World} {p : Nat} {u v : Value} (h : Two w p u v) (hb : Below w.heap.size w w') : Two w' p u v := h.grown (grown_of_below hb none) (by simp)

theorem Two.alloc {w : World} {p : Nat} {u v : Value} (h : Two w p u v) (o : Obj) : Two (w.alloc o) p u v := h.below (alloc_below _ _)
theorem SS_marks {w : World} {base n cap m : Nat} {a : Option Addr} (h : w.ownsRow base 9 1 (.slice a n cap) n ((marks m n).map Value.string)) (hm : m + n ≤ 4194304) : SS w a (marks m n) := by
  obtain ⟨a', cap', e, hS, _⟩ := SS_of_row h (marks_length m n).symm (marks_small m n hm)
  simp only [Value.slice.injEq] at e
  obtain ⟨rfl, _⟩ := e
  exact hS
theorem SS_row {w : World} {base cap : Nat} {a : Option Addr} {ss : List ByteArray} (h : w.ownsRow base 9 1 (.slice a ss.length cap) ss.length (ss.map Value.string)) (hz : ∀ k, k < ss.length → (ss.getD k ByteArray.empty).size ≤ 9223372036854775807) : SS w a ss := by
  obtain ⟨a', cap', e, hS, _⟩ := SS_of_row h rfl hz
  simp only [Value.slice.injEq] at e
  obtain ⟨rfl, _⟩ := e
  exact hS
theorem own_below {w w' : World} {base n : Nat} {v : Value} {xs : List Value} (h : w.ownsRow base 9 1 v n xs) (hb : Below w.heap.size w w') : w'.ownsRow base 9 1 v n xs :=
  h.kept (grown_of_below hb none) (by
    rcases e : v.ownBlock with _ | j
    · exact .inl rfl
    · exact .inr (by simp))

set_option maxHeartbeats 3000000 in
theorem walk (a0 : ByteArray) (_w0 : a0.size ≤ maxLen) (w : World) :
    Calls Try.prog 4 #[.string a0] w fun e w' => e = .returned (.bool true) ∧ Below w.heap.size w w' := by
  by_cases hbig : (1048576 : Int) < (a0.size : Int)
  · go_enter Try.func4, Try.ntmps4
    go_wp2
    go_ret
    exact ⟨rfl, Below.refl _ _⟩
  have hs : a0.size ≤ 1048576 := by omega
  have hS := fun w => specSplitLines a0 w hs
  have hI := fun w => implSplitLines a0 w hs
  have hle := splitL_le a0
  have hsm := splitL_small a0 hs
  obtain ⟨L, hL⟩ : ∃ L, splitL a0 = L := ⟨_, rfl⟩
  obtain ⟨c, hc⟩ : ∃ c, tf a0 = c := ⟨_, rfl⟩
  rw [hL] at hS hI hle hsm
  rw [hc] at hS hI
  have hn : L.length ≤ 1048576 := by omega
  clear hL hc
  go_enter Try.func4, Try.ntmps4
  go_wp2_with fail
  refine (hS _).mono ?_; rintro e w1 ⟨x0, k0, rfl, s0, b1⟩
  have s0B : SSB w1.heap.size w1 x0 L := s0
  go_wp2_with fail
  obtain ⟨W1, hW1⟩ : ∃ W1, w1.alloc (.cells #[.int .i64 c, .slice x0 L.length k0] 26) = W1 := ⟨_, rfl⟩
  have t0 : Two W1 w1.heap.size (.int .i64 c) (.slice x0 L.length k0) := by rw [← hW1]; exact Two.new _ _ _ _
  have B1 : Below w1.heap.size w1 W1 := by rw [← hW1]; exact alloc_below _ _
  have Z1 : Hid (W1.heap.size = w1.heap.size + 1) := by show W1.heap.size = _; rw [← hW1]; simp
  have s1 := s0B.below B1
  have BB1 := b1.trans (B1.mono b1.size)
  rw [hW1]
  clear hW1 s0 s0B B1
  refine (hI _).mono ?_; rintro e w2 ⟨v, rfl, own2, b2⟩
  obtain ⟨x1, k1, rfl, _, _⟩ := SS_of_row own2 rfl hsm
  have hlt2 : ∀ j, (Value.slice x1 L.length k1).ownBlock = some j → W1.heap.size ≤ j ∧ j < w2.heap.size := fun j hj => own2.lt j hj
  have s2 := s1.below b2
  have t02 := t0.below b2
  have S2 := b2.size
  have BB2 := BB1.trans (b2.mono BB1.size)
  have q0 := fun o => (t02.alloc o).1
  have q1 := fun o => (t02.alloc o).2
  clear t0 b2 s1 BB1
  go_wp2_with fail
  obtain ⟨W2, hW2⟩ : ∃ W2, w2.alloc (.cells #[.int .i64 c, .slice x1 L.length k1] 26) = W2 := ⟨_, rfl⟩
  have t1 : Two W2 w2.heap.size (.int .i64 c) (.slice x1 L.length k1) := by rw [← hW2]; exact Two.new _ _ _ _
  have B2 : Below w2.heap.size w2 W2 := by rw [← hW2]; exact alloc_below _ _
  have Z2 : Hid (W2.heap.size = w2.heap.size + 1) := by show W2.heap.size = _; rw [← hW2]; simp
  have t0W := t02.below B2
  have s0W := s2.below B2
  have ownW := own_below own2 B2
  have BBW := BB2.trans (B2.mono BB2.size)
  rw [hW2]
  clear hW2 B2 t02 s2 own2 BB2 q0 q1
  refine (eqLinesResult _ _ _ _ _ _ _ (SS_row ownW hsm) (s0W.toSS (by have := Z1.out; have := Z2.out; omega)) hn).mono ?_; rintro e w3 ⟨rfl, b3⟩
  have t13 := t1.below b3
  have t03 := t0W.below b3
  have s3 := s0W.below b3
  have own3 := own_below ownW b3
  have BB3 := BBW.trans (b3.mono BBW.size)
  have S3 := b3.size
  have q0 := t13.1
  have q1 := t13.2
  clear t1 t0W s0W ownW BBW b3
  go_wp2_with fail
  refine (markLinesResult W1.heap.size _ _ _ _ 1 _ _ (Nat.le_refl _) (by omega) own3).mono ?_; rintro e w4 ⟨rfl, own4, g4⟩
  have t14 := t13.grown g4 (fun e => by have := (hlt2 _ e.symm).2; omega)
  have t04 := t03.grown g4 (fun e => by have := (hlt2 _ e.symm).1; have := Z1.out; omega)
  have s4 := s3.grown g4 (fun j hj => by have := (hlt2 _ hj).1; have := Z1.out; omega)
  have BB4 : Below w.heap.size w w4 := BB3.grown g4 BB3.size (fun j hj => by have := (hlt2 _ hj).1; have := Z1.out; have := b1.size; omega)
  have S4 := g4.size
  clear q0 q1
  have q0 := t14.1
  have q1 := t14.2
  clear t13 t03 s3 own3 BB3 g4
  obtain ⟨M, hM⟩ : ∃ M : Int, ((1 + L.length : Nat) : Int) = M := ⟨_, rfl⟩
  have hM0 : ¬ M < 0 := by omega
  have hMM : (M != M) = false := by simp
  rw [hM]
  go_wp2_with fail
  refine (heldLinesResult _ _ _ _ 1 _ (Nat.le_refl _) (by omega) (SS_marks own4 (by omega))).mono ?_; rintro e w5 ⟨rfl, b5⟩
  rw [hM]
  have t15 := t14.below b5
  have t05 := t04.below b5
  have s5 := s4.below b5
  have own5 := own_below own4 b5
  have BB5 := BB4.trans (b5.mono BB4.size)
  have S5 := b5.size
  clear q0 q1 t14 t04 s4 own4 BB4 b5
  go_wp2_with fail
  refine (hI _).mono ?_; rintro e w6 ⟨v, rfl, own6, b6⟩
  obtain ⟨x2, k2, rfl, _, _⟩ := SS_of_row own6 rfl hsm
  have t16 := t15.below b6
  have t06 := t05.below b6
  have s6 := s5.below b6
  have ownG6 := own_below own5 b6
  have BB6 := BB5.trans (b6.mono BB5.size)
  have S6 := b6.size
  clear t15 t05 s5 own5 BB5 b6
  have q0 := fun o => (t06.alloc o).1
  have q1 := fun o => (t06.alloc o).2
  go_wp2_with fail
  obtain ⟨W6, hW6⟩ : ∃ W6, w6.alloc (.cells #[.int .i64 c, .slice x2 L.length k2] 26) = W6 := ⟨_, rfl⟩
  have B6 : Below w6.heap.size w6 W6 := by rw [← hW6]; exact alloc_below _ _
  have t1W := t16.below B6
  have s0W := s6.below B6
  have ownW := own_below own6 B6
  have ownGW := own_below ownG6 B6
  have BBW := BB6.trans (B6.mono BB6.size)
  have S6W := B6.size
  rw [hW6]
  clear hW6 B6 t16 t06 s6 own6 ownG6 BB6 q0 q1
  refine (eqLinesResult _ _ _ _ _ _ _ (SS_row ownW hsm) (s0W.toSS (by have := Z1.out; have := Z2.out; omega)) hn).mono ?_; rintro e w7 ⟨rfl, b7⟩
  have t17 := t1W.below b7
  have own7 := own_below ownGW b7
  have BB7 := BBW.trans (b7.mono BBW.size)
  have q0 := t17.1
  have q1 := t17.2
  clear t1W s0W ownW ownGW BBW b7
  go_wp2_with fail
  refine (heldLinesResult _ _ _ _ 1 _ (Nat.le_refl _) (by omega) (SS_marks own7 (by omega))).mono ?_; rintro e w8 ⟨rfl, b8⟩
  rw [hM]
  have BB8 := BB7.trans (b8.mono BB7.size)
  clear q0 q1 t17 own7 BB7 b8
  go_wp2_with fail
  go_ret
  exact ⟨rfl, BB8⟩

set_option linter.unusedVariables false
theorem laidOut : laidOutB Try.prog = true := by kernel_rfl
theorem own : ownKnob Try.prog.godebug = none := by kernel_rfl
set_option maxRecDepth 100000 in
theorem lifted (os : Os) (started : os.Started) (H : Type) (enc : TypeId × Value → H) :
    ReturnsInHanded {} Try.checked os 4 .any (Rows.fnExactSplitLinesSpec.pre6 enc Try.prog Try.f4 Rows.fnExactSplitLinesRow.domain false) (Rows.fnExactSplitLinesSpec.post enc Try.prog Try.f4 false true false false) := by
  refine returnsInHanded_of_change (C := Try.checked) own started (by kernel_rfl) Try.func4
    (ChangeSpec.witness6 (enc := enc) (C := Try.checked) false ⟨#[], #[.string ByteArray.empty], []⟩ 8 (by kernel_rfl) (by kernel_rfl) (by kernel_rfl) (by kernel_rfl)) ?_
  intro W base args ds gs before hval0 hW hcnd _
  have hval : ∀ (j : Nat) t v, Try.f4.params[j]? = some t → args[j]? = some v → Value.okWide Try.prog W .any base t v := hval0
  have hW' := hW
  obtain ⟨p, q, hA0, hV, rfl, hfz, hnd⟩ := hW
  have hA : DataW.TrodAll enc Try.prog W 0 (fun _ => true) true Try.f4.params.toList args.toList ds p := hA0
  rw [Try.params4] at hA hval
  obtain ⟨v0, vs0, d0, ds0, p0, q0, hargs, rfl, rfl, h0, r0⟩ := trodAll_cons hA
  obtain ⟨rfl, rfl, rfl⟩ := trodAll_nil r0
  obtain rfl : args = #[v0] := by cases args; simp_all
  obtain ⟨rfl, rfl⟩ := trodVars_none hV
  obtain ⟨a0, rfl, rfl, rfl, w0⟩ := open_string Try.underlying9 (hval 0 9 v0 rfl rfl) h0
  clear hA0 hval0
  simp only [List.append_nil] at hW'
  refine (walk a0 w0 W).mono fun e W' ⟨he, bel⟩ => ?_
  subst he
  exact ⟨_, rfl, _, _, _, [], _, [], hW', trodAll_mk1 (shut_bool Try.underlying4 _), (trodAll_cons_mk (shut_string Try.underlying9 w0) trodAll_mk0), rfl, bel.frame _, fun h => by cases h⟩

theorem over : Rows.fnExactSplitLinesRow.holds Try.pinned (OpenSpec.ofChange Rows.fnExactSplitLinesSpec) :=
  OpenClaim.holds_of_wide 4 Try.f4 rfl rfl rfl rfl rfl rfl rfl ⟨rfl, rfl, rfl, rfl, rfl⟩ rfl rfl rfl rfl rfl (by kernel_rfl) Try.func4 (by kernel_rfl)
    (of_decide_eq_true (by kernel_rfl)) (by unfold Func.isWrapper; first | (rw [if_pos (by decide +kernel)]; kernel_rfl) | (rw [if_neg (by decide +kernel)]; exact ⟨rfl, rfl⟩))
    (fun os started H enc _ => lifted os started H enc)

theorem proved : Rows.FnExactSplitLinesSaid := over
end Go.Proofs.Ythgoimdlhgdnoaf.SplLaw
namespace Go.Proofs.Ythgoimdlhgdnoaf
theorem fnExactSplitLines_proved : Rows.FnExactSplitLinesSaid := SplLaw.proved
end Go.Proofs.Ythgoimdlhgdnoaf
