/- RulesFault of the program and of the specification. No statement is proved here. -/
import Derived.Test.YtkeinpobngfioaaRows
import Derived.Test.YtkeinpobngfioaaLemQ
import Derived.Test.YtkeinpobngfioaaDTabQ
import Derived.Test.YtkeinpobngfioaaTFQ
import Derived.Test.YtkeinpobngfioaaSplQ
import Derived.Test.YtkeinpobngfioaaRuLQ
import Derived.WalkKit
import Derived.ProofKit
import Derived.Below
import Derived.WalkSpells
import Derived.Deep.QuietTactic
import Derived.BigQuiet
import Derived.Laws.Cover1
set_option linter.unusedVariables false
namespace Go.Proofs.Ytkeinpobngfioaa.Ru
open Go.RowKit
def okPre (s : ByteArray) : Bool := decide (1 ≤ s.size ∧ s.size ≤ 8000)
def leS (a b : ByteArray) : Bool := Op.bytesLess a.toList b.toList || a.toList == b.toList
/-- The fault of the rule at a place. -/
def ruF (l : List Ob) (k : Nat) : Int := if okPre (l.getD k onil).1 = false then 1 else if 0 < k ∧ leS (l.getD k onil).1 (l.getD (k - 1) onil).1 = true then 1 else tf (l.getD k onil).2
/-- RulesFault. -/
def rf (l : List Ob) : Int := if 40 < l.length then 2 else (((List.range l.length).map (ruF l)).find? (fun x => decide (x ≠ 0))).getD 0
theorem rf_many {l : List Ob} (h : 40 < l.length) : rf l = 2 := if_pos h
theorem rf_bad {l : List Ob} {k : Nat} (h : ¬ 40 < l.length) (hk : k < l.length) (h0 : ∀ j, j < k → ruF l j = 0) (hb : ¬ ruF l k = 0) : rf l = ruF l k := by
  unfold rf
  rw [if_neg h]
  have : ((List.range l.length).map (ruF l)).find? (fun x => decide (x ≠ 0)) = some (ruF l k) := by
    rw [List.find?_eq_some_iff_getElem]
    refine ⟨by simp [hb], k, by simp [hk], by simp, fun j hj => ?_⟩
    simp [h0 j hj]
  rw [this]; rfl
theorem rf_ok {l : List Ob} (h : ¬ 40 < l.length) (h0 : ∀ j, j < l.length → ruF l j = 0) : rf l = 0 := by
  unfold rf
  rw [if_neg h]
  have : ((List.range l.length).map (ruF l)).find? (fun x => decide (x ≠ 0)) = none := by
    rw [List.find?_eq_none]
    intro x hx
    obtain ⟨j, hj, rfl⟩ := List.mem_map.1 hx
    simp [h0 j (List.mem_range.1 hj)]
  rw [this]; rfl
/-- Rules without a fault. -/
theorem rf_zero {l : List Ob} (h : rf l = 0) : ¬ 40 < l.length ∧ ∀ j, j < l.length → ruF l j = 0 := by
  have h1 : ¬ 40 < l.length := fun h' => by rw [rf_many h'] at h; omega
  refine ⟨h1, ?_⟩
  have key : ∀ n j, j < n → j < l.length → ruF l j = 0 := by
    intro n
    induction n with
    | zero => intro j hj; omega
    | succ n ih =>
      intro j hj hl
      by_cases e : j < n
      · exact ih j e hl
      · by_cases hb : ruF l j = 0
        · exact hb
        · rw [rf_bad h1 hl (fun i hi => ih i (by omega) (by omega)) hb] at h
          exact h
  exact fun j hj => key (j + 1) j (by omega) hj
theorem implPre (s : ByteArray) (w : World) (hs : s.size ≤ 1048576) :
    Calls Try.prog 16 #[.string s] w fun e w' => e = .returned (.bool (okPre s)) ∧ w' = w := by
  by_cases h1 : 0 < s.size
  · by_cases h2 : s.size ≤ 8000
    · have H : Hid (okPre s = true) := decide_eq_true ⟨by omega, h2⟩
      have q1 : (0 : Int) < (s.size : Int) := by omega
      have q1' : (1 : Int) ≤ (s.size : Int) := by omega
      have q2 : (s.size : Int) ≤ 8000 := by omega
      go_enter Try.func16, Try.ntmps16
      go_wp2
      go_ret
      exact ⟨ret_bool H.out.symm, rfl⟩
    · have H : Hid (okPre s = false) := decide_eq_false (fun h => h2 h.2)
      have q1 : (0 : Int) < (s.size : Int) := by omega
      have q1' : (1 : Int) ≤ (s.size : Int) := by omega
      have q2 : ¬ (s.size : Int) ≤ 8000 := by omega
      go_enter Try.func16, Try.ntmps16
      go_wp2
      go_ret
      exact ⟨ret_bool H.out.symm, rfl⟩
  · have H : Hid (okPre s = false) := decide_eq_false (fun h => h1 (by omega))
    have q1 : ¬ (0 : Int) < (s.size : Int) := by omega
    have q1' : ¬ (1 : Int) ≤ (s.size : Int) := by omega
    go_enter Try.func16, Try.ntmps16
    go_wp2
    go_ret
    exact ⟨ret_bool H.out.symm, rfl⟩
theorem specPre (s : ByteArray) (w : World) (hs : s.size ≤ 1048576) :
    Calls Try.prog 23 #[.string s] w fun e w' => e = .returned (.bool (okPre s)) ∧ w' = w := by
  by_cases h1 : 0 < s.size
  · by_cases h2 : s.size ≤ 8000
    · have H : Hid (okPre s = true) := decide_eq_true ⟨by omega, h2⟩
      have q1 : (0 : Int) < (s.size : Int) := by omega
      have q1' : (1 : Int) ≤ (s.size : Int) := by omega
      have q2 : (s.size : Int) ≤ 8000 := by omega
      go_enter Try.func23, Try.ntmps23
      go_wp2
      go_ret
      exact ⟨ret_bool H.out.symm, rfl⟩
    · have H : Hid (okPre s = false) := decide_eq_false (fun h => h2 h.2)
      have q1 : (0 : Int) < (s.size : Int) := by omega
      have q1' : (1 : Int) ≤ (s.size : Int) := by omega
      have q2 : ¬ (s.size : Int) ≤ 8000 := by omega
      go_enter Try.func23, Try.ntmps23
      go_wp2
      go_ret
      exact ⟨ret_bool H.out.symm, rfl⟩
  · have H : Hid (okPre s = false) := decide_eq_false (fun h => h1 (by omega))
    have q1 : ¬ (0 : Int) < (s.size : Int) := by omega
    have q1' : ¬ (1 : Int) ≤ (s.size : Int) := by omega
    go_enter Try.func23, Try.ntmps23
    go_wp2
    go_ret
    exact ⟨ret_bool H.out.symm, rfl⟩
set_option maxRecDepth 20000 in
set_option maxHeartbeats 4000000 in
theorem specRulesFault (a : Option Addr) (c : Nat) (l : List Ob) (w : World) (h : OB w.heap.size w a l) (hs : SmallO l) (hn : l.length ≤ 1048576) :
    Calls Try.prog 22 #[.slice a l.length c] w fun e w' => e = .returned (.int .i64 (rf l)) ∧ Below w.heap.size w w' := by
  by_cases hm : 40 < l.length
  · have hC : Hid (rf l = 2) := rf_many hm
    have q : (40 : Int) < (l.length : Int) := by omega
    go_enter Try.func22, Try.ntmps22
    go_wp2
    go_ret
    exact ⟨ret_int hC.out.symm, Below.refl _ _⟩
  have q : ¬ (40 : Int) < (l.length : Int) := by omega
  go_enter Try.func22, Try.ntmps22
  go_wp2
  go_loopw [3, 4] (fun i _ wr => ∃ k : Nat, k ≤ l.length ∧ i = .int .i64 k ∧ Hid (∀ j, j < k → ruF l j = 0) ∧ Below w.heap.size w wr) (fun i _ _ => l.length - (intOf i).toNat)
  case atStart => exact ⟨0, Nat.zero_le _, rfl, fun j hj => absurd hj (Nat.not_lt_zero _), Below.refl _ _⟩
  case round =>
    obtain ⟨k, hk, rfl, hA, hbel⟩ := hrel
    have hsz := hbel.size
    by_cases hlt : k < l.length
    · have qk : (k : Int) < (l.length : Int) := by omega
      have h3 := h.below hbel
      obtain ⟨g, off, e, hg, d0, d1⟩ := h3 k hlt
      subst e
      have hsl := hs _ (ob_mem l k hlt)
      have hbad : ¬ ruF l k = 0 → Hid (rf l = ruF l k) := fun hb => rf_bad hm hlt hA.out hb
      have hgo : ruF l k = 0 → Hid (∀ j, j < k + 1 → ruF l j = 0) := fun h0 => by
        show ∀ j, _
        intro j hj
        by_cases e : j = k
        · rw [e]; exact h0
        · exact hA.out j (by omega)
      have hF : ruF l k = ruF l k := rfl
      conv at hF => rhs; unfold ruF
      have hp : 0 < k → wr.cell? ⟨g, off + (k - 1) * 2, none⟩ = some (.string (l.getD (k - 1) onil).1) := fun hk0 => by
        obtain ⟨g', off', e', _, f0, _⟩ := h3 (k - 1) (by omega)
        simp only [Option.some.injEq, Addr.mk.injEq, and_true] at e'
        obtain ⟨rfl, rfl⟩ := e'
        exact f0
      obtain ⟨C, hCe⟩ : ∃ C, l.getD k onil = C := ⟨_, rfl⟩
      obtain ⟨P, hPe⟩ : ∃ P, (l.getD (k - 1) onil).1 = P := ⟨_, rfl⟩
      obtain ⟨x0, x1⟩ := C
      rw [hCe] at d0 d1 hsl hF
      rw [hPe] at hF hp
      simp only [] at d0 d1 hsl hF
      have hPr := fun w => specPre x0 w hsl.1
      have hTF := fun w => specTextFault x1 w hsl.2
      clear hCe hPe hA h3
      cases ho : okPre x0 with
      | false =>
        rw [ho] at hPr
        have HC := hbad (by rw [hF, if_pos ho]; decide)
        rw [hF, if_pos ho] at HC
        clear hbad hgo hF hp hTF
        go_wp2
        go_quiet ((go_at_call 23; exact Calls.quiet_of_same (hPr _)))
        go_wp2
        go_ret
        exact ⟨ret_int HC.out.symm, below_drewN' hbel _⟩
      | true =>
        rw [ho] at hPr
        rw [if_neg (by rw [ho]; decide)] at hF
        by_cases hk0 : 0 < k
        · have hI0 : (0 : Int) < (k : Int) := by omega
          have e1 := hp hk0
          obtain ⟨m, hmk⟩ : ∃ m, k - 1 = m := ⟨_, rfl⟩
          have hw : IntKind.i64.wrap ((k : Int) - 1) = (m : Int) := by rw [IntKind.wrap_i64]; omega
          have hI2 : (m : Int) < (l.length : Int) := by omega
          rw [hmk] at e1
          clear hp hmk
          cases hle : leS x0 P with
          | true =>
            have HC := hbad (by rw [hF, hle, if_pos ⟨hk0, rfl⟩]; decide)
            rw [hF, hle, if_pos ⟨hk0, rfl⟩] at HC
            unfold leS at hle
            clear hbad hgo hF hTF
            cases hlb : Op.bytesLess x0.toList P.toList with
            | true =>
              go_wp2
              go_quiet ((go_at_call 23; exact Calls.quiet_of_same (hPr _)))
              go_wp2
              go_ret
              exact ⟨ret_int HC.out.symm, below_drewN' hbel _⟩
            | false =>
              rw [hlb, Bool.false_or] at hle
              go_wp2
              go_quiet ((go_at_call 23; exact Calls.quiet_of_same (hPr _)))
              go_wp2
              go_ret
              exact ⟨ret_int HC.out.symm, below_drewN' hbel _⟩
          | false =>
            rw [hle, if_neg (fun c => Bool.noConfusion c.2)] at hF
            unfold leS at hle
            obtain ⟨hl1, hl2⟩ := Bool.or_eq_false_iff.1 hle
            clear hle
            by_cases ht : tf x1 = 0
            · have HG := hgo (by rw [hF]; exact ht)
              rw [ht] at hTF
              clear hbad hgo hF ht
              go_wp2
              go_quiet ((go_at_call 23; exact Calls.quiet_of_same (hPr _)))
              go_wp2_with fail
              refine (hTF _).mono ?_; rintro e w1 ⟨rfl, b1⟩
              have B1 : Below w.heap.size w w1 := (below_drewN' hbel _).trans (b1.mono hsz)
              clear b1 d0 d1 hbel
              go_wp2
              go_roundw
              case rel => exact ⟨k + 1, by omega, by go_num, HG, B1⟩
              case measure => first | (simp [intOf]; omega) | simp [intOf]
            · have HC := hbad (by rw [hF]; exact ht)
              rw [hF] at HC
              have hne : (tf x1 != 0) = true := by simp [ht]
              generalize tf x1 = T at HC hTF hne
              clear hbad hgo hF ht
              go_wp2
              go_quiet ((go_at_call 23; exact Calls.quiet_of_same (hPr _)))
              go_wp2_with fail
              refine (hTF _).mono ?_; rintro e w1 ⟨rfl, b1⟩
              have B1 : Below w.heap.size w w1 := (below_drewN' hbel _).trans (b1.mono hsz)
              clear b1 d0 d1 hbel
              go_wp2
              go_ret
              exact ⟨ret_int HC.out.symm, B1⟩
        · have hI0 : ¬ (0 : Int) < (k : Int) := by omega
          rw [if_neg (fun c => hk0 c.1)] at hF
          clear hp
          by_cases ht : tf x1 = 0
          · have HG := hgo (by rw [hF]; exact ht)
            rw [ht] at hTF
            clear hbad hgo hF ht
            go_wp2
            go_quiet ((go_at_call 23; exact Calls.quiet_of_same (hPr _)))
            go_wp2_with fail
            refine (hTF _).mono ?_; rintro e w1 ⟨rfl, b1⟩
            have B1 : Below w.heap.size w w1 := (below_drewN' hbel _).trans (b1.mono hsz)
            clear b1 d0 d1 hbel
            go_wp2
            go_roundw
            case rel => exact ⟨k + 1, by omega, by go_num, HG, B1⟩
            case measure => first | (simp [intOf]; omega) | simp [intOf]
          · have HC := hbad (by rw [hF]; exact ht)
            rw [hF] at HC
            have hne : (tf x1 != 0) = true := by simp [ht]
            generalize tf x1 = T at HC hTF hne
            clear hbad hgo hF ht
            go_wp2
            go_quiet ((go_at_call 23; exact Calls.quiet_of_same (hPr _)))
            go_wp2_with fail
            refine (hTF _).mono ?_; rintro e w1 ⟨rfl, b1⟩
            have B1 : Below w.heap.size w w1 := (below_drewN' hbel _).trans (b1.mono hsz)
            clear b1 d0 d1 hbel
            go_wp2
            go_ret
            exact ⟨ret_int HC.out.symm, B1⟩
    · have hkl : k = l.length := by omega
      have qk : ¬ (k : Int) < (l.length : Int) := by omega
      have HC : Hid (rf l = 0) := rf_ok hm (by rw [← hkl]; exact hA.out)
      clear hA
      go_wp2
      go_ret
      exact ⟨ret_int HC.out.symm, hbel⟩
set_option maxRecDepth 20000 in
set_option maxHeartbeats 4000000 in
theorem implRulesFault (a : Option Addr) (c : Nat) (l : List Ob) (w : World) (h : OB w.heap.size w a l) (hs : SmallO l) (hn : l.length ≤ 1048576) :
    Calls Try.prog 10 #[.slice a l.length c] w fun e w' => e = .returned (.int .i64 (rf l)) ∧ Below w.heap.size w w' := by
  by_cases hm : 40 < l.length
  · have hC : Hid (rf l = 2) := rf_many hm
    have q : (40 : Int) < (l.length : Int) := by omega
    go_enter Try.func10, Try.ntmps10
    go_wp2
    go_ret
    exact ⟨ret_int hC.out.symm, Below.refl _ _⟩
  have q : ¬ (40 : Int) < (l.length : Int) := by omega
  go_enter Try.func10, Try.ntmps10
  go_wp2
  go_loopw [3, 4, 10] (fun _ _ i wr => ∃ k : Nat, k ≤ l.length ∧ i = .int .i64 k ∧ Hid (∀ j, j < k → ruF l j = 0) ∧ Below w.heap.size w wr) (fun _ _ i _ => l.length - (intOf i).toNat)
  case atStart => exact ⟨0, Nat.zero_le _, rfl, fun j hj => absurd hj (Nat.not_lt_zero _), Below.refl _ _⟩
  case round =>
    obtain ⟨k, hk, rfl, hA, hbel⟩ := hrel
    have hsz := hbel.size
    by_cases hlt : k < l.length
    · have qk : (k : Int) < (l.length : Int) := by omega
      have h3 := h.below hbel
      obtain ⟨g, off, e, hg, d0, d1⟩ := h3 k hlt
      subst e
      have hsl := hs _ (ob_mem l k hlt)
      have hbad : ¬ ruF l k = 0 → Hid (rf l = ruF l k) := fun hb => rf_bad hm hlt hA.out hb
      have hgo : ruF l k = 0 → Hid (∀ j, j < k + 1 → ruF l j = 0) := fun h0 => by
        show ∀ j, _
        intro j hj
        by_cases e : j = k
        · rw [e]; exact h0
        · exact hA.out j (by omega)
      have hF : ruF l k = ruF l k := rfl
      conv at hF => rhs; unfold ruF
      have hp : 0 < k → wr.cell? ⟨g, off + (k - 1) * 2, none⟩ = some (.string (l.getD (k - 1) onil).1) := fun hk0 => by
        obtain ⟨g', off', e', _, f0, _⟩ := h3 (k - 1) (by omega)
        simp only [Option.some.injEq, Addr.mk.injEq, and_true] at e'
        obtain ⟨rfl, rfl⟩ := e'
        exact f0
      obtain ⟨C, hCe⟩ : ∃ C, l.getD k onil = C := ⟨_, rfl⟩
      obtain ⟨P, hPe⟩ : ∃ P, (l.getD (k - 1) onil).1 = P := ⟨_, rfl⟩
      obtain ⟨x0, x1⟩ := C
      rw [hCe] at d0 d1 hsl hF
      rw [hPe] at hF hp
      simp only [] at d0 d1 hsl hF
      have hPr := fun w => implPre x0 w hsl.1
      have hTF := fun w => implTextFault x1 w hsl.2
      clear hCe hPe hA h3
      cases ho : okPre x0 with
      | false =>
        rw [ho] at hPr
        have HC := hbad (by rw [hF, if_pos ho]; decide)
        rw [hF, if_pos ho] at HC
        clear hbad hgo hF hp hTF
        go_wp2
        go_quiet ((go_at_call 16; exact Calls.quiet_of_same (hPr _)))
        go_wp2
        go_ret
        exact ⟨ret_int HC.out.symm, below_drewN' hbel _⟩
      | true =>
        rw [ho] at hPr
        rw [if_neg (by rw [ho]; decide)] at hF
        by_cases hk0 : 0 < k
        · have hI0 : (0 : Int) < (k : Int) := by omega
          have e1 := hp hk0
          obtain ⟨m, hmk⟩ : ∃ m, k - 1 = m := ⟨_, rfl⟩
          have hw : IntKind.i64.wrap ((k : Int) - 1) = (m : Int) := by rw [IntKind.wrap_i64]; omega
          have hI2 : (m : Int) < (l.length : Int) := by omega
          rw [hmk] at e1
          clear hp hmk
          cases hle : leS x0 P with
          | true =>
            have HC := hbad (by rw [hF, hle, if_pos ⟨hk0, rfl⟩]; decide)
            rw [hF, hle, if_pos ⟨hk0, rfl⟩] at HC
            unfold leS at hle
            clear hbad hgo hF hTF
            cases hlb : Op.bytesLess x0.toList P.toList with
            | true =>
              go_wp2
              go_quiet ((go_at_call 16; exact Calls.quiet_of_same (hPr _)))
              go_wp2
              go_ret
              exact ⟨ret_int HC.out.symm, below_drewN' hbel _⟩
            | false =>
              rw [hlb, Bool.false_or] at hle
              go_wp2
              go_quiet ((go_at_call 16; exact Calls.quiet_of_same (hPr _)))
              go_wp2
              go_ret
              exact ⟨ret_int HC.out.symm, below_drewN' hbel _⟩
          | false =>
            rw [hle, if_neg (fun c => Bool.noConfusion c.2)] at hF
            unfold leS at hle
            obtain ⟨hl1, hl2⟩ := Bool.or_eq_false_iff.1 hle
            clear hle
            by_cases ht : tf x1 = 0
            · have HG := hgo (by rw [hF]; exact ht)
              rw [ht] at hTF
              clear hbad hgo hF ht
              go_wp2
              go_quiet ((go_at_call 16; exact Calls.quiet_of_same (hPr _)))
              go_wp2_with fail
              refine (hTF _).mono ?_; rintro e w1 ⟨rfl, b1⟩
              have B1 : Below w.heap.size w w1 := (below_drewN' hbel _).trans (b1.mono hsz)
              clear b1 d0 d1 hbel
              go_wp2
              go_roundw
              case rel => exact ⟨k + 1, by omega, by go_num, HG, B1⟩
              case measure => first | (simp [intOf]; omega) | simp [intOf]
            · have HC := hbad (by rw [hF]; exact ht)
              rw [hF] at HC
              have hne : (tf x1 != 0) = true := by simp [ht]
              generalize tf x1 = T at HC hTF hne
              clear hbad hgo hF ht
              go_wp2
              go_quiet ((go_at_call 16; exact Calls.quiet_of_same (hPr _)))
              go_wp2_with fail
              refine (hTF _).mono ?_; rintro e w1 ⟨rfl, b1⟩
              have B1 : Below w.heap.size w w1 := (below_drewN' hbel _).trans (b1.mono hsz)
              clear b1 d0 d1 hbel
              go_wp2
              go_ret
              exact ⟨ret_int HC.out.symm, B1⟩
        · have hI0 : ¬ (0 : Int) < (k : Int) := by omega
          rw [if_neg (fun c => hk0 c.1)] at hF
          clear hp
          by_cases ht : tf x1 = 0
          · have HG := hgo (by rw [hF]; exact ht)
            rw [ht] at hTF
            clear hbad hgo hF ht
            go_wp2
            go_quiet ((go_at_call 16; exact Calls.quiet_of_same (hPr _)))
            go_wp2_with fail
            refine (hTF _).mono ?_; rintro e w1 ⟨rfl, b1⟩
            have B1 : Below w.heap.size w w1 := (below_drewN' hbel _).trans (b1.mono hsz)
            clear b1 d0 d1 hbel
            go_wp2
            go_roundw
            case rel => exact ⟨k + 1, by omega, by go_num, HG, B1⟩
            case measure => first | (simp [intOf]; omega) | simp [intOf]
          · have HC := hbad (by rw [hF]; exact ht)
            rw [hF] at HC
            have hne : (tf x1 != 0) = true := by simp [ht]
            generalize tf x1 = T at HC hTF hne
            clear hbad hgo hF ht
            go_wp2
            go_quiet ((go_at_call 16; exact Calls.quiet_of_same (hPr _)))
            go_wp2_with fail
            refine (hTF _).mono ?_; rintro e w1 ⟨rfl, b1⟩
            have B1 : Below w.heap.size w w1 := (below_drewN' hbel _).trans (b1.mono hsz)
            clear b1 d0 d1 hbel
            go_wp2
            go_ret
            exact ⟨ret_int HC.out.symm, B1⟩
    · have hkl : k = l.length := by omega
      have qk : ¬ (k : Int) < (l.length : Int) := by omega
      have HC : Hid (rf l = 0) := rf_ok hm (by rw [← hkl]; exact hA.out)
      clear hA
      go_wp2
      go_ret
      exact ⟨ret_int HC.out.symm, hbel⟩
end Go.Proofs.Ytkeinpobngfioaa.Ru
