/- FindRule of the program and of the specification. No statement is proved here. -/
import Derived.Test.YtkeinpobngfioaaRows
import Derived.Test.YtkeinpobngfioaaLemQ
import Derived.Test.YtkeinpobngfioaaLFLemQ
import Derived.Test.YtkeinpobngfioaaDTabQ
import Derived.Test.YtkeinpobngfioaaTFQ
import Derived.Test.YtkeinpobngfioaaSplQ
import Derived.Test.YtkeinpobngfioaaRuLQ
import Derived.Test.YtkeinpobngfioaaRuFQ
import Derived.Test.YtkeinpobngfioaaFpSQ
import Derived.WalkKit
import Derived.ProofKit
import Derived.Below
import Derived.WalkSpells
set_option linter.unusedVariables false
namespace Go.Proofs.Ytkeinpobngfioaa.Ru
open Go.RowKit
/-- The place of a rule; -1: there is none. -/
def fdF (l : List Ob) (p : ByteArray) : Nat → Nat → Int
  | 0, _ => -1
  | n + 1, k => if (l.getD k onil).1 = p then (k : Int) else fdF l p n (k + 1)
def fd (l : List Ob) (p : ByteArray) : Int := fdF l p l.length 0
theorem fdF_hit {l : List Ob} {p : ByteArray} {n k : Nat} (h : (l.getD k onil).1 = p) : fdF l p (n + 1) k = k := by rw [fdF, if_pos h]
theorem fdF_miss {l : List Ob} {p : ByteArray} {n k : Nat} (h : ¬ (l.getD k onil).1 = p) : fdF l p (n + 1) k = fdF l p n (k + 1) := by rw [fdF, if_neg h]
theorem fdF_bd (l : List Ob) (p : ByteArray) : ∀ n k, k + n = l.length → fdF l p n k = -1 ∨ ∃ j : Nat, fdF l p n k = j ∧ j < l.length := by
  intro n
  induction n with
  | zero => intro k _; exact .inl rfl
  | succ n ih =>
    intro k hk
    by_cases h : (l.getD k onil).1 = p
    · exact .inr ⟨k, fdF_hit h, by omega⟩
    · rw [fdF_miss h]; exact ih (k + 1) (by omega)
theorem fd_bd (l : List Ob) (p : ByteArray) : fd l p = -1 ∨ ∃ j : Nat, fd l p = j ∧ j < l.length := fdF_bd l p l.length 0 (by omega)
set_option maxRecDepth 20000 in
set_option maxHeartbeats 2000000 in
theorem ruleAt (a : Option Addr) (c : Nat) (l : List Ob) (p : ByteArray) (w : World) (h : OB w.heap.size w a l) (hn : l.length ≤ 1048576) :
    Calls Try.prog 18 #[.slice a l.length c, .string p] w fun e w' => e = .returned (.int .i64 (fd l p)) ∧ w' = w := by
  go_enter Try.func18, Try.ntmps18
  go_wp2
  go_loop [5, 8] (fun _ i => ∃ k : Nat, k ≤ l.length ∧ i = .int .i64 k ∧ Hid (fd l p = fdF l p (l.length - k) k)) (fun _ i => l.length - (intOf i).toNat)
  case atStart => exact ⟨0, Nat.zero_le _, rfl, rfl⟩
  case round =>
    obtain ⟨k, hk, rfl, hA⟩ := hrel
    by_cases hlt : k < l.length
    · have qk : (k : Int) < (l.length : Int) := by omega
      obtain ⟨g, off, e, hg, d0, d1⟩ := h k hlt
      subst e
      obtain ⟨m, hm⟩ : ∃ m, l.length - k = m + 1 := ⟨l.length - k - 1, by omega⟩
      have hm2 : l.length - (k + 1) = m := by omega
      rw [hm] at hA
      by_cases he : (l.getD k onil).1 = p
      · have HR : Hid (fd l p = (k : Int)) := by show _ = _; rw [hA.out, fdF_hit he]
        rw [he] at d0
        have hb := beq_bytes_true (rfl : p = p)
        clear hA he d1
        go_wp2
        go_ret
        exact ⟨ret_int HR.out.symm, rfl⟩
      · have HG : Hid (fd l p = fdF l p (l.length - (k + 1)) (k + 1)) := by show _ = _; rw [hA.out, fdF_miss he, hm2]
        have hb := beq_bytes_false he
        obtain ⟨x, hx⟩ : ∃ x, (l.getD k onil).1 = x := ⟨_, rfl⟩
        rw [hx] at d0 hb
        clear hA he hx d1 hm hm2
        go_wp2
        go_round
        case rel => exact ⟨k + 1, by omega, by go_num, HG⟩
        case measure => first | (simp [intOf]; omega) | simp [intOf]
    · have HR : Hid (fd l p = -1) := by
        show _ = _
        rw [hA.out, show l.length - k = 0 by omega]
        rfl
      have qk : ¬ (k : Int) < (l.length : Int) := by omega
      clear hA
      go_wp2
      go_ret
      exact ⟨ret_int HR.out.symm, rfl⟩
set_option maxRecDepth 20000 in
set_option maxHeartbeats 2000000 in
theorem l13Find (a : Option Addr) (c : Nat) (l : List Ob) (p : ByteArray) (w : World) (h : OB w.heap.size w a l) (hn : l.length ≤ 1048576) :
    Calls Try.prog 25 #[.slice a l.length c, .string p] w fun e w' => e = .returned (.int .i64 (fd l p)) ∧ w' = w := by
  go_enter Try.func25, Try.ntmps25
  go_wp2
  go_loop [5] (fun i => ∃ k : Nat, k ≤ l.length ∧ i = .int .i64 k ∧ Hid (fd l p = fdF l p (l.length - k) k)) (fun i => l.length - (intOf i).toNat)
  case atStart => exact ⟨0, Nat.zero_le _, rfl, rfl⟩
  case round =>
    obtain ⟨k, hk, rfl, hA⟩ := hrel
    by_cases hlt : k < l.length
    · have qk : (k : Int) < (l.length : Int) := by omega
      obtain ⟨g, off, e, hg, d0, d1⟩ := h k hlt
      subst e
      obtain ⟨m, hm⟩ : ∃ m, l.length - k = m + 1 := ⟨l.length - k - 1, by omega⟩
      have hm2 : l.length - (k + 1) = m := by omega
      rw [hm] at hA
      by_cases he : (l.getD k onil).1 = p
      · have HR : Hid (fd l p = (k : Int)) := by show _ = _; rw [hA.out, fdF_hit he]
        rw [he] at d0
        have hb := beq_bytes_true (rfl : p = p)
        clear hA he d1
        go_wp2
        go_ret
        exact ⟨ret_int HR.out.symm, rfl⟩
      · have HG : Hid (fd l p = fdF l p (l.length - (k + 1)) (k + 1)) := by show _ = _; rw [hA.out, fdF_miss he, hm2]
        have hb := beq_bytes_false he
        obtain ⟨x, hx⟩ : ∃ x, (l.getD k onil).1 = x := ⟨_, rfl⟩
        rw [hx] at d0 hb
        clear hA he hx d1 hm hm2
        go_wp2
        go_round
        case rel => exact ⟨k + 1, by omega, by go_num, HG⟩
        case measure => first | (simp [intOf]; omega) | simp [intOf]
    · have HR : Hid (fd l p = -1) := by
        show _ = _
        rw [hA.out, show l.length - k = 0 by omega]
        rfl
      have qk : ¬ (k : Int) < (l.length : Int) := by omega
      clear hA
      go_wp2
      go_ret
      exact ⟨ret_int HR.out.symm, rfl⟩
/-- What FindRule tells. -/
def frC (l : List Ob) (p : ByteArray) : Int := if rf l = 0 then (if fd l p = -1 then 4 else 0) else rf l
def frT (l : List Ob) (p : ByteArray) : ByteArray := if rf l = 0 ∧ ¬ fd l p = -1 then (l.getD (fd l p).toNat onil).2 else ⟨#[]⟩
theorem ret_ct {a b : Int} {s t : ByteArray} (h : a = b) (k : s = t) : Ending.returned (.agg #[.int .i64 a, .string s]) = .returned (.agg #[.int .i64 b, .string t]) := by rw [h, k]
theorem catB_one (s : ByteArray) : catB [s] = s := by
  apply bytes_ext
  show catL [s] = _
  unfold catL
  simp
theorem ss_one (w : World) (x : ByteArray) (t : TypeId) (hx : x.size ≤ 1048576) : SS (w.alloc (.cells #[.string x] t)) (some ⟨w.heap.size, 0, none⟩) [x] := by
  refine ⟨fun k hk => ?_, fun k hk => ?_⟩
  · obtain rfl : k = 0 := by simpa using hk
    show x.size ≤ _
    omega
  · obtain rfl : k = 0 := by simpa using hk
    exact ⟨w.heap.size, 0, rfl, by simp, Rs.new w #[.string x] t 0 _ rfl⟩
set_option maxRecDepth 20000 in
set_option maxHeartbeats 2000000 in
theorem implFindRule (a : Option Addr) (c : Nat) (l : List Ob) (p : ByteArray) (w : World) (h : OB w.heap.size w a l) (hs : SmallO l) (hn : l.length ≤ 1048576) :
    Calls Try.prog 8 #[.slice a l.length c, .string p] w fun e w' => e = .returned (.agg #[.int .i64 (frC l p), .string (frT l p)]) ∧ Below w.heap.size w w' := by
  obtain ⟨b, hb⟩ : ∃ b, w.heap.size = b := ⟨_, rfl⟩
  obtain ⟨W1, hW1⟩ : ∃ W, w.alloc (.cells #[.int .i64 0, .string ⟨#[]⟩] 31) = W := ⟨_, rfl⟩
  have b1 : Below b w W1 := by rw [← hW1, ← hb]; exact allocBelow _ _
  have r1 : Res2 W1 b (.int .i64 0) (.string ⟨#[]⟩) := by rw [← hW1, ← hb]; exact Res2.new _ _ _ _
  have z1 : W1.heap.size = b + 1 := by rw [← hW1, ← hb]; simp
  have h1 := (h.below (by rw [hb]; exact b1)).mono (B' := W1.heap.size) (by omega)
  have hR := implRulesFault a c l W1 h1 hs hn
  by_cases h0 : rf l = 0
  · rw [h0] at hR
    go_enter Try.func8, Try.ntmps8
    go_wp2_with fail
    refine hR.mono ?_
    clear hR
    rintro e w2 ⟨rfl, b2⟩
    have B2 : Below b w w2 := b1.trans (b2.mono (by omega))
    have z2 := b2.size
    have r2 := r1.below (by omega) b2
    have h2 := (h1.below b2).mono (B' := w2.heap.size) (by omega)
    have hF := ruleAt a c l p w2 h2 hn
    clear h1 b2 b1 r1
    rcases fd_bd l p with hf | ⟨j, hf, hj⟩
    · have HR : Hid (frC l p = 4 ∧ frT l p = ⟨#[]⟩) := ⟨by unfold frC; rw [if_pos h0, if_pos hf], by unfold frT; rw [if_neg (fun c => c.2 hf)]⟩
      rw [hf] at hF
      have d0 := r2.c0
      have d1 := r2.c1
      have f0 := r2.f0
      have f1 := r2.f1
      clear r2 h2 hf
      go_wp2_with fail
      refine hF.mono ?_
      rintro e w3 ⟨rfl, rfl⟩
      go_wp2
      refine bodyPost_ret (v := .agg #[.int .i64 4, .string ⟨#[]⟩]) (by simp [results, Try.results8, go_sem, d0, d1]) rfl ?_
      exact ⟨ret_ct HR.out.1.symm HR.out.2.symm, by rw [hb]; exact below_sets B2 (Nat.le_refl _) _ _⟩
    · have HR : Hid (frC l p = 0 ∧ frT l p = (l.getD j onil).2) := ⟨by unfold frC; rw [if_pos h0, if_neg (by rw [hf]; omega)], by unfold frT; rw [if_pos ⟨h0, by rw [hf]; omega⟩, hf]; rfl⟩
      rw [hf] at hF
      obtain ⟨g, off, e, hg, d0, d1⟩ := h2 j hj
      subst e
      have hsl := (hs _ (ob_mem l j hj)).2
      obtain ⟨x, hx⟩ : ∃ x, (l.getD j onil).2 = x := ⟨_, rfl⟩
      rw [hx] at d1 HR hsl
      have qj : (j : Int) < (l.length : Int) := by omega
      have qn : ¬ (j : Int) < 0 := by omega
      have qe : ((j : Int) == -1) = false := by simp
      clear hx hf h2 d0
      go_wp2_with fail
      refine hF.mono ?_
      rintro e w3 ⟨rfl, rfl⟩
      obtain ⟨W4, hW4⟩ : ∃ W, w3.alloc (.cells #[.string x] 9) = W := ⟨_, rfl⟩
      have b4 : Below w3.heap.size w3 W4 := by rw [← hW4]; exact allocBelow _ _
      have hSS : SS W4 (some ⟨w3.heap.size, 0, none⟩) [x] := by
        rw [← hW4]
        exact ss_one _ _ _ (by omega)
      have hJ := Jd.joinedC (some ⟨w3.heap.size, 0, none⟩) 1 [x] W4 hSS (by simp) (by simp [tot]; omega)
      rw [catB_one] at hJ
      have r4 := r2.below (by omega) b4
      have z4 := b4.size
      have B4 : Below b w W4 := B2.trans (b4.mono (by omega))
      clear r2 B2 b4 hSS hF
      go_wp2_with fail
      refine hJ.mono ?_
      clear hJ
      rintro e w5 ⟨rfl, b5⟩
      have r5 := r4.below (by omega) b5
      have B5 : Below b w w5 := B4.trans (b5.mono (by omega))
      have d0 := r5.c0
      have d2 := r5.c1
      have f0 := r5.f0
      have f1 := r5.f1
      clear r4 r5 b5 B4 hW4
      go_wp2
      refine bodyPost_ret (v := .agg #[.int .i64 0, .string x]) (by simp [results, Try.results8, go_sem, d0, d2]) rfl ?_
      exact ⟨ret_ct HR.out.1.symm HR.out.2.symm, by rw [hb]; exact below_sets B5 (Nat.le_refl _) _ _⟩
  · have HR : Hid (frC l p = rf l ∧ frT l p = ⟨#[]⟩) := ⟨by unfold frC; rw [if_neg h0], by unfold frT; rw [if_neg (fun c => h0 c.1)]⟩
    have q0 : (rf l != 0) = true := by simp [h0]
    generalize rf l = V at hR HR q0
    go_enter Try.func8, Try.ntmps8
    go_wp2_with fail
    refine hR.mono ?_
    clear hR
    rintro e w2 ⟨rfl, b2⟩
    have B2 : Below b w w2 := b1.trans (b2.mono (by omega))
    have r2 := r1.below (by omega) b2
    have d0 := r2.c0
    have d1 := r2.c1
    have f0 := r2.f0
    have f1 := r2.f1
    clear r2 r1 b1 h1 b2
    go_wp2
    refine bodyPost_ret (v := .agg #[.int .i64 V, .string ⟨#[]⟩]) (by simp [results, Try.results8, go_sem, d0, d1]) rfl ?_
    exact ⟨ret_ct HR.out.1.symm HR.out.2.symm, by rw [hb]; exact below_sets B2 (Nat.le_refl _) _ _⟩
end Go.Proofs.Ytkeinpobngfioaa.Ru
