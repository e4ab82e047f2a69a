/- A rule is learnt: the mathematics, and the program. No statement is proved here. -/
import Derived.Test.YtibdlfojoafloaaRows
import Derived.Test.YtibdlfojoafloaaLem
import Derived.Test.YtibdlfojoafloaaStrs
import Derived.Test.YtibdlfojoafloaaLFLem
import Derived.Test.YtibdlfojoafloaaDTab
import Derived.Test.YtibdlfojoafloaaOwn
import Derived.Test.YtibdlfojoafloaaFr
import Derived.Test.YtibdlfojoafloaaHkT
import Derived.Test.YtibdlfojoafloaaRuL
import Derived.Test.YtibdlfojoafloaaRuF
import Derived.Test.YtibdlfojoafloaaFrC
import Derived.Test.YtibdlfojoafloaaRlB
import Derived.Test.YtibdlfojoafloaaRlC
import Derived.Test.YtibdlfojoafloaaTF
import Derived.Test.YtibdlfojoafloaaSpl
import Derived.Test.YtibdlfojoafloaaJoinC
import Derived.Test.YtibdlfojoafloaaJdC
import Derived.Test.YtibdlfojoafloaaRlD
import Derived.Test.YtibdlfojoafloaaRlE
import Derived.Test.YtibdlfojoafloaaRlF
import Derived.Test.YtibdlfojoafloaaCpK
import Derived.Test.YtibdlfojoafloaaInU
import Derived.Test.YtibdlfojoafloaaRlH
import Derived.WalkKit
import Derived.ProofKit
import Derived.Below
import Derived.WalkSpells
import Derived.Maps.AppendAt
import Derived.Laws.BitsLemmas
import Derived.Laws.Cover1
import Derived.Deep.QuietTactic
import Derived.BigQuiet
import Derived.Deep.RegionWith
import Derived.Deep.RegionHeld
import Derived.Deep.CutRange
set_option linter.unusedVariables false
namespace Go.Proofs.Ytibdlfojoafloaa.Ru
open Go.ChangeShapes Go.WideShapes Go.ChangeAt Go.RowKit

/-- How many rules stand ahead of a text. -/
def plF (l : List Ob) (p : ByteArray) : Nat → Nat → Nat
  | 0, k => k
  | n + 1, k => if Op.bytesLess (l.getD k onil).1.toList p.toList then plF l p n (k + 1) else k
def pl (l : List Ob) (p : ByteArray) : Nat := plF l p l.length 0
theorem plF_go {l : List Ob} {p : ByteArray} {n k : Nat} (h : Op.bytesLess (l.getD k onil).1.toList p.toList = true) : plF l p (n + 1) k = plF l p n (k + 1) := by rw [plF, if_pos h]
theorem plF_stop {l : List Ob} {p : ByteArray} {n k : Nat} (h : Op.bytesLess (l.getD k onil).1.toList p.toList = false) : plF l p (n + 1) k = k := by rw [plF, if_neg (by rw [h]; simp)]
theorem plF_spec (l : List Ob) (p : ByteArray) : ∀ n k, k + n = l.length → k ≤ plF l p n k ∧ plF l p n k ≤ l.length ∧ (∀ j, k ≤ j → j < plF l p n k → Op.bytesLess (l.getD j onil).1.toList p.toList = true) ∧ (plF l p n k < l.length → Op.bytesLess (l.getD (plF l p n k) onil).1.toList p.toList = false) := by
  intro n
  induction n with
  | zero => intro k hk; exact ⟨Nat.le_refl _, by show k ≤ _; omega, fun j h1 h2 => absurd h2 (by show ¬ j < k; omega), fun h => absurd h (by show ¬ k < _; omega)⟩
  | succ n ih =>
    intro k hk
    cases hb : Op.bytesLess (l.getD k onil).1.toList p.toList with
    | true =>
      rw [plF_go hb]
      obtain ⟨h1, h2, h3, h4⟩ := ih (k + 1) (by omega)
      refine ⟨by omega, h2, fun j q1 q2 => ?_, h4⟩
      by_cases e : j = k
      · rw [e]; exact hb
      · exact h3 j (by omega) q2
    | false =>
      rw [plF_stop hb]
      exact ⟨Nat.le_refl _, by omega, fun j q1 q2 => absurd q2 (by omega), fun _ => hb⟩
theorem pl_le (l : List Ob) (p : ByteArray) : pl l p ≤ l.length := (plF_spec l p l.length 0 (by omega)).2.1
theorem cmR_lt (x y : Ob) : cmR x y < 0 ↔ Op.bytesLess x.1.toList y.1.toList = true := by
  rw [ByteArray.toList_eq, ByteArray.toList_eq, ← cmp_lt]
  unfold cmR
  simp
theorem pl_cuts {l : List Ob} (h0 : rf l = 0) (E : Ob) : Cuts l E (pl l E.1) := by
  obtain ⟨_, h2, h3, h4⟩ := plF_spec l E.1 l.length 0 (by omega)
  refine ⟨h2, fun k hk => (cmR_lt _ _).2 (h3 k (Nat.zero_le _) hk), fun k hk hl => ?_⟩
  have h5 := h4 (Nat.lt_of_le_of_lt hk hl)
  rcases Int.lt_or_le (cmR (l.getD k onil) E) 0 with q | q
  · exfalso
    have q2 := (cmR_lt _ _).1 q
    by_cases e : pl l E.1 = k
    · have h6 : Op.bytesLess (l.getD (pl l E.1) onil).1.toList E.1.toList = false := h5
      rw [e, q2] at h6; cases h6
    · have h7 := bl_trans _ _ _ (rises h0 (pl l E.1) k (by omega) hl) q2
      have h6 : Op.bytesLess (l.getD (pl l E.1) onil).1.toList E.1.toList = false := h5
      rw [h7] at h6; cases h6
  · exact q
theorem cmp_zero : ∀ a b : List UInt8, Lib.compareBytes a b = 0 → a = b
  | [], [], _ => rfl
  | [], _ :: _, h => by simp [Lib.compareBytes] at h
  | _ :: _, [], h => by simp [Lib.compareBytes] at h
  | x :: a, y :: b, h => by
    unfold Lib.compareBytes at h
    by_cases h1 : x < y
    · simp [h1] at h
    · by_cases h2 : y < x
      · simp [h1, h2] at h
      · have e : x = y := by
          apply UInt8.toNat_inj.1
          have a1 : ¬ x.toNat < y.toNat := h1
          have a2 : ¬ y.toNat < x.toNat := h2
          omega
        subst e
        simp only [h1, if_false] at h
        rw [cmp_zero a b h]
theorem cmp_self : ∀ a : List UInt8, Lib.compareBytes a a = 0
  | [] => rfl
  | x :: a => by
    unfold Lib.compareBytes
    have : ¬ x < x := by simp
    simp [this, cmp_self a]
theorem fdF_none {l : List Ob} {p : ByteArray} : ∀ n k, k + n = l.length → fdF l p n k = -1 → ∀ j, k ≤ j → j < l.length → ¬ (l.getD j onil).1 = p := by
  intro n
  induction n with
  | zero => intro k hk _ j h1 h2; omega
  | succ n ih =>
    intro k hk h j h1 h2
    by_cases e : (l.getD k onil).1 = p
    · rw [fdF_hit e] at h; omega
    · rw [fdF_miss e] at h
      by_cases q : j = k
      · rw [q]; exact e
      · exact ih (k + 1) (by omega) h j (by omega) h2
theorem fd_none {l : List Ob} {p : ByteArray} (h : fd l p = -1) : ∀ j, j < l.length → ¬ (l.getD j onil).1 = p := fun j hj => fdF_none l.length 0 (by omega) h j (Nat.zero_le _) hj
/-- Where the text stands already it is hit, and else it is not. -/
theorem pl_miss {l : List Ob} {E : Ob} (h : fd l E.1 = -1) : hit l E (pl l E.1) = false := by
  unfold hit
  by_cases hp : pl l E.1 < l.length
  · have hne := fd_none h _ hp
    have : ¬ cmR (l.getD (pl l E.1) onil) E = 0 := fun e => hne (by
      unfold cmR at e
      have := cmp_zero _ _ e
      apply ByteArray.ext
      exact Array.ext' this)
    rw [beq_eq_false_iff_ne.2 this, Bool.and_false]
  · simp [hp]
theorem pl_hit {l : List Ob} {E : Ob} {j : Nat} (h0 : rf l = 0) (h : fd l E.1 = (j : Int)) (hj : j < l.length) : pl l E.1 = j ∧ hit l E (pl l E.1) = true := by
  obtain ⟨q1, q2, q3⟩ := pl_cuts h0 E
  have e1 := fd_at h
  have hz : cmR (l.getD j onil) E = 0 := by unfold cmR; rw [e1]; exact cmp_self _
  have hle : pl l E.1 ≤ j := by
    rcases Nat.lt_or_ge j (pl l E.1) with q | q
    · have := q2 j q; omega
    · exact q
  have he : pl l E.1 = j := by
    by_cases e : pl l E.1 = j
    · exact e
    · exfalso
      have h1 := rises h0 (pl l E.1) j (by omega) hj
      have h2 := q3 (pl l E.1) (Nat.le_refl _) (by omega)
      have h3 : cmR (l.getD (pl l E.1) onil) E < 0 := (cmR_lt _ _).2 (by rw [e1] at h1; exact h1)
      omega
  refine ⟨he, ?_⟩
  unfold hit
  rw [he, hz]
  simp [hj]
/-- What LearnRule answers. -/
def lnC (l : List Ob) (p q : ByteArray) : Int := if rf l = 0 then (if okPre p = true then (if tf q = 0 then (if fd l p = -1 ∧ l.length = 40 then 2 else 0) else tf q) else 1) else rf l
def lnM (l : List Ob) (p q : ByteArray) : List Ob := if fd l p = -1 then insL l (pl l p) (p, q) else l.set (fd l p).toNat (p, q)
def lnL (l : List Ob) (p q : ByteArray) : List Ob := if rf l = 0 ∧ okPre p = true ∧ tf q = 0 ∧ ¬ (fd l p = -1 ∧ l.length = 40) then lnM l p q else []
theorem ln_ok {l : List Ob} {p q : ByteArray} (h0 : rf l = 0) (h1 : okPre p = true) (h2 : tf q = 0) (h3 : ¬ (fd l p = -1 ∧ l.length = 40)) : lnC l p q = 0 ∧ lnL l p q = lnM l p q := by
  unfold lnC lnL
  rw [if_pos h0, if_pos h1, if_pos h2, if_neg h3, if_pos ⟨h0, h1, h2, h3⟩]
  exact ⟨rfl, rfl⟩
theorem ln_many {l : List Ob} {p q : ByteArray} (h0 : rf l = 0) (h1 : okPre p = true) (h2 : tf q = 0) (h3 : fd l p = -1 ∧ l.length = 40) : lnC l p q = 2 ∧ lnL l p q = [] := by
  unfold lnC lnL
  rw [if_pos h0, if_pos h1, if_pos h2, if_pos h3, if_neg (fun c => c.2.2.2 h3)]
  exact ⟨rfl, rfl⟩
theorem ln_text {l : List Ob} {p q : ByteArray} (h0 : rf l = 0) (h1 : okPre p = true) (h2 : ¬ tf q = 0) : lnC l p q = tf q ∧ lnL l p q = [] := by
  unfold lnC lnL
  rw [if_pos h0, if_pos h1, if_neg h2, if_neg (fun c => h2 c.2.2.1)]
  exact ⟨rfl, rfl⟩
theorem ln_pre {l : List Ob} {p q : ByteArray} (h0 : rf l = 0) (h1 : okPre p = false) : lnC l p q = 1 ∧ lnL l p q = [] := by
  unfold lnC lnL
  rw [if_pos h0, if_neg (by rw [h1]; simp), if_neg (fun c => by rw [h1] at c; simp at c)]
  exact ⟨rfl, rfl⟩
theorem ln_bad {l : List Ob} {p q : ByteArray} (h0 : ¬ rf l = 0) : lnC l p q = rf l ∧ lnL l p q = [] := by
  unfold lnC lnL
  rw [if_neg h0, if_neg (fun c => h0 c.1)]
  exact ⟨rfl, rfl⟩
/-- add, wherever the element belongs. -/
theorem addC (b : Nat) (l : List Ob) (v : Value) (p q : ByteArray) (w : World) (h : SL w b l v) (h0 : rf l = 0) :
    Calls Try.prog 36 #[.pointer (some ⟨b, 0, none⟩), .agg #[.string p, .string q]] w fun e w' => AD b (lnM l p q) w e w' := by
  have hn := (rf_zero h0).1
  have hc := pl_cuts h0 (p, q)
  unfold lnM
  rcases fd_bd l p with hf | ⟨j, hf, hj⟩
  · rw [if_pos hf]
    have hm := pl_miss (E := (p, q)) hf
    by_cases hp : pl l p < l.length
    · exact addMidC b l v (p, q) (pl l p) w h (by omega) hc hp hm
    · have e : pl l p = l.length := by have := pl_le l p; omega
      have e2 : insL l (pl l p) (p, q) = l ++ [(p, q)] := by unfold insL; rw [e, List.take_length, List.drop_length]; simp
      rw [e2]
      refine addEndC b l v (p, q) w h (by omega) ?_
      rw [show ((p, q) : Ob).1 = p from rfl, e] at hc
      exact hc.2.1
  · rw [if_neg (by rw [hf]; omega), hf, Int.toNat_natCast]
    obtain ⟨e, hm⟩ := pl_hit (E := (p, q)) h0 hf hj
    rw [e] at hc hm
    exact addHitC b l v (p, q) j w h (by omega) hc hj hm
set_option maxRecDepth 20000 in
set_option maxHeartbeats 4000000 in
theorem implLearnRule (a : Option Addr) (c : Nat) (l : List Ob) (p q : ByteArray) (w : World) (h : OB w.heap.size w a l) (hs : SmallO l) (hn : l.length ≤ 1048576) (hp : p.size ≤ 1048576) (hq : q.size ≤ 1048576) :
    Calls Try.prog 9 #[.slice a l.length c, .string p, .string q] w fun e w' => RQ (lnC l p q) (lnL l p q) w e w' := by
  obtain ⟨b, hb⟩ : ∃ b, w.heap.size = b := ⟨_, rfl⟩
  obtain ⟨W1, hW1⟩ : ∃ W, w.alloc (.cells #[.int .i64 0, .slice none 0 0] 28) = W := ⟨_, rfl⟩
  have b1 : Below b w W1 := by rw [← hW1, ← hb]; exact allocBelow _ _
  have r1 : Rf W1 b [.int .i64 0, .slice none 0 0] := by rw [← hW1, ← hb]; exact Rf.new _ #[.int .i64 0, .slice none 0 0] _
  have z1 : W1.heap.size = b + 1 := by rw [← hW1, ← hb]; simp
  have h1 := (h.below (by rw [hb]; exact b1)).mono (B' := W1.heap.size) (by omega)
  have hR := implRulesFault a c l W1 h1 hs hn
  have hP := fun W => implPre p W hp
  have hT := fun W => implTextFault q W hq
  by_cases h0 : rf l = 0
  case neg =>
    have HR := ln_bad (p := p) (q := q) h0
    have HRR : Hid (lnC l p q = rf l ∧ lnL l p q = []) := HR
    have q : (rf l != 0) = true := by simpa using h0
    obtain ⟨R, hRe⟩ : ∃ R, rf l = R := ⟨_, rfl⟩
    rw [hRe] at hR q HRR
    clear h0 hRe HR hP hT
    go_enter Try.func9, Try.ntmps9
    go_wp2_with fail
    refine hR.mono ?_
    clear hR hW1
    rintro e w2 ⟨rfl, b2⟩
    have B2 : Below b w w2 := b1.trans (b2.mono (by omega))
    have r2 := r1.below (by omega) b2
    have d0 := r2.at_ 0 _ rfl
    have d1 := r2.at_ 1 _ rfl
    have f0 := r2.fz 0
    have f1 := r2.fz 1
    clear r2 r1 b2 b1 h1
    go_wp2
    refine bodyPost_ret (v := .agg #[.int .i64 R, .slice none 0 0]) (by simp [results, Try.results9, go_sem, d0, d1]) rfl ?_
    rw [HRR.out.1, HRR.out.2]
    exact rq0 (by rw [hb]; exact below_sets B2 (by omega) _ _)
  rw [h0] at hR
  have hl40 := (rf_zero h0).1
  go_enter Try.func9, Try.ntmps9
  go_wp2_with fail
  refine hR.mono ?_
  clear hR hW1
  rintro e w2 ⟨rfl, b2⟩
  have B2 : Below b w w2 := b1.trans (b2.mono (by omega))
  have z2 := b2.size
  have r2 := r1.below (by omega) b2
  have h2 := (h1.below b2).mono (B' := w2.heap.size) (by omega)
  clear h1 b2 b1 r1
  cases hpre : okPre p with
  | false =>
    have HRR : Hid (lnC l p q = 1 ∧ lnL l p q = []) := ln_pre h0 hpre
    rw [hpre] at hP
    have d0 := r2.at_ 0 _ rfl
    have d1 := r2.at_ 1 _ rfl
    have f0 := r2.fz 0
    have f1 := r2.fz 1
    clear r2 h2 h0 hpre hT
    go_wp2_with fail
    refine (hP _).mono ?_; rintro e W2 ⟨rfl, rfl⟩
    go_wp2
    refine bodyPost_ret (v := .agg #[.int .i64 1, .slice none 0 0]) (by simp [results, Try.results9, go_sem, d0, d1]) rfl ?_
    rw [HRR.out.1, HRR.out.2]
    exact rq0 (by rw [hb]; exact below_sets B2 (by omega) _ _)
  | true =>
  rw [hpre] at hP
  go_wp2_with fail
  refine (hP _).mono ?_; rintro e w2 ⟨rfl, rfl⟩
  clear hP
  by_cases ht : tf q = 0
  case neg =>
    have HRR : Hid (lnC l p q = tf q ∧ lnL l p q = []) := ln_text h0 hpre ht
    have hq2 : (tf q != 0) = true := by simpa using ht
    obtain ⟨R, hRe⟩ : ∃ R, tf q = R := ⟨_, rfl⟩
    rw [hRe] at hT hq2 HRR
    clear ht hRe
    go_wp2_with fail
    refine (hT _).mono ?_; rintro e w3 ⟨rfl, b3⟩
    have B3 : Below b w w3 := B2.trans (b3.mono (by omega))
    have r3 := r2.below (by omega) b3
    have d0 := r3.at_ 0 _ rfl
    have d1 := r3.at_ 1 _ rfl
    have f0 := r3.fz 0
    have f1 := r3.fz 1
    clear r3 r2 b3 B2 h2 h0 hT
    go_wp2
    refine bodyPost_ret (v := .agg #[.int .i64 R, .slice none 0 0]) (by simp [results, Try.results9, go_sem, d0, d1]) rfl ?_
    rw [HRR.out.1, HRR.out.2]
    exact rq0 (by rw [hb]; exact below_sets B3 (by omega) _ _)
  rw [ht] at hT
  go_wp2_with fail
  refine (hT _).mono ?_; rintro e w3 ⟨rfl, b3⟩
  have B3 : Below b w w3 := B2.trans (b3.mono (by omega))
  have z3 := b3.size
  have r3 := r2.below (by omega) b3
  have h3 := (h2.below b3).mono (B' := w3.heap.size) (by omega)
  clear hT b3 B2 r2 h2
  have hF := ruleAt a c l p w3 h3 hn
  by_cases hm : fd l p = -1 ∧ l.length = 40
  case pos =>
    have HRR : Hid (lnC l p q = 2 ∧ lnL l p q = []) := ln_many h0 hpre ht hm
    obtain ⟨hf, hl⟩ := hm
    rw [hf] at hF
    have ql : ((l.length : Int) == 40) = true := by rw [hl]; rfl
    have d0 := r3.at_ 0 _ rfl
    have d1 := r3.at_ 1 _ rfl
    have f0 := r3.fz 0
    have f1 := r3.fz 1
    clear r3 h3 h0 hf hl
    go_wp2_with fail
    refine hF.mono ?_; rintro e w3 ⟨rfl, rfl⟩
    go_wp2
    refine bodyPost_ret (v := .agg #[.int .i64 2, .slice none 0 0]) (by simp [results, Try.results9, go_sem, d0, d1]) rfl ?_
    rw [HRR.out.1, HRR.out.2]
    exact rq0 (by rw [hb]; exact below_sets B3 (by omega) _ _)
  have HRR : Hid (lnC l p q = 0 ∧ lnL l p q = lnM l p q) := ln_ok h0 hpre ht hm
  have hO := rulesOfC a c l w3 h3 hs (by omega) h0
  have hA := fun W B v (x : SL W B l v) => addC B l v p q W x h0
  obtain ⟨D, hD⟩ : ∃ D, fd l p = D := ⟨_, rfl⟩
  rw [hD] at hF hm
  have key : (D = -1 ∧ ((l.length : Int) == 40) = false) ∨ (D == -1) = false := by
    by_cases e : D = -1
    · exact .inl ⟨e, beq_eq_false_iff_ne.2 (fun c => hm ⟨e, by omega⟩)⟩
    · exact .inr (beq_eq_false_iff_ne.2 e)
  obtain ⟨g, hg⟩ : ∃ g, w3.heap.size = g := ⟨_, rfl⟩
  clear h0 hpre ht hm hD h3
  rcases key with ⟨rfl, ql⟩ | qd
  all_goals
    go_wp2_with fail
    refine hF.mono ?_; rintro e W3 ⟨rfl, rfl⟩
    clear hF
    go_wp2_with fail
    refine hO.mono ?_
    clear hO
    rintro e w4 ⟨rfl, ⟨v4, S4⟩, b4⟩
    have r4 := r3.below (by omega) b4
    have B4 : Below b w w4 := B3.trans (b4.mono (by omega))
    rw [hg] at S4
    have z4 := S4.lt
    have b5 := allocBelow w4 (.cells #[.string p] 9)
    have J1 := joined1 (w4.alloc (.cells #[.string p] 9)) w4.heap.size p (new0 _ _ _) hp
    clear r3 B3 b4
    go_wp2_with fail
    refine J1.mono ?_; rintro e w6 ⟨rfl, b6⟩
    have b46 : Below w4.heap.size w4 w6 := b5.trans (b6.mono b5.size)
    have r6 := r4.below (by omega) b46
    have B6 : Below b w w6 := B4.trans (b46.mono (by omega))
    have S6 := S4.below b46
    have z6 := S6.lt
    have b7 := allocBelow w6 (.cells #[.string q] 9)
    have J2 := joined1 (w6.alloc (.cells #[.string q] 9)) w6.heap.size q (new0 _ _ _) hq
    clear J1 r4 B4 b46 S4 b5 b6
    go_wp2_with fail
    refine J2.mono ?_; rintro e w8 ⟨rfl, b8⟩
    have b68 : Below w6.heap.size w6 w8 := b7.trans (b8.mono b7.size)
    have r8 := r6.below (by omega) b68
    have B8 : Below b w w8 := B6.trans (b68.mono (by omega))
    have S8 := S6.below b68
    have z8 := S8.lt
    have hA8 := hA w8 g v4 S8
    clear J2 r6 B6 b68 S6 b7 b8 hA
    go_wp2_with fail
    refine hA8.mono ?_
    clear hA8
    rintro e w9 ⟨rfl, ⟨v9, S9⟩, b9⟩
    obtain ⟨ua, uc, rfl⟩ := shapeK3 S9.own
    have B9 : Below b w w9 := B8.trans (b9.mono (by omega))
    have r9 : Rf w9 b [.int .i64 0, .slice none 0 0] := ⟨fun k v hk => (b9.cell (p := ⟨b, k, none⟩) (show b < g by omega)).trans (r8.at_ k v hk), fun k => (b9.frozen (p := ⟨b, k, none⟩) (show b < g by omega)).trans (r8.fz k)⟩
    have c9 := S9.rf.at_ 1 _ rfl
    have d0 := r9.at_ 0 _ rfl
    have d1 := r9.at_ 1 _ rfl
    have f0 := r9.fz 0
    have f1 := r9.fz 1
    obtain ⟨L, hL⟩ : ∃ L, lnM l p q = L := ⟨_, rfl⟩
    rw [hL] at S9 HRR c9
    have HQ : Hid (RQ 0 L w (.returned (.agg #[.int .i64 0, .slice ua L.length uc])) ((w9.setCell ⟨b, 0, none⟩ (.int .i64 0)).setCell ⟨b, 1, none⟩ (.slice ua L.length uc))) := by
      have o1 := S9.own.kept (grownSet w9 b 0 (.int .i64 0)) (blockCases _ _ fun i c1 c2 => by cases c2; have := (S9.own.lt _ c1).1; omega)
      have o2 := o1.kept (grownSet _ b 1 (.slice ua L.length uc)) (blockCases _ _ fun i c1 c2 => by cases c2; have := (S9.own.lt _ c1).1; omega)
      exact ⟨_, rfl, ownMonoR o2 (by omega), by rw [hb]; exact below_sets B9 (by omega) _ _⟩
    clear S9 r9 r8 B8 B9 b9 S8 hL
    go_wp2
    refine bodyPost_ret (v := .agg #[.int .i64 0, .slice ua L.length uc]) (by simp [results, Try.results9, go_sem, d0, d1]) rfl ?_
    rw [HRR.out.1, HRR.out.2]
    exact HQ.out
end Go.Proofs.Ytibdlfojoafloaa.Ru
