/- The contracts of SameLines (the program's and the specification's). No statement is proved here. -/
import Derived.Test.YtgincoiehbdphaaGreatDoorCkLQ
import Derived.OpenShut
import Derived.ChangeKeysEq
namespace Go.Proofs.YtgincoiehbdphaaGreatDoor.Same
open Go.ChangeShapes Go.WideShapes Go.ChangeAt Go.RowKit
set_option maxHeartbeats 1600000 in
theorem specSameLines : Eqs 249 := by
 intro a1 a2 c1 c2 xs ys w h1 h2 hn hm
 by_cases hl : xs.length = ys.length
 ·have hlI : ((xs.length : Int) != (ys.length : Int)) = false := by simp [hl]
  have HL : Hid (xs.length = ys.length) := hl
  clear hl
  go_enter Tryz.func249, Tryz.ntmps249
  go_wp2
  go_loopw [5] (fun i wr => ∃ k : Nat, k <= xs.length /\ i = .int .i64 k /\ sameTo xs ys k /\ ∃ n, wr = w.drewN n) (fun i _ => xs.length - (intOf i).toNat)
  case atStart => exact ⟨0, Nat.zero_le _, rfl, fun i hi => absurd hi (Nat.not_lt_zero _), 0, rfl⟩
  case round =>
   obtain ⟨k, hk, rfl, hsm, n, rfl⟩ := hrel
   by_cases hlt : k < xs.length
   ·have hlt2 : k < ys.length := by have := HL.out; omega
    obtain ⟨b, off, rfl, hb, hc⟩ := h1.2 k hlt
    obtain ⟨b', off', rfl, hb', hc'⟩ := h2.2 k hlt2
    obtain ⟨s, hse⟩ : ∃ s, s = xs.getD k ByteArray.empty := ⟨_, rfl⟩
    obtain ⟨t, hte⟩ : ∃ t, t = ys.getD k ByteArray.empty := ⟨_, rfl⟩
    rw [<- hse] at hc
    rw [<- hte] at hc'
    have HS : Hid (s = xs.getD k ByteArray.empty) := hse
    have HT : Hid (t = ys.getD k ByteArray.empty) := hte
    clear hse hte h1 h2
    have q1 : (k : Int) < (xs.length : Int) := by omega
    have q2 : (k : Int) < (ys.length : Int) := by omega
    by_cases hst : s = t
    ·have HST : Hid (s = t) := hst
     have hbe := beq_bytes_true hst
     clear hst
     go_wp2
     go_quiet (fail)
     go_wp2
     go_roundw
     case rel => exact ⟨k + 1, by omega, by go_num, sameTo_succ hsm (by rw [<- HS.out, <- HT.out]; exact HST.out), _, rfl⟩
     case measure => simp [intOf]; omega
    ·have HST : Hid (¬ s = t) := hst
     have hbe := beq_bytes_false hst
     clear hst
     have hE : Hid (eqB xs ys = false) := by
      show decide (xs = ys) = false
      refine decide_eq_false fun e => HST.out ?_
      rw [HS.out, HT.out, e]
     go_wp2
     go_quiet (fail)
     go_wp2
     go_ret
     exact ⟨ret_bool hE.out.symm, n + nq, World.drewN_drewN _ _ _⟩
   ·have hE : Hid (eqB xs ys = true) := by
     have e : k = xs.length := by omega
     rw [e] at hsm
     exact decide_eq_true (eq_of_sameTo HL.out hsm)
    go_wp2
    go_ret
    exact ⟨ret_bool hE.out.symm, _, rfl⟩
 ·have hlI : ((xs.length : Int) != (ys.length : Int)) = true := by simp; omega
  have hE : Hid (eqB xs ys = false) := by
   show decide (xs = ys) = false
   exact decide_eq_false fun e => hl (by rw [e])
  clear hl
  go_enter Tryz.func249, Tryz.ntmps249
  go_wp2
  go_ret
  exact ⟨ret_bool hE.out.symm, 0, rfl⟩
set_option maxHeartbeats 1600000 in
theorem slicesEqual : Eqs 274 := by
 intro a1 a2 c1 c2 xs ys w h1 h2 hn hm
 by_cases hl : xs.length = ys.length
 ·have hlI : ((xs.length : Int) != (ys.length : Int)) = false := by simp [hl]
  have HL : Hid (xs.length = ys.length) := hl
  clear hl
  go_enter Tryz.func274, Tryz.ntmps274
  go_wp2
  go_loopw [13] (fun i wr => ∃ k : Nat, k <= xs.length /\ i = .int .i64 k /\ sameTo xs ys k /\ ∃ n, wr = w.drewN n) (fun i _ => xs.length - (intOf i).toNat)
  case atStart => exact ⟨0, Nat.zero_le _, rfl, fun i hi => absurd hi (Nat.not_lt_zero _), 0, rfl⟩
  case round =>
   obtain ⟨k, hk, rfl, hsm, n, rfl⟩ := hrel
   by_cases hlt : k < xs.length
   ·have hlt2 : k < ys.length := by have := HL.out; omega
    obtain ⟨b, off, rfl, hb, hc⟩ := h1.2 k hlt
    obtain ⟨b', off', rfl, hb', hc'⟩ := h2.2 k hlt2
    obtain ⟨s, hse⟩ : ∃ s, s = xs.getD k ByteArray.empty := ⟨_, rfl⟩
    obtain ⟨t, hte⟩ : ∃ t, t = ys.getD k ByteArray.empty := ⟨_, rfl⟩
    rw [<- hse] at hc
    rw [<- hte] at hc'
    have HS : Hid (s = xs.getD k ByteArray.empty) := hse
    have HT : Hid (t = ys.getD k ByteArray.empty) := hte
    clear hse hte h1 h2
    have q1 : (k : Int) < (xs.length : Int) := by omega
    have q2 : (k : Int) < (ys.length : Int) := by omega
    by_cases hst : s = t
    ·have HST : Hid (s = t) := hst
     have hbe := beq_bytes_true hst
     clear hst
     go_wp2
     go_quiet (fail)
     go_wp2
     go_roundw
     case rel => exact ⟨k + 1, by omega, by go_num, sameTo_succ hsm (by rw [<- HS.out, <- HT.out]; exact HST.out), _, rfl⟩
     case measure => simp [intOf]; omega
    ·have HST : Hid (¬ s = t) := hst
     have hbe := beq_bytes_false hst
     clear hst
     have hE : Hid (eqB xs ys = false) := by
      show decide (xs = ys) = false
      refine decide_eq_false fun e => HST.out ?_
      rw [HS.out, HT.out, e]
     go_wp2
     go_quiet (fail)
     go_wp2
     go_ret
     exact ⟨ret_bool hE.out.symm, n + nq, World.drewN_drewN _ _ _⟩
   ·have hE : Hid (eqB xs ys = true) := by
     have e : k = xs.length := by omega
     rw [e] at hsm
     exact decide_eq_true (eq_of_sameTo HL.out hsm)
    go_wp2
    go_ret
    exact ⟨ret_bool hE.out.symm, _, rfl⟩
 ·have hlI : ((xs.length : Int) != (ys.length : Int)) = true := by simp; omega
  have hE : Hid (eqB xs ys = false) := by
   show decide (xs = ys) = false
   exact decide_eq_false fun e => hl (by rw [e])
  clear hl
  go_enter Tryz.func274, Tryz.ntmps274
  go_wp2
  go_ret
  exact ⟨ret_bool hE.out.symm, 0, rfl⟩
theorem implSameLines : Eqs 265 := by
 intro a1 a2 c1 c2 xs ys w h1 h2 hn hm
 go_enter Tryz.func265, Tryz.ntmps265
 go_wp2_with (go_at_call 274; refine (slicesEqual _ _ _ _ _ _ _ h1 h2 hn hm).mono ?_; rintro e w' ⟨rfl, n, rfl⟩)
 go_ret
 exact ⟨rfl, _, rfl⟩
end Go.Proofs.YtgincoiehbdphaaGreatDoor.Same
namespace Go.Proofs.YtgincoiehbdphaaGreatDoor
open Go.ChangeShapes Go.WideShapes Go.ChangeAt Go.RowKit
theorem drewB {B : Nat} {a w : World} (h : Below B a w) (n : Nat) : Below B a (w.drewN n) := below_drewN' h n
set_option maxHeartbeats 2000000 in
theorem l4KindQ (a1 a2 a3 : Option Addr) (c1 c2 c3 : Nat) (b o t : List ByteArray) (w : World) (h1 : SS w a1 b) (h2 : SS w a2 o) (h3 : SS w a3 t) (n1 : b.length <= 1048576) (n2 : o.length <= 1048576) (n3 : t.length <= 1048576) :
  Calls Tryz.prog 231 #[.slice a1 b.length c1, .slice a2 o.length c2, .slice a3 t.length c3] w fun e w' => e = .returned (.int .i64 (kd b o t)) /\ ∃ n, w' = w.drewN n := by
 have H1 := fun W p q => Same.specSameLines a1 a2 c1 c2 b o W p q n1 n2
 have H2 := fun W p q => Same.specSameLines a1 a3 c1 c3 b t W p q n1 n3
 have H3 := fun W p q => Same.specSameLines a2 a3 c2 c3 o t W p q n2 n3
 cases e1 : eqB b o with
 | true =>
  cases e2 : eqB b t with
  | true =>
   have K : Hid (kd b o t = 0) := kd_same e1 e2
   rw [e1] at H1; rw [e2] at H2
   clear e1 e2 H3
   go_enter Tryz.func231, Tryz.ntmps231
   go_wp2_with fail
   refine (H1 _ h1 h2).mono ?_; rintro e w1 ⟨rfl, m1, rfl⟩
   go_wp2_with fail
   refine (H2 _ (h1.drewN _) (h3.drewN _)).mono ?_; rintro e w2 ⟨rfl, m2, rfl⟩
   go_wp2_with fail
   go_ret
   exact ⟨ret_int K.out.symm, _, rfl⟩
  | false =>
   have K : Hid (kd b o t = 2) := kd_theirs e1 e2
   rw [e1] at H1; rw [e2] at H2
   clear e1 e2 H3
   go_enter Tryz.func231, Tryz.ntmps231
   go_wp2_with fail
   refine (H1 _ h1 h2).mono ?_; rintro e w1 ⟨rfl, m1, rfl⟩
   go_wp2_with fail
   refine (H2 _ (h1.drewN _) (h3.drewN _)).mono ?_; rintro e w2 ⟨rfl, m2, rfl⟩
   go_wp2_with fail
   go_ret
   exact ⟨ret_int K.out.symm, _, rfl⟩
 | false =>
  cases e2 : eqB b t with
  | true =>
   have K : Hid (kd b o t = 1) := kd_ours e1 e2
   rw [e1] at H1; rw [e2] at H2
   clear e1 e2 H3
   go_enter Tryz.func231, Tryz.ntmps231
   go_wp2_with fail
   refine (H1 _ h1 h2).mono ?_; rintro e w1 ⟨rfl, m1, rfl⟩
   go_wp2_with fail
   refine (H2 _ (h1.drewN _) (h3.drewN _)).mono ?_; rintro e w2 ⟨rfl, m2, rfl⟩
   go_wp2_with fail
   go_ret
   exact ⟨ret_int K.out.symm, _, rfl⟩
  | false =>
   cases e3 : eqB o t with
   | true =>
    have K : Hid (kd b o t = 3) := kd_both e1 e2 e3
    rw [e1] at H1; rw [e2] at H2; rw [e3] at H3
    clear e1 e2 e3
    go_enter Tryz.func231, Tryz.ntmps231
    go_wp2_with fail
    refine (H1 _ h1 h2).mono ?_; rintro e w1 ⟨rfl, m1, rfl⟩
    go_wp2_with fail
    refine (H2 _ (h1.drewN _) (h3.drewN _)).mono ?_; rintro e w2 ⟨rfl, m2, rfl⟩
    go_wp2_with fail
    refine (H3 _ (h2.drewN _) (h3.drewN _)).mono ?_; rintro e w3 ⟨rfl, m3, rfl⟩
    go_wp2_with fail
    go_ret
    exact ⟨ret_int K.out.symm, _, rfl⟩
   | false =>
    have K : Hid (kd b o t = 4) := kd_clash e1 e2 e3
    rw [e1] at H1; rw [e2] at H2; rw [e3] at H3
    clear e1 e2 e3
    go_enter Tryz.func231, Tryz.ntmps231
    go_wp2_with fail
    refine (H1 _ h1 h2).mono ?_; rintro e w1 ⟨rfl, m1, rfl⟩
    go_wp2_with fail
    refine (H2 _ (h1.drewN _) (h3.drewN _)).mono ?_; rintro e w2 ⟨rfl, m2, rfl⟩
    go_wp2_with fail
    refine (H3 _ (h2.drewN _) (h3.drewN _)).mono ?_; rintro e w3 ⟨rfl, m3, rfl⟩
    go_wp2_with fail
    go_ret
    exact ⟨ret_int K.out.symm, _, rfl⟩
set_option maxHeartbeats 2000000 in
theorem kindOf (k : Int) (a1 a2 a3 : Option Addr) (c1 c2 c3 : Nat) (b o t : List ByteArray) (w : World) (h1 : SS w a1 b) (h2 : SS w a2 o) (h3 : SS w a3 t) (n1 : b.length <= 1048576) (n2 : o.length <= 1048576) (n3 : t.length <= 1048576) :
  Calls Tryz.prog 253 #[.agg #[.int .i64 k, .slice a1 b.length c1, .slice a2 o.length c2, .slice a3 t.length c3]] w fun e w' => e = .returned (.int .i64 (kd b o t)) /\ Below w.heap.size w w' := by
 have H1 := fun W p q => Same.implSameLines a1 a2 c1 c2 b o W p q n1 n2
 have H2 := fun W p q => Same.implSameLines a1 a3 c1 c3 b t W p q n1 n3
 have H3 := fun W p q => Same.implSameLines a2 a3 c2 c3 o t W p q n2 n3
 obtain ⟨W, hW⟩ : ∃ W, w.alloc (.cells #[.int .i64 k, .slice a1 b.length c1, .slice a2 o.length c2, .slice a3 t.length c3] 207) = W := ⟨_, rfl⟩
 have hR : Rs W w.heap.size [.int .i64 k, .slice a1 b.length c1, .slice a2 o.length c2, .slice a3 t.length c3] := by rw [<- hW]; exact Rs.new _ _ _
 have bW : Below w.heap.size w W := by rw [<- hW]; exact allocBelow _ _
 have r1 := hR 1 _ rfl
 have r2 := hR 2 _ rfl
 have r3 := hR 3 _ rfl
 replace h1 := h1.below bW
 replace h2 := h2.below bW
 replace h3 := h3.below bW
 clear hR
 cases e1 : eqB b o with
 | true =>
  cases e2 : eqB b t with
  | true =>
   have K : Hid (kd b o t = 0) := kd_same e1 e2
   rw [e1] at H1; rw [e2] at H2
   clear e1 e2 H3
   go_enter Tryz.func253, Tryz.ntmps253
   go_wp2_with fail
   refine (H1 _ h1 h2).mono ?_; rintro e w1 ⟨rfl, m1, rfl⟩
   go_wp2_with fail
   refine (H2 _ (h1.drewN _) (h3.drewN _)).mono ?_; rintro e w2 ⟨rfl, m2, rfl⟩
   go_wp2_with fail
   go_ret
   exact ⟨ret_int K.out.symm, drewB bW _⟩
  | false =>
   have K : Hid (kd b o t = 2) := kd_theirs e1 e2
   rw [e1] at H1; rw [e2] at H2
   clear e1 e2 H3
   go_enter Tryz.func253, Tryz.ntmps253
   go_wp2_with fail
   refine (H1 _ h1 h2).mono ?_; rintro e w1 ⟨rfl, m1, rfl⟩
   go_wp2_with fail
   refine (H2 _ (h1.drewN _) (h3.drewN _)).mono ?_; rintro e w2 ⟨rfl, m2, rfl⟩
   go_wp2_with fail
   go_ret
   exact ⟨ret_int K.out.symm, drewB bW _⟩
 | false =>
  cases e2 : eqB b t with
  | true =>
   have K : Hid (kd b o t = 1) := kd_ours e1 e2
   rw [e1] at H1; rw [e2] at H2
   clear e1 e2 H3
   go_enter Tryz.func253, Tryz.ntmps253
   go_wp2_with fail
   refine (H1 _ h1 h2).mono ?_; rintro e w1 ⟨rfl, m1, rfl⟩
   go_wp2_with fail
   refine (H2 _ (h1.drewN _) (h3.drewN _)).mono ?_; rintro e w2 ⟨rfl, m2, rfl⟩
   go_wp2_with fail
   go_ret
   exact ⟨ret_int K.out.symm, drewB bW _⟩
  | false =>
   cases e3 : eqB o t with
   | true =>
    have K : Hid (kd b o t = 3) := kd_both e1 e2 e3
    rw [e1] at H1; rw [e2] at H2; rw [e3] at H3
    clear e1 e2 e3
    go_enter Tryz.func253, Tryz.ntmps253
    go_wp2_with fail
    refine (H1 _ h1 h2).mono ?_; rintro e w1 ⟨rfl, m1, rfl⟩
    go_wp2_with fail
    refine (H2 _ (h1.drewN _) (h3.drewN _)).mono ?_; rintro e w2 ⟨rfl, m2, rfl⟩
    go_wp2_with fail
    refine (H3 _ (h2.drewN _) (h3.drewN _)).mono ?_; rintro e w3 ⟨rfl, m3, rfl⟩
    go_wp2_with fail
    go_ret
    exact ⟨ret_int K.out.symm, drewB bW _⟩
   | false =>
    have K : Hid (kd b o t = 4) := kd_clash e1 e2 e3
    rw [e1] at H1; rw [e2] at H2; rw [e3] at H3
    clear e1 e2 e3
    go_enter Tryz.func253, Tryz.ntmps253
    go_wp2_with fail
    refine (H1 _ h1 h2).mono ?_; rintro e w1 ⟨rfl, m1, rfl⟩
    go_wp2_with fail
    refine (H2 _ (h1.drewN _) (h3.drewN _)).mono ?_; rintro e w2 ⟨rfl, m2, rfl⟩
    go_wp2_with fail
    refine (H3 _ (h2.drewN _) (h3.drewN _)).mono ?_; rintro e w3 ⟨rfl, m3, rfl⟩
    go_wp2_with fail
    go_ret
    exact ⟨ret_int K.out.symm, drewB bW _⟩
set_option maxHeartbeats 1000000 in
theorem listsOf (k : Int) (a1 a2 a3 : Option Addr) (n1 n2 n3 c1 c2 c3 : Nat) (w : World) :
  Calls Tryz.prog 259 #[.agg #[.int .i64 k, .slice a1 n1 c1, .slice a2 n2 c2, .slice a3 n3 c3]] w fun e w' => e = .returned (.agg #[.slice a1 n1 c1, .slice a2 n2 c2, .slice a3 n3 c3]) /\ Below w.heap.size w w' := by
 have hN : ∀ o1 o2, Below w.heap.size w ((w.alloc o1).alloc o2) := fun o1 o2 => ((Below.refl _ _).alloc (Nat.le_refl _) _).alloc (by simp) _
 go_enter Tryz.func259, Tryz.ntmps259
 go_wp2
 refine bodyPost_ret (v := .agg #[.slice a1 n1 c1, .slice a2 n2 c2, .slice a3 n3 c3]) (by simp [results, Tryz.results259, go_sem]) rfl ?_
 exact ⟨rfl, hN _ _⟩
def lensTo (n1 n2 n3 k : Nat) : List Value := [.int .i64 (if 0 < k then n1 else 0), .int .i64 (if 1 < k then n2 else 0), .int .i64 (if 2 < k then n3 else 0)]
set_option maxRecDepth 20000 in
set_option maxHeartbeats 2000000 in
theorem endsC (a1 a2 a3 : Option Addr) (n1 n2 n3 c1 c2 c3 : Nat) (w : World) :
  Calls Tryz.prog 220 #[.agg #[.slice a1 n1 c1, .slice a2 n2 c2, .slice a3 n3 c3]] w fun e w' => e = .returned (.agg #[.int .i64 n1, .int .i64 n2, .int .i64 n3]) /\ Below w.heap.size w w' := by
 obtain ⟨W0, hW0⟩ : ∃ W, w.alloc (.cells #[.slice a1 n1 c1, .slice a2 n2 c2, .slice a3 n3 c3] 228) = W := ⟨_, rfl⟩
 have B0 : Below w.heap.size w W0 := by rw [<- hW0]; exact allocBelow _ _
 have f0 : Rf W0 w.heap.size [.slice a1 n1 c1, .slice a2 n2 c2, .slice a3 n3 c3] := by rw [<- hW0]; exact Rf.new _ _ _
 have z0 : W0.heap.size = w.heap.size + 1 := by rw [<- hW0]; simp
 obtain ⟨W1, hW1⟩ : ∃ W, W0.alloc (.cells #[.int .i64 0, .int .i64 0, .int .i64 0] 255) = W := ⟨_, rfl⟩
 have f1 : Rf W1 (w.heap.size + 1) [.int .i64 0, .int .i64 0, .int .i64 0] := by rw [<- hW1, <- z0]; exact Rf.new _ _ _
 have b1 : Below W0.heap.size W0 W1 := by rw [<- hW1]; exact allocBelow _ _
 have z1 : W1.heap.size = w.heap.size + 1 + 1 := by rw [<- hW1]; simp [z0]
 obtain ⟨W2, hW2⟩ : ∃ W, W1.alloc (.cells #[.int .i64 0, .int .i64 0, .int .i64 0] 255) = W := ⟨_, rfl⟩
 have f2 : Rf W2 (w.heap.size + 1 + 1) [.int .i64 0, .int .i64 0, .int .i64 0] := by rw [<- hW2, <- z1]; exact Rf.new _ _ _
 have b2 : Below W1.heap.size W1 W2 := by rw [<- hW2]; exact allocBelow _ _
 have z2 : W2.heap.size = w.heap.size + 1 + 1 + 1 := by rw [<- hW2]; simp [z1]
 replace f1 := f1.below (by omega) b2
 replace f0 := (f0.below (by omega) b1).below (by omega) b2
 have B2 : Below w.heap.size w W2 := (B0.trans (b1.mono (by omega))).trans (b2.mono (by omega))
 have p0 := f0.at_ 0 _ rfl
 have p1 := f0.at_ 1 _ rfl
 have p2 := f0.at_ 2 _ rfl
 clear B0 b1 b2 f0
 have i0 : ∀ w, (Instr.index 228 (.agg #[.slice a1 n1 c1, .slice a2 n2 c2, .slice a3 n3 c3]) (.int .i64 0)).run Tryz.prog w = .ok (.slice a1 n1 c1) w := fun _ => by kernel_rfl
 have i1 : ∀ w, (Instr.index 228 (.agg #[.slice a1 n1 c1, .slice a2 n2 c2, .slice a3 n3 c3]) (.int .i64 1)).run Tryz.prog w = .ok (.slice a2 n2 c2) w := fun _ => by kernel_rfl
 have i2 : ∀ w, (Instr.index 228 (.agg #[.slice a1 n1 c1, .slice a2 n2 c2, .slice a3 n3 c3]) (.int .i64 2)).run Tryz.prog w = .ok (.slice a3 n3 c3) w := fun _ => by kernel_rfl
 go_enter Tryz.func220, Tryz.ntmps220
 go_wp2
 go_loopw [7] (fun i wr => ∃ k : Nat, k <= 3 /\ i = .int .i64 k /\ Rf wr (w.heap.size + 1 + 1) (lensTo n1 n2 n3 k) /\ Rf wr (w.heap.size + 1) [.int .i64 0, .int .i64 0, .int .i64 0] /\ Below w.heap.size w wr) (fun i _ => 3 - (intOf i).toNat)
 case atStart => exact ⟨0, by omega, rfl, f2, f1, B2⟩
 case round =>
  clear f1 f2 p0 p1 p2 B2
  obtain ⟨k, hk, rfl, hf, hg, hb⟩ := hrel
  have g0 := hf.fz 0
  have g1 := hf.fz 1
  have g2 := hf.fz 2
  by_cases hlt : k < 3
  ·have hk3 : k = 0 \/ k = 1 \/ k = 2 := by omega
   rcases hk3 with rfl | rfl | rfl
   ·have d := hf.at_ 0 _ rfl
    have HF : Hid (Rf (wr.setCell ⟨w.heap.size + 1 + 1, 0, none⟩ (.int .i64 n1)) (w.heap.size + 1 + 1) (lensTo n1 n2 n3 1)) := hf.set (o := 0) (by simp [lensTo]) _
    have HG : Hid (Rf (wr.setCell ⟨w.heap.size + 1 + 1, 0, none⟩ (.int .i64 n1)) (w.heap.size + 1) [.int .i64 0, .int .i64 0, .int .i64 0]) := hg.other (by omega) _
    have HB : Hid (Below w.heap.size w (wr.setCell ⟨w.heap.size + 1 + 1, 0, none⟩ (.int .i64 n1))) := hb.setCell (p := ⟨w.heap.size + 1 + 1, 0, none⟩) (by show _ <= w.heap.size + 1 + 1; omega) _
    clear hf hg hb
    go_wp2
    go_roundw
    case rel => exact ⟨1, by omega, rfl, HF.out, HG.out, HB.out⟩
    case measure => simp [intOf]
   ·have d := hf.at_ 1 _ rfl
    have HF : Hid (Rf (wr.setCell ⟨w.heap.size + 1 + 1, 1, none⟩ (.int .i64 n2)) (w.heap.size + 1 + 1) (lensTo n1 n2 n3 2)) := hf.set (o := 1) (by simp [lensTo]) _
    have HG : Hid (Rf (wr.setCell ⟨w.heap.size + 1 + 1, 1, none⟩ (.int .i64 n2)) (w.heap.size + 1) [.int .i64 0, .int .i64 0, .int .i64 0]) := hg.other (by omega) _
    have HB : Hid (Below w.heap.size w (wr.setCell ⟨w.heap.size + 1 + 1, 1, none⟩ (.int .i64 n2))) := hb.setCell (p := ⟨w.heap.size + 1 + 1, 1, none⟩) (by show _ <= w.heap.size + 1 + 1; omega) _
    clear hf hg hb
    go_wp2
    go_roundw
    case rel => exact ⟨2, by omega, rfl, HF.out, HG.out, HB.out⟩
    case measure => simp [intOf]
   ·have d := hf.at_ 2 _ rfl
    have HF : Hid (Rf (wr.setCell ⟨w.heap.size + 1 + 1, 2, none⟩ (.int .i64 n3)) (w.heap.size + 1 + 1) (lensTo n1 n2 n3 3)) := hf.set (o := 2) (by simp [lensTo]) _
    have HG : Hid (Rf (wr.setCell ⟨w.heap.size + 1 + 1, 2, none⟩ (.int .i64 n3)) (w.heap.size + 1) [.int .i64 0, .int .i64 0, .int .i64 0]) := hg.other (by omega) _
    have HB : Hid (Below w.heap.size w (wr.setCell ⟨w.heap.size + 1 + 1, 2, none⟩ (.int .i64 n3))) := hb.setCell (p := ⟨w.heap.size + 1 + 1, 2, none⟩) (by show _ <= w.heap.size + 1 + 1; omega) _
    clear hf hg hb
    go_wp2
    go_roundw
    case rel => exact ⟨3, by omega, rfl, HF.out, HG.out, HB.out⟩
    case measure => simp [intOf]
  ·obtain rfl : k = 3 := by omega
   have d0 : wr.cell? ⟨w.heap.size + 1 + 1, 0, none⟩ = some (.int .i64 n1) := hf.at_ 0 _ rfl
   have d1 : wr.cell? ⟨w.heap.size + 1 + 1, 1, none⟩ = some (.int .i64 n2) := hf.at_ 1 _ rfl
   have d2 : wr.cell? ⟨w.heap.size + 1 + 1, 2, none⟩ = some (.int .i64 n3) := hf.at_ 2 _ rfl
   have e0 := hg.at_ 0 _ rfl
   have e1 := hg.at_ 1 _ rfl
   have e2 := hg.at_ 2 _ rfl
   have v0 := hg.fz 0
   have v1 := hg.fz 1
   have v2 := hg.fz 2
   have HB : Hid (Below w.heap.size w (((wr.setCell ⟨w.heap.size + 1, 0, none⟩ (.int .i64 n1)).setCell ⟨w.heap.size + 1, 1, none⟩ (.int .i64 n2)).setCell ⟨w.heap.size + 1, 2, none⟩ (.int .i64 n3))) :=
    ((hb.setCell (p := ⟨w.heap.size + 1, 0, none⟩) (by show _ <= w.heap.size + 1; omega) _).setCell (p := ⟨w.heap.size + 1, 1, none⟩) (by show _ <= w.heap.size + 1; omega) _).setCell (p := ⟨w.heap.size + 1, 2, none⟩) (by show _ <= w.heap.size + 1; omega) _
   clear hf hg hb
   go_wp2
   refine bodyPost_ret (v := .agg #[.int .i64 n1, .int .i64 n2, .int .i64 n3]) (by simp [results, Tryz.results220, go_sem, e0, e1, e2]) rfl ?_
   exact ⟨rfl, HB.out⟩
theorem eqPlaces (x y z : Int) (w : World) : (Op.equalIn 10000 255 (.agg #[.int .i64 x, .int .i64 y, .int .i64 z]) (.agg #[.int .i64 0, .int .i64 0, .int .i64 0])).run Tryz.prog w = .ok (x == 0 && (y == 0 && z == 0)) w := by
 obtain ⟨i, hi, _⟩ := info_parts (show (Tryz.prog.info? 2).map (fun i => (i.zero, i.size, i.bytes)) = some (some (.int .i64 0), 1, 8) by kernel_rfl)
 have p : Tryz.prog.plainKey 2 = true := by kernel_rfl
 have c1 : Tryz.prog.cellsOf 2 = 1 := by kernel_rfl
 have E : ∀ (a b : Int), (Op.equalIn 9999 2 (.int .i64 a) (.int .i64 b)).run Tryz.prog w = .ok (a == b) w := fun a b => run_equalIn_int w 9998 _ _ _ a b Tryz.underlying2
 have P0 : ∀ (a b c : Int), (part 2 #[.int .i64 a, .int .i64 b, .int .i64 c] 0).run Tryz.prog w = .ok (.int .i64 a) w := fun a b c => run_part_plain w p rfl
 have P1 : ∀ (a b c : Int), (part 2 #[.int .i64 a, .int .i64 b, .int .i64 c] 1).run Tryz.prog w = .ok (.int .i64 b) w := fun a b c => run_part_plain w p rfl
 have P2 : ∀ (a b c : Int), (part 2 #[.int .i64 a, .int .i64 b, .int .i64 c] 2).run Tryz.prog w = .ok (.int .i64 c) w := fun a b c => run_part_plain w p rfl
 rw [show (10000 : Nat) = 9999 + 1 from rfl, run_equalIn_array w 9999 _ _ Tryz.underlying255 hi, c1, show List.range 3 = [0, 1, 2] from rfl]
 by_cases h0 : x = 0
 ·by_cases h1 : y = 0
  ·by_cases h2 : z = 0
   ·simp [Op.eqItems, P0, P1, P2, h0, h1, h2, E]
   ·simp [Op.eqItems, P0, P1, P2, h0, h1, h2, E]
  ·simp [Op.eqItems, P0, P1, h0, h1, E]
 ·simp [Op.eqItems, P0, h0, E]
set_option maxRecDepth 20000 in
set_option maxHeartbeats 1000000 in
theorem isBare (k : Int) (a1 a2 a3 : Option Addr) (c1 c2 c3 : Nat) (b o t : List ByteArray) (w : World) :
  Calls Tryz.prog 242 #[.agg #[.int .i64 k, .slice a1 b.length c1, .slice a2 o.length c2, .slice a3 t.length c3]] w fun e w' => e = .returned (.bool (bare (k, b, o, t))) /\ Below w.heap.size w w' := by
 have bW := allocBelow w (.cells #[.int .i64 k, .slice a1 b.length c1, .slice a2 o.length c2, .slice a3 t.length c3] 207)
 go_enter Tryz.func242, Tryz.ntmps242
 go_wp2_with fail
 refine (listsOf _ _ _ _ _ _ _ _ _ _ _).mono ?_; rintro e w1 ⟨rfl, b1⟩
 have B1 := below_step bW (by simp) b1
 go_wp2_with fail
 refine (endsC _ _ _ _ _ _ _ _ _ _).mono ?_; rintro e w2 ⟨rfl, b2⟩
 have B2 := below_step B1 B1.size b2
 obtain ⟨x, hx⟩ : ∃ x : Int, ((b.length : Nat) : Int) = x := ⟨_, rfl⟩
 obtain ⟨y, hy⟩ : ∃ x : Int, ((o.length : Nat) : Int) = x := ⟨_, rfl⟩
 obtain ⟨z, hz⟩ : ∃ x : Int, ((t.length : Nat) : Int) = x := ⟨_, rfl⟩
 rw [hx, hy, hz]
 have E := eqPlaces x y z
 have G : ∀ w, (eqGuard .eql 255 (.tmp 5) (.tmp 6) (.agg #[.int .i64 x, .int .i64 y, .int .i64 z]) (.agg #[.int .i64 0, .int .i64 0, .int .i64 0])).run Tryz.prog w = .ok () w := fun w => run_eqGuard_agg w _ _ _ _ _ _ Tryz.eqGuardType255
 have K : Hid (bare (k, b, o, t) = (x == 0 && (y == 0 && z == 0))) := by
  show _ = _
  unfold bare
  have e1 : (x == 0) = decide (b.length = 0) := by rw [<- hx, Bool.eq_iff_iff]; simp
  have e2 : (y == 0) = decide (o.length = 0) := by rw [<- hy, Bool.eq_iff_iff]; simp
  have e3 : (z == 0) = decide (t.length = 0) := by rw [<- hz, Bool.eq_iff_iff]; simp
  rw [e1, e2, e3]
  simp only [Bool.decide_and]
 clear hx hy hz b1 b2 B1 bW
 go_wp2
 go_ret
 exact ⟨ret_bool K.out.symm, B2⟩
end Go.Proofs.YtgincoiehbdphaaGreatDoor
