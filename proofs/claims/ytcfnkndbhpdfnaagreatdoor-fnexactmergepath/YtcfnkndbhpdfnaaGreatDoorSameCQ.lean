/- The contracts of SameLines (the program's and the specification's). No statement is proved here. -/
import Derived.Test.YtcfnkndbhpdfnaaGreatDoorWkLQ
import Derived.Test.YtcfnkndbhpdfnaaGreatDoorCkLQ
import Derived.OpenShut
import Derived.ChangeKeysEq
import Derived.Maps.AppendAt
import Derived.Laws.AppendOwnNone
import Derived.Deep.CutRange
namespace Go.Proofs.YtcfnkndbhpdfnaaGreatDoor.Same
open Go.ChangeShapes Go.WideShapes Go.ChangeAt Go.RowKit
set_option maxHeartbeats 1600000 in
theorem specSameLines : Eqs 169 := by
 intro a1 a2 c1 c2 xs ys w h1 h2 hn hm
 by_cases hl : xs.length = ys.length
 ·have hlI : ((xs.length : Int) != (ys.length : Int)) = false := by simp [hl]
  have HL : Hid (xs.length = ys.length) := hl
  clear hl
  go_enter Tryz.func169, Tryz.ntmps169
  go_wp2
  go_loopw [5] (fun i wr => ∃ k : Nat, k <= xs.length /\ i = .int .i64 k /\ sameTo xs ys k /\ ∃ n, wr = w.drewN n) (fun i _ => xs.length - (intOf i).toNat)
  case atStart => exact ⟨0, Nat.zero_le _, rfl, fun i hi => absurd hi (Nat.not_lt_zero _), 0, rfl⟩
  case round =>
   obtain ⟨k, hk, rfl, hsm, n, rfl⟩ := hrel
   by_cases hlt : k < xs.length
   ·have hlt2 : k < ys.length := by have := HL.out; omega
    obtain ⟨b, off, rfl, hb, hc⟩ := h1.2 k hlt
    obtain ⟨b', off', rfl, hb', hc'⟩ := h2.2 k hlt2
    obtain ⟨s, hse⟩ : ∃ s, s = xs.getD k ByteArray.empty := ⟨_, rfl⟩
    obtain ⟨t, hte⟩ : ∃ t, t = ys.getD k ByteArray.empty := ⟨_, rfl⟩
    rw [<- hse] at hc
    rw [<- hte] at hc'
    have HS : Hid (s = xs.getD k ByteArray.empty) := hse
    have HT : Hid (t = ys.getD k ByteArray.empty) := hte
    clear hse hte h1 h2
    have q1 : (k : Int) < (xs.length : Int) := by omega
    have q2 : (k : Int) < (ys.length : Int) := by omega
    by_cases hst : s = t
    ·have HST : Hid (s = t) := hst
     have hbe := beq_bytes_true hst
     clear hst
     go_wp2
     go_quiet (fail)
     go_wp2
     go_roundw
     case rel => exact ⟨k + 1, by omega, by go_num, sameTo_succ hsm (by rw [<- HS.out, <- HT.out]; exact HST.out), _, rfl⟩
     case measure => simp [intOf]; omega
    ·have HST : Hid (¬ s = t) := hst
     have hbe := beq_bytes_false hst
     clear hst
     have hE : Hid (eqB xs ys = false) := by
      show decide (xs = ys) = false
      refine decide_eq_false fun e => HST.out ?_
      rw [HS.out, HT.out, e]
     go_wp2
     go_quiet (fail)
     go_wp2
     go_ret
     exact ⟨ret_bool hE.out.symm, n + nq, World.drewN_drewN _ _ _⟩
   ·have hE : Hid (eqB xs ys = true) := by
     have e : k = xs.length := by omega
     rw [e] at hsm
     exact decide_eq_true (eq_of_sameTo HL.out hsm)
    go_wp2
    go_ret
    exact ⟨ret_bool hE.out.symm, _, rfl⟩
 ·have hlI : ((xs.length : Int) != (ys.length : Int)) = true := by simp; omega
  have hE : Hid (eqB xs ys = false) := by
   show decide (xs = ys) = false
   exact decide_eq_false fun e => hl (by rw [e])
  clear hl
  go_enter Tryz.func169, Tryz.ntmps169
  go_wp2
  go_ret
  exact ⟨ret_bool hE.out.symm, 0, rfl⟩
set_option maxHeartbeats 1600000 in
theorem slicesEqual : Eqs 201 := by
 intro a1 a2 c1 c2 xs ys w h1 h2 hn hm
 by_cases hl : xs.length = ys.length
 ·have hlI : ((xs.length : Int) != (ys.length : Int)) = false := by simp [hl]
  have HL : Hid (xs.length = ys.length) := hl
  clear hl
  go_enter Tryz.func201, Tryz.ntmps201
  go_wp2
  go_loopw [13] (fun i wr => ∃ k : Nat, k <= xs.length /\ i = .int .i64 k /\ sameTo xs ys k /\ ∃ n, wr = w.drewN n) (fun i _ => xs.length - (intOf i).toNat)
  case atStart => exact ⟨0, Nat.zero_le _, rfl, fun i hi => absurd hi (Nat.not_lt_zero _), 0, rfl⟩
  case round =>
   obtain ⟨k, hk, rfl, hsm, n, rfl⟩ := hrel
   by_cases hlt : k < xs.length
   ·have hlt2 : k < ys.length := by have := HL.out; omega
    obtain ⟨b, off, rfl, hb, hc⟩ := h1.2 k hlt
    obtain ⟨b', off', rfl, hb', hc'⟩ := h2.2 k hlt2
    obtain ⟨s, hse⟩ : ∃ s, s = xs.getD k ByteArray.empty := ⟨_, rfl⟩
    obtain ⟨t, hte⟩ : ∃ t, t = ys.getD k ByteArray.empty := ⟨_, rfl⟩
    rw [<- hse] at hc
    rw [<- hte] at hc'
    have HS : Hid (s = xs.getD k ByteArray.empty) := hse
    have HT : Hid (t = ys.getD k ByteArray.empty) := hte
    clear hse hte h1 h2
    have q1 : (k : Int) < (xs.length : Int) := by omega
    have q2 : (k : Int) < (ys.length : Int) := by omega
    by_cases hst : s = t
    ·have HST : Hid (s = t) := hst
     have hbe := beq_bytes_true hst
     clear hst
     go_wp2
     go_quiet (fail)
     go_wp2
     go_roundw
     case rel => exact ⟨k + 1, by omega, by go_num, sameTo_succ hsm (by rw [<- HS.out, <- HT.out]; exact HST.out), _, rfl⟩
     case measure => simp [intOf]; omega
    ·have HST : Hid (¬ s = t) := hst
     have hbe := beq_bytes_false hst
     clear hst
     have hE : Hid (eqB xs ys = false) := by
      show decide (xs = ys) = false
      refine decide_eq_false fun e => HST.out ?_
      rw [HS.out, HT.out, e]
     go_wp2
     go_quiet (fail)
     go_wp2
     go_ret
     exact ⟨ret_bool hE.out.symm, n + nq, World.drewN_drewN _ _ _⟩
   ·have hE : Hid (eqB xs ys = true) := by
     have e : k = xs.length := by omega
     rw [e] at hsm
     exact decide_eq_true (eq_of_sameTo HL.out hsm)
    go_wp2
    go_ret
    exact ⟨ret_bool hE.out.symm, _, rfl⟩
 ·have hlI : ((xs.length : Int) != (ys.length : Int)) = true := by simp; omega
  have hE : Hid (eqB xs ys = false) := by
   show decide (xs = ys) = false
   exact decide_eq_false fun e => hl (by rw [e])
  clear hl
  go_enter Tryz.func201, Tryz.ntmps201
  go_wp2
  go_ret
  exact ⟨ret_bool hE.out.symm, 0, rfl⟩
theorem implSameLines : Eqs 195 := by
 intro a1 a2 c1 c2 xs ys w h1 h2 hn hm
 go_enter Tryz.func195, Tryz.ntmps195
 go_wp2_with (go_at_call 201; refine (slicesEqual _ _ _ _ _ _ _ h1 h2 hn hm).mono ?_; rintro e w' ⟨rfl, n, rfl⟩)
 go_ret
 exact ⟨rfl, _, rfl⟩
end Go.Proofs.YtcfnkndbhpdfnaaGreatDoor.Same
namespace Go.Proofs.YtcfnkndbhpdfnaaGreatDoor
open Go.ChangeShapes Go.WideShapes Go.ChangeAt Go.RowKit
theorem drewB {B : Nat} {a w : World} (h : Below B a w) (n : Nat) : Below B a (w.drewN n) := below_drewN' h n
set_option maxHeartbeats 2000000 in
theorem l4KindQ (a1 a2 a3 : Option Addr) (c1 c2 c3 : Nat) (b o t : List ByteArray) (w : World) (h1 : SS w a1 b) (h2 : SS w a2 o) (h3 : SS w a3 t) (n1 : b.length <= 1048576) (n2 : o.length <= 1048576) (n3 : t.length <= 1048576) :
  Calls Tryz.prog 148 #[.slice a1 b.length c1, .slice a2 o.length c2, .slice a3 t.length c3] w fun e w' => e = .returned (.int .i64 (kd b o t)) /\ ∃ n, w' = w.drewN n := by
 have H1 := fun W p q => Same.specSameLines a1 a2 c1 c2 b o W p q n1 n2
 have H2 := fun W p q => Same.specSameLines a1 a3 c1 c3 b t W p q n1 n3
 have H3 := fun W p q => Same.specSameLines a2 a3 c2 c3 o t W p q n2 n3
 cases e1 : eqB b o with
 | true =>
  cases e2 : eqB b t with
  | true =>
   have K : Hid (kd b o t = 0) := kd_same e1 e2
   rw [e1] at H1; rw [e2] at H2
   clear e1 e2 H3
   go_enter Tryz.func148, Tryz.ntmps148
   go_wp2_with fail
   refine (H1 _ h1 h2).mono ?_; rintro e w1 ⟨rfl, m1, rfl⟩
   go_wp2_with fail
   refine (H2 _ (h1.drewN _) (h3.drewN _)).mono ?_; rintro e w2 ⟨rfl, m2, rfl⟩
   go_wp2_with fail
   go_ret
   exact ⟨ret_int K.out.symm, _, rfl⟩
  | false =>
   have K : Hid (kd b o t = 2) := kd_theirs e1 e2
   rw [e1] at H1; rw [e2] at H2
   clear e1 e2 H3
   go_enter Tryz.func148, Tryz.ntmps148
   go_wp2_with fail
   refine (H1 _ h1 h2).mono ?_; rintro e w1 ⟨rfl, m1, rfl⟩
   go_wp2_with fail
   refine (H2 _ (h1.drewN _) (h3.drewN _)).mono ?_; rintro e w2 ⟨rfl, m2, rfl⟩
   go_wp2_with fail
   go_ret
   exact ⟨ret_int K.out.symm, _, rfl⟩
 | false =>
  cases e2 : eqB b t with
  | true =>
   have K : Hid (kd b o t = 1) := kd_ours e1 e2
   rw [e1] at H1; rw [e2] at H2
   clear e1 e2 H3
   go_enter Tryz.func148, Tryz.ntmps148
   go_wp2_with fail
   refine (H1 _ h1 h2).mono ?_; rintro e w1 ⟨rfl, m1, rfl⟩
   go_wp2_with fail
   refine (H2 _ (h1.drewN _) (h3.drewN _)).mono ?_; rintro e w2 ⟨rfl, m2, rfl⟩
   go_wp2_with fail
   go_ret
   exact ⟨ret_int K.out.symm, _, rfl⟩
  | false =>
   cases e3 : eqB o t with
   | true =>
    have K : Hid (kd b o t = 3) := kd_both e1 e2 e3
    rw [e1] at H1; rw [e2] at H2; rw [e3] at H3
    clear e1 e2 e3
    go_enter Tryz.func148, Tryz.ntmps148
    go_wp2_with fail
    refine (H1 _ h1 h2).mono ?_; rintro e w1 ⟨rfl, m1, rfl⟩
    go_wp2_with fail
    refine (H2 _ (h1.drewN _) (h3.drewN _)).mono ?_; rintro e w2 ⟨rfl, m2, rfl⟩
    go_wp2_with fail
    refine (H3 _ (h2.drewN _) (h3.drewN _)).mono ?_; rintro e w3 ⟨rfl, m3, rfl⟩
    go_wp2_with fail
    go_ret
    exact ⟨ret_int K.out.symm, _, rfl⟩
   | false =>
    have K : Hid (kd b o t = 4) := kd_clash e1 e2 e3
    rw [e1] at H1; rw [e2] at H2; rw [e3] at H3
    clear e1 e2 e3
    go_enter Tryz.func148, Tryz.ntmps148
    go_wp2_with fail
    refine (H1 _ h1 h2).mono ?_; rintro e w1 ⟨rfl, m1, rfl⟩
    go_wp2_with fail
    refine (H2 _ (h1.drewN _) (h3.drewN _)).mono ?_; rintro e w2 ⟨rfl, m2, rfl⟩
    go_wp2_with fail
    refine (H3 _ (h2.drewN _) (h3.drewN _)).mono ?_; rintro e w3 ⟨rfl, m3, rfl⟩
    go_wp2_with fail
    go_ret
    exact ⟨ret_int K.out.symm, _, rfl⟩
theorem quietDrew {P : Program} {f : FuncId} {args : Array Value} {w : World} {n : Nat} {v : Value}
  (h : Calls P f args (w.drewN n) fun e w' => e = .returned v /\ ∃ m, w' = (w.drewN n).drewN m) : Calls P f args (w.drewN n) fun e w'' => e = .returned v /\ ∃ m, w'' = w.drewN m :=
 h.mono fun _ _ ⟨he, m, hm⟩ => ⟨he, n + m, by rw [hm, World.drewN_drewN]⟩
set_option maxHeartbeats 2000000 in
theorem kindOf (k : Int) (a1 a2 a3 : Option Addr) (c1 c2 c3 : Nat) (b o t : List ByteArray) (w : World) (h1 : SS w a1 b) (h2 : SS w a2 o) (h3 : SS w a3 t) (n1 : b.length <= 1048576) (n2 : o.length <= 1048576) (n3 : t.length <= 1048576) :
  Calls Tryz.prog 183 #[.agg #[.int .i64 k, .slice a1 b.length c1, .slice a2 o.length c2, .slice a3 t.length c3]] w fun e w' => e = .returned (.int .i64 (kd b o t)) /\ Below w.heap.size w w' := by
 have H1 := fun W p q => Same.implSameLines a1 a2 c1 c2 b o W p q n1 n2
 have H2 := fun W p q => Same.implSameLines a1 a3 c1 c3 b t W p q n1 n3
 have H3 := fun W p q => Same.implSameLines a2 a3 c2 c3 o t W p q n2 n3
 obtain ⟨W, hW⟩ : ∃ W, w.alloc (.cells #[.int .i64 k, .slice a1 b.length c1, .slice a2 o.length c2, .slice a3 t.length c3] 162) = W := ⟨_, rfl⟩
 have hR : Rs W w.heap.size [.int .i64 k, .slice a1 b.length c1, .slice a2 o.length c2, .slice a3 t.length c3] := by rw [<- hW]; exact Rs.new _ _ _
 have bW : Below w.heap.size w W := by rw [<- hW]; exact allocBelow _ _
 have r1 := hR 1 _ rfl
 have r2 := hR 2 _ rfl
 have r3 := hR 3 _ rfl
 replace h1 := h1.below bW
 replace h2 := h2.below bW
 replace h3 := h3.below bW
 clear hR
 cases e1 : eqB b o with
 | true =>
  cases e2 : eqB b t with
  | true =>
   have K : Hid (kd b o t = 0) := kd_same e1 e2
   rw [e1] at H1; rw [e2] at H2
   clear e1 e2 H3
   go_enter Tryz.func183, Tryz.ntmps183
   go_wp2_with fail
   refine (H1 _ h1 h2).mono ?_; rintro e w1 ⟨rfl, m1, rfl⟩
   go_wp2_with fail
   refine (H2 _ (h1.drewN _) (h3.drewN _)).mono ?_; rintro e w2 ⟨rfl, m2, rfl⟩
   go_wp2_with fail
   go_ret
   exact ⟨ret_int K.out.symm, drewB bW _⟩
  | false =>
   have K : Hid (kd b o t = 2) := kd_theirs e1 e2
   rw [e1] at H1; rw [e2] at H2
   clear e1 e2 H3
   go_enter Tryz.func183, Tryz.ntmps183
   go_wp2_with fail
   refine (H1 _ h1 h2).mono ?_; rintro e w1 ⟨rfl, m1, rfl⟩
   go_wp2_with fail
   refine (H2 _ (h1.drewN _) (h3.drewN _)).mono ?_; rintro e w2 ⟨rfl, m2, rfl⟩
   go_wp2_with fail
   go_ret
   exact ⟨ret_int K.out.symm, drewB bW _⟩
 | false =>
  cases e2 : eqB b t with
  | true =>
   have K : Hid (kd b o t = 1) := kd_ours e1 e2
   rw [e1] at H1; rw [e2] at H2
   clear e1 e2 H3
   go_enter Tryz.func183, Tryz.ntmps183
   go_wp2_with fail
   refine (H1 _ h1 h2).mono ?_; rintro e w1 ⟨rfl, m1, rfl⟩
   go_wp2_with fail
   refine (H2 _ (h1.drewN _) (h3.drewN _)).mono ?_; rintro e w2 ⟨rfl, m2, rfl⟩
   go_wp2_with fail
   go_ret
   exact ⟨ret_int K.out.symm, drewB bW _⟩
  | false =>
   cases e3 : eqB o t with
   | true =>
    have K : Hid (kd b o t = 3) := kd_both e1 e2 e3
    rw [e1] at H1; rw [e2] at H2; rw [e3] at H3
    clear e1 e2 e3
    go_enter Tryz.func183, Tryz.ntmps183
    go_wp2_with fail
    refine (H1 _ h1 h2).mono ?_; rintro e w1 ⟨rfl, m1, rfl⟩
    go_wp2_with fail
    refine (H2 _ (h1.drewN _) (h3.drewN _)).mono ?_; rintro e w2 ⟨rfl, m2, rfl⟩
    go_wp2_with fail
    refine (H3 _ (h2.drewN _) (h3.drewN _)).mono ?_; rintro e w3 ⟨rfl, m3, rfl⟩
    go_wp2_with fail
    go_ret
    exact ⟨ret_int K.out.symm, drewB bW _⟩
   | false =>
    have K : Hid (kd b o t = 4) := kd_clash e1 e2 e3
    rw [e1] at H1; rw [e2] at H2; rw [e3] at H3
    clear e1 e2 e3
    go_enter Tryz.func183, Tryz.ntmps183
    go_wp2_with fail
    refine (H1 _ h1 h2).mono ?_; rintro e w1 ⟨rfl, m1, rfl⟩
    go_wp2_with fail
    refine (H2 _ (h1.drewN _) (h3.drewN _)).mono ?_; rintro e w2 ⟨rfl, m2, rfl⟩
    go_wp2_with fail
    refine (H3 _ (h2.drewN _) (h3.drewN _)).mono ?_; rintro e w3 ⟨rfl, m3, rfl⟩
    go_wp2_with fail
    go_ret
    exact ⟨ret_int K.out.symm, drewB bW _⟩
set_option maxHeartbeats 1000000 in
theorem listsOf (k : Int) (a1 a2 a3 : Option Addr) (n1 n2 n3 c1 c2 c3 : Nat) (w : World) :
  Calls Tryz.prog 196 #[.agg #[.int .i64 k, .slice a1 n1 c1, .slice a2 n2 c2, .slice a3 n3 c3]] w fun e w' => e = .returned (.agg #[.slice a1 n1 c1, .slice a2 n2 c2, .slice a3 n3 c3]) /\ Below w.heap.size w w' := by
 have hN : ∀ o1 o2, Below w.heap.size w ((w.alloc o1).alloc o2) := fun o1 o2 => ((Below.refl _ _).alloc (Nat.le_refl _) _).alloc (by simp) _
 go_enter Tryz.func196, Tryz.ntmps196
 go_wp2
 refine bodyPost_ret (v := .agg #[.slice a1 n1 c1, .slice a2 n2 c2, .slice a3 n3 c3]) (by simp [results, Tryz.results196, go_sem]) rfl ?_
 exact ⟨rfl, hN _ _⟩
def lensTo (n1 n2 n3 k : Nat) : List Value := [.int .i64 (if 0 < k then n1 else 0), .int .i64 (if 1 < k then n2 else 0), .int .i64 (if 2 < k then n3 else 0)]
set_option maxRecDepth 20000 in
set_option maxHeartbeats 2000000 in
theorem endsC (a1 a2 a3 : Option Addr) (n1 n2 n3 c1 c2 c3 : Nat) (w : World) :
  Calls Tryz.prog 177 #[.agg #[.slice a1 n1 c1, .slice a2 n2 c2, .slice a3 n3 c3]] w fun e w' => e = .returned (.agg #[.int .i64 n1, .int .i64 n2, .int .i64 n3]) /\ Below w.heap.size w w' := by
 obtain ⟨W0, hW0⟩ : ∃ W, w.alloc (.cells #[.slice a1 n1 c1, .slice a2 n2 c2, .slice a3 n3 c3] 194) = W := ⟨_, rfl⟩
 have B0 : Below w.heap.size w W0 := by rw [<- hW0]; exact allocBelow _ _
 have f0 : Rf W0 w.heap.size [.slice a1 n1 c1, .slice a2 n2 c2, .slice a3 n3 c3] := by rw [<- hW0]; exact Rf.new _ _ _
 have z0 : W0.heap.size = w.heap.size + 1 := by rw [<- hW0]; simp
 obtain ⟨W1, hW1⟩ : ∃ W, W0.alloc (.cells #[.int .i64 0, .int .i64 0, .int .i64 0] 219) = W := ⟨_, rfl⟩
 have f1 : Rf W1 (w.heap.size + 1) [.int .i64 0, .int .i64 0, .int .i64 0] := by rw [<- hW1, <- z0]; exact Rf.new _ _ _
 have b1 : Below W0.heap.size W0 W1 := by rw [<- hW1]; exact allocBelow _ _
 have z1 : W1.heap.size = w.heap.size + 1 + 1 := by rw [<- hW1]; simp [z0]
 obtain ⟨W2, hW2⟩ : ∃ W, W1.alloc (.cells #[.int .i64 0, .int .i64 0, .int .i64 0] 219) = W := ⟨_, rfl⟩
 have f2 : Rf W2 (w.heap.size + 1 + 1) [.int .i64 0, .int .i64 0, .int .i64 0] := by rw [<- hW2, <- z1]; exact Rf.new _ _ _
 have b2 : Below W1.heap.size W1 W2 := by rw [<- hW2]; exact allocBelow _ _
 have z2 : W2.heap.size = w.heap.size + 1 + 1 + 1 := by rw [<- hW2]; simp [z1]
 replace f1 := f1.below (by omega) b2
 replace f0 := (f0.below (by omega) b1).below (by omega) b2
 have B2 : Below w.heap.size w W2 := (B0.trans (b1.mono (by omega))).trans (b2.mono (by omega))
 have p0 := f0.at_ 0 _ rfl
 have p1 := f0.at_ 1 _ rfl
 have p2 := f0.at_ 2 _ rfl
 clear B0 b1 b2 f0
 have i0 : ∀ w, (Instr.index 194 (.agg #[.slice a1 n1 c1, .slice a2 n2 c2, .slice a3 n3 c3]) (.int .i64 0)).run Tryz.prog w = .ok (.slice a1 n1 c1) w := fun _ => by kernel_rfl
 have i1 : ∀ w, (Instr.index 194 (.agg #[.slice a1 n1 c1, .slice a2 n2 c2, .slice a3 n3 c3]) (.int .i64 1)).run Tryz.prog w = .ok (.slice a2 n2 c2) w := fun _ => by kernel_rfl
 have i2 : ∀ w, (Instr.index 194 (.agg #[.slice a1 n1 c1, .slice a2 n2 c2, .slice a3 n3 c3]) (.int .i64 2)).run Tryz.prog w = .ok (.slice a3 n3 c3) w := fun _ => by kernel_rfl
 go_enter Tryz.func177, Tryz.ntmps177
 go_wp2
 go_loopw [7] (fun i wr => ∃ k : Nat, k <= 3 /\ i = .int .i64 k /\ Rf wr (w.heap.size + 1 + 1) (lensTo n1 n2 n3 k) /\ Rf wr (w.heap.size + 1) [.int .i64 0, .int .i64 0, .int .i64 0] /\ Below w.heap.size w wr) (fun i _ => 3 - (intOf i).toNat)
 case atStart => exact ⟨0, by omega, rfl, f2, f1, B2⟩
 case round =>
  clear f1 f2 p0 p1 p2 B2
  obtain ⟨k, hk, rfl, hf, hg, hb⟩ := hrel
  have g0 := hf.fz 0
  have g1 := hf.fz 1
  have g2 := hf.fz 2
  by_cases hlt : k < 3
  ·have hk3 : k = 0 \/ k = 1 \/ k = 2 := by omega
   rcases hk3 with rfl | rfl | rfl
   ·have d := hf.at_ 0 _ rfl
    have HF : Hid (Rf (wr.setCell ⟨w.heap.size + 1 + 1, 0, none⟩ (.int .i64 n1)) (w.heap.size + 1 + 1) (lensTo n1 n2 n3 1)) := hf.set (o := 0) (by simp [lensTo]) _
    have HG : Hid (Rf (wr.setCell ⟨w.heap.size + 1 + 1, 0, none⟩ (.int .i64 n1)) (w.heap.size + 1) [.int .i64 0, .int .i64 0, .int .i64 0]) := hg.other (by omega) _
    have HB : Hid (Below w.heap.size w (wr.setCell ⟨w.heap.size + 1 + 1, 0, none⟩ (.int .i64 n1))) := hb.setCell (p := ⟨w.heap.size + 1 + 1, 0, none⟩) (by show _ <= w.heap.size + 1 + 1; omega) _
    clear hf hg hb
    go_wp2
    go_roundw
    case rel => exact ⟨1, by omega, rfl, HF.out, HG.out, HB.out⟩
    case measure => simp [intOf]
   ·have d := hf.at_ 1 _ rfl
    have HF : Hid (Rf (wr.setCell ⟨w.heap.size + 1 + 1, 1, none⟩ (.int .i64 n2)) (w.heap.size + 1 + 1) (lensTo n1 n2 n3 2)) := hf.set (o := 1) (by simp [lensTo]) _
    have HG : Hid (Rf (wr.setCell ⟨w.heap.size + 1 + 1, 1, none⟩ (.int .i64 n2)) (w.heap.size + 1) [.int .i64 0, .int .i64 0, .int .i64 0]) := hg.other (by omega) _
    have HB : Hid (Below w.heap.size w (wr.setCell ⟨w.heap.size + 1 + 1, 1, none⟩ (.int .i64 n2))) := hb.setCell (p := ⟨w.heap.size + 1 + 1, 1, none⟩) (by show _ <= w.heap.size + 1 + 1; omega) _
    clear hf hg hb
    go_wp2
    go_roundw
    case rel => exact ⟨2, by omega, rfl, HF.out, HG.out, HB.out⟩
    case measure => simp [intOf]
   ·have d := hf.at_ 2 _ rfl
    have HF : Hid (Rf (wr.setCell ⟨w.heap.size + 1 + 1, 2, none⟩ (.int .i64 n3)) (w.heap.size + 1 + 1) (lensTo n1 n2 n3 3)) := hf.set (o := 2) (by simp [lensTo]) _
    have HG : Hid (Rf (wr.setCell ⟨w.heap.size + 1 + 1, 2, none⟩ (.int .i64 n3)) (w.heap.size + 1) [.int .i64 0, .int .i64 0, .int .i64 0]) := hg.other (by omega) _
    have HB : Hid (Below w.heap.size w (wr.setCell ⟨w.heap.size + 1 + 1, 2, none⟩ (.int .i64 n3))) := hb.setCell (p := ⟨w.heap.size + 1 + 1, 2, none⟩) (by show _ <= w.heap.size + 1 + 1; omega) _
    clear hf hg hb
    go_wp2
    go_roundw
    case rel => exact ⟨3, by omega, rfl, HF.out, HG.out, HB.out⟩
    case measure => simp [intOf]
  ·obtain rfl : k = 3 := by omega
   have d0 : wr.cell? ⟨w.heap.size + 1 + 1, 0, none⟩ = some (.int .i64 n1) := hf.at_ 0 _ rfl
   have d1 : wr.cell? ⟨w.heap.size + 1 + 1, 1, none⟩ = some (.int .i64 n2) := hf.at_ 1 _ rfl
   have d2 : wr.cell? ⟨w.heap.size + 1 + 1, 2, none⟩ = some (.int .i64 n3) := hf.at_ 2 _ rfl
   have e0 := hg.at_ 0 _ rfl
   have e1 := hg.at_ 1 _ rfl
   have e2 := hg.at_ 2 _ rfl
   have v0 := hg.fz 0
   have v1 := hg.fz 1
   have v2 := hg.fz 2
   have HB : Hid (Below w.heap.size w (((wr.setCell ⟨w.heap.size + 1, 0, none⟩ (.int .i64 n1)).setCell ⟨w.heap.size + 1, 1, none⟩ (.int .i64 n2)).setCell ⟨w.heap.size + 1, 2, none⟩ (.int .i64 n3))) :=
    ((hb.setCell (p := ⟨w.heap.size + 1, 0, none⟩) (by show _ <= w.heap.size + 1; omega) _).setCell (p := ⟨w.heap.size + 1, 1, none⟩) (by show _ <= w.heap.size + 1; omega) _).setCell (p := ⟨w.heap.size + 1, 2, none⟩) (by show _ <= w.heap.size + 1; omega) _
   clear hf hg hb
   go_wp2
   refine bodyPost_ret (v := .agg #[.int .i64 n1, .int .i64 n2, .int .i64 n3]) (by simp [results, Tryz.results177, go_sem, e0, e1, e2]) rfl ?_
   exact ⟨rfl, HB.out⟩
theorem eqPlaces (x y z : Int) (w : World) : (Op.equalIn 10000 219 (.agg #[.int .i64 x, .int .i64 y, .int .i64 z]) (.agg #[.int .i64 0, .int .i64 0, .int .i64 0])).run Tryz.prog w = .ok (x == 0 && (y == 0 && z == 0)) w := by
 obtain ⟨i, hi, _⟩ := info_parts (show (Tryz.prog.info? 2).map (fun i => (i.zero, i.size, i.bytes)) = some (some (.int .i64 0), 1, 8) by kernel_rfl)
 have p : Tryz.prog.plainKey 2 = true := by kernel_rfl
 have c1 : Tryz.prog.cellsOf 2 = 1 := by kernel_rfl
 have E : ∀ (a b : Int), (Op.equalIn 9999 2 (.int .i64 a) (.int .i64 b)).run Tryz.prog w = .ok (a == b) w := fun a b => run_equalIn_int w 9998 _ _ _ a b Tryz.underlying2
 have P0 : ∀ (a b c : Int), (part 2 #[.int .i64 a, .int .i64 b, .int .i64 c] 0).run Tryz.prog w = .ok (.int .i64 a) w := fun a b c => run_part_plain w p rfl
 have P1 : ∀ (a b c : Int), (part 2 #[.int .i64 a, .int .i64 b, .int .i64 c] 1).run Tryz.prog w = .ok (.int .i64 b) w := fun a b c => run_part_plain w p rfl
 have P2 : ∀ (a b c : Int), (part 2 #[.int .i64 a, .int .i64 b, .int .i64 c] 2).run Tryz.prog w = .ok (.int .i64 c) w := fun a b c => run_part_plain w p rfl
 rw [show (10000 : Nat) = 9999 + 1 from rfl, run_equalIn_array w 9999 _ _ Tryz.underlying219 hi, c1, show List.range 3 = [0, 1, 2] from rfl]
 by_cases h0 : x = 0
 ·by_cases h1 : y = 0
  ·by_cases h2 : z = 0
   ·simp [Op.eqItems, P0, P1, P2, h0, h1, h2, E]
   ·simp [Op.eqItems, P0, P1, P2, h0, h1, h2, E]
  ·simp [Op.eqItems, P0, P1, h0, h1, E]
 ·simp [Op.eqItems, P0, h0, E]
set_option maxRecDepth 20000 in
set_option maxHeartbeats 1000000 in
theorem isBare (k : Int) (a1 a2 a3 : Option Addr) (c1 c2 c3 : Nat) (b o t : List ByteArray) (w : World) :
  Calls Tryz.prog 191 #[.agg #[.int .i64 k, .slice a1 b.length c1, .slice a2 o.length c2, .slice a3 t.length c3]] w fun e w' => e = .returned (.bool (bare (k, b, o, t))) /\ Below w.heap.size w w' := by
 have bW := allocBelow w (.cells #[.int .i64 k, .slice a1 b.length c1, .slice a2 o.length c2, .slice a3 t.length c3] 162)
 go_enter Tryz.func191, Tryz.ntmps191
 go_wp2_with fail
 refine (listsOf _ _ _ _ _ _ _ _ _ _ _).mono ?_; rintro e w1 ⟨rfl, b1⟩
 have B1 := below_step bW (by simp) b1
 go_wp2_with fail
 refine (endsC _ _ _ _ _ _ _ _ _ _).mono ?_; rintro e w2 ⟨rfl, b2⟩
 have B2 := below_step B1 B1.size b2
 obtain ⟨x, hx⟩ : ∃ x : Int, ((b.length : Nat) : Int) = x := ⟨_, rfl⟩
 obtain ⟨y, hy⟩ : ∃ x : Int, ((o.length : Nat) : Int) = x := ⟨_, rfl⟩
 obtain ⟨z, hz⟩ : ∃ x : Int, ((t.length : Nat) : Int) = x := ⟨_, rfl⟩
 rw [hx, hy, hz]
 have E := eqPlaces x y z
 have G : ∀ w, (eqGuard .eql 219 (.tmp 5) (.tmp 6) (.agg #[.int .i64 x, .int .i64 y, .int .i64 z]) (.agg #[.int .i64 0, .int .i64 0, .int .i64 0])).run Tryz.prog w = .ok () w := fun w => run_eqGuard_agg w _ _ _ _ _ _ Tryz.eqGuardType219
 have K : Hid (bare (k, b, o, t) = (x == 0 && (y == 0 && z == 0))) := by
  show _ = _
  unfold bare
  have e1 : (x == 0) = decide (b.length = 0) := by rw [<- hx, Bool.eq_iff_iff]; simp
  have e2 : (y == 0) = decide (o.length = 0) := by rw [<- hy, Bool.eq_iff_iff]; simp
  have e3 : (z == 0) = decide (t.length = 0) := by rw [<- hz, Bool.eq_iff_iff]; simp
  rw [e1, e2, e3]
  simp only [Bool.decide_and]
 clear hx hy hz b1 b2 B1 bW
 go_wp2
 go_ret
 exact ⟨ret_bool K.out.symm, B2⟩
end Go.Proofs.YtcfnkndbhpdfnaaGreatDoor
namespace Go.Proofs.YtcfnkndbhpdfnaaGreatDoor
open Go.ChangeShapes Go.WideShapes Go.ChangeAt Go.RowKit
theorem wpList_appN {w : World} {ops : Array Oper} {rest : List Oper} {o : Oper} {a : Act} {Q : Exit -> Act -> World -> Prop} (hgd : o.guard = none) (s x : Operand)
  (ho : o.op = .call { callee := .builtin .append, args := #[s, x], argTypes := #[105, 105] })
  (base B : Nat) (v : Value) (S0 : List ByteArray) (hs : a.eval s = v) (hown : w.ownsRow base 9 1 v S0.length (S0.map Value.string))
  (ax : Option Addr) (cx : Nat) (S1 : List ByteArray) (hx : a.eval x = .slice ax S1.length cx) (hx2 : SSN B w ax cx S1)
  (hb : S0.length + S1.length <= 1048576) (hbase : base <= w.heap.size)
  (h : ∀ v' w', w'.ownsRow base 9 1 v' (S0 ++ S1).length ((S0 ++ S1).map Value.string) -> w.grownBy w' v.ownBlock -> (v'.ownBlock = v.ownBlock \/ v'.ownBlock = some w.heap.size) -> wpList Tryz.prog ops Q rest (a.put o.dst v') w') :
  wpList Tryz.prog ops Q (o :: rest) a w := by
 obtain ⟨i0, hi, hz0, hz1, hz2⟩ := info_parts infoString
 cases ax with
 | none =>
  have e3 : S1 = [] := by
   cases S1 with
   | nil => rfl
   | cons z zs => obtain ⟨b, off, e, _⟩ := hx2.1.2 0 (by simp); cases e
  subst e3
  have ec := hx2.2 rfl
  subst ec
  refine wpList_append_own_none hgd s x _ ho base _ i0 1 Tryz.underlying105 hi v _ _ hs hown hx ?_
  exact h v w (by simpa using hown) (World.grownBy.refl _ _) (.inl rfl)
 | some AD =>
  refine wpList_append_own_at _ hgd s x _ ho base _ i0 (.string ByteArray.empty) 1 16 Tryz.underlying105 hi hz0 hz1 hz2 rfl (by decide) v _ _ hs hown AD S1.length cx (S1.map Value.string) hx (by simp) (newsOf hx2.1) (oneStr _) (by unfold maxLen; omega) (by omega) hbase ?_
  intro v' w' o1 g1 _ k1
  refine h v' w' ?_ g1 k1
  rw [List.length_append, List.map_append]; exact o1
def RP (L : List ByteArray) (w : World) (e : Ending) (w' : World) : Prop := ∃ v, e = .returned v /\ w'.ownsRow w.heap.size 9 1 v L.length (L.map Value.string) /\ Below w.heap.size w w'
end Go.Proofs.YtcfnkndbhpdfnaaGreatDoor
namespace Go.Proofs.YtcfnkndbhpdfnaaGreatDoor
open Go.ChangeShapes Go.WideShapes Go.ChangeAt Go.RowKit
theorem Fr.zcell {w w' : World} {b o : Nat} {v : Value} (h : Below w.heap.size w w') (hc : w.cell? ⟨b, o, none⟩ = some v) : w'.cell? ⟨b, o, none⟩ = some v := (Fr.ofBelow (lo := 0) (hi := 0) h).cell hc (.inr (Nat.zero_le _))
end Go.Proofs.YtcfnkndbhpdfnaaGreatDoor
namespace Go.Proofs.YtcfnkndbhpdfnaaGreatDoor
open Go.ChangeShapes Go.WideShapes Go.ChangeAt Go.RowKit
theorem bare_sum (x0 : Int) (x1 x2 x3 : List ByteArray) : bare (x0, x1, x2, x3) = ((x1.length : Int) + (x2.length : Int) + (x3.length : Int) == 0) := by
 unfold bare
 by_cases h : x1.length = 0 /\ x2.length = 0 /\ x3.length = 0
 ·have e : (x1.length : Int) + (x2.length : Int) + (x3.length : Int) = 0 := by omega
  rw [e]; exact decide_eq_true h
 ·have e : ¬ (x1.length : Int) + (x2.length : Int) + (x3.length : Int) = 0 := by omega
  rw [show ((x1.length : Int) + (x2.length : Int) + (x3.length : Int) == 0) = false from beq_eq_false_iff_ne.2 e]; exact decide_eq_false h
end Go.Proofs.YtcfnkndbhpdfnaaGreatDoor
namespace Go.Proofs.YtcfnkndbhpdfnaaGreatDoor
open Go.ChangeShapes Go.WideShapes Go.ChangeAt Go.RowKit
def cc1 (c : Ck) : Int := if c.1 = 4 then 1 else 0
def cc (l : List Ck) : Int := (l.map cc1).sum
theorem cc_take (l : List Ck) (k : Nat) (h : k < l.length) : cc (l.take (k + 1)) = cc (l.take k) + cc1 (l.getD k cnil) := by
 unfold cc
 rw [List.take_succ_eq_append_getElem h, List.map_append, List.sum_append]
 simp [List.getD, h]
theorem cc_bd (l : List Ck) : 0 <= cc l /\ cc l <= l.length := by
 unfold cc
 induction l with
 | nil => simp
 | cons c t ih =>
  have : 0 <= cc1 c /\ cc1 c <= 1 := by unfold cc1; split <;> omega
  simp only [List.map_cons, List.sum_cons, List.length_cons]
  omega
set_option maxRecDepth 20000 in
set_option maxHeartbeats 2000000 in
theorem clashCount (a : Option Addr) (c : Nat) (l : List Ck) (w : World) (h : KB w.heap.size w a l) (hn : l.length <= 1048576) :
  Calls Tryz.prog 135 #[.slice a l.length c] w fun e w' => e = .returned (.int .i64 (cc l)) /\ Below w.heap.size w w' := by
 go_enter Tryz.func135, Tryz.ntmps135
 go_wp2
 go_loopw [3, 8] (fun t i wr => ∃ k : Nat, k <= l.length /\ i = .int .i64 k /\ t = .int .i64 (cc (l.take k)) /\ Below w.heap.size w wr) (fun _ i _ => l.length - (intOf i).toNat)
 case atStart => exact ⟨0, Nat.zero_le _, rfl, rfl, Below.refl _ _⟩
 case round =>
  obtain ⟨k, hk, rfl, rfl, hbel⟩ := hrel
  have hsz := hbel.size
  have hb := cc_bd (l.take k)
  have hb2 : ((l.take k).length : Int) <= 1048576 := by rw [List.length_take]; omega
  obtain ⟨hb0, hb1⟩ := hb
  by_cases hlt : k < l.length
  ·have q : (k : Int) < (l.length : Int) := by omega
   obtain ⟨g, off, a1, c1, a2, c2, a3, c3, e, hg, d0, d1, d2, d3, s1, s2, s3⟩ := h.below hbel k hlt
   subst e
   have hT := cc_take l k hlt
   obtain ⟨C, hCe⟩ : ∃ C, l.getD k cnil = C := ⟨_, rfl⟩
   obtain ⟨x0, x1, x2, x3⟩ := C
   rw [hCe] at d0 d1 d2 d3 hT
   simp only [] at d0 d1 d2 d3
   obtain ⟨N, hN⟩ : ∃ N, cc (l.take k) = N := ⟨_, rfl⟩
   rw [hN] at hT hb0 hb1 ⊢
   have HB := below_step hbel hsz (allocBelow wr (.cells #[.int .i64 x0, .slice a1 x1.length c1, .slice a2 x2.length c2, .slice a3 x3.length c3] 162))
   by_cases e4 : x0 = 4
   ·have HT : Hid (cc (l.take (k + 1)) = N + 1) := by show _ = _; rw [hT]; unfold cc1; rw [if_pos e4]
    have q4 : (x0 == 4) = true := by simp [e4]
    clear hT hCe s1 s2 s3 hN e4
    go_wp2
    go_roundw
    case rel => exact ⟨k + 1, by omega, by go_num, by rw [HT.out], HB⟩
    case measure => first | (simp [intOf]; omega) | simp [intOf]
   ·have HT : Hid (cc (l.take (k + 1)) = N) := by show _ = _; rw [hT]; unfold cc1; rw [if_neg e4, Int.add_zero]
    have q4 : (x0 == 4) = false := by simp [e4]
    clear hT hCe s1 s2 s3 hN e4
    go_wp2
    go_roundw
    case rel => exact ⟨k + 1, by omega, by go_num, by rw [HT.out], HB⟩
    case measure => first | (simp [intOf]; omega) | simp [intOf]
  ·have q : ¬ (k : Int) < (l.length : Int) := by omega
   have HT : Hid (cc l = cc (l.take k)) := by show _ = _; rw [List.take_of_length_le (by omega)]
   clear hb0 hb1 hb2
   go_wp2
   go_ret
   exact ⟨ret_int HT.out.symm, hbel⟩
end Go.Proofs.YtcfnkndbhpdfnaaGreatDoor
