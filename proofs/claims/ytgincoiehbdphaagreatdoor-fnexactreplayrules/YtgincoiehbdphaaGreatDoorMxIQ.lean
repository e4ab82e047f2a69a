/- The contracts of takenLines and of mergedText. No statement is proved here. -/
import Derived.Test.YtgincoiehbdphaaGreatDoorCtTQ
import Derived.Test.YtgincoiehbdphaaGreatDoorKpJQ
namespace Go.Proofs.YtgincoiehbdphaaGreatDoor
open Go.ChangeShapes Go.WideShapes Go.ChangeAt Go.RowKit
set_option maxHeartbeats 1000000 in
theorem takenLines (x0 : Int) (a1 a2 a3 : Option Addr) (n1 n2 n3 c1 c2 c3 : Nat) (w : World) :
  Calls Tryz.prog 193 #[.agg #[.int .i64 x0, .slice a1 n1 c1, .slice a2 n2 c2, .slice a3 n3 c3]] w fun e w' => e = .returned (if x0 = 2 then .slice a3 n3 c3 else .slice a2 n2 c2) /\ Below w.heap.size w w' := by
 have bW := allocBelow w (.cells #[.int .i64 x0, .slice a1 n1 c1, .slice a2 n2 c2, .slice a3 n3 c3] 207)
 by_cases e : x0 = 2
 ·subst e
  go_enter Tryz.func193, Tryz.ntmps193
  go_wp2
  go_ret
  exact ⟨rfl, bW⟩
 ·have q : (x0 == 2) = false := by simp [e]
  have HE : Hid ((if x0 = 2 then Value.slice a3 n3 c3 else .slice a2 n2 c2) = .slice a2 n2 c2) := if_neg e
  go_enter Tryz.func193, Tryz.ntmps193
  go_wp2
  go_ret
  first | exact ⟨rfl, bW⟩ | exact ⟨ret_val HE.out.symm, bW⟩
structure Mx (l : List Ck) : Prop where
 each : ∀ c ∈ l, c.2.1.length <= 1048576 /\ c.2.2.1.length <= 1048576 /\ c.2.2.2.length <= 1048576 /\ tot c.2.1 <= 1048576 /\ tot c.2.2.1 <= 1048576 /\ tot c.2.2.2 <= 1048576 /\ (c.1 = 4 -> ctOK c.1 c.2.1 c.2.2.1 c.2.2.2 = true)
 whole : tot (ptsA l) + (ptsA l).length <= 100000000
end Go.Proofs.YtgincoiehbdphaaGreatDoor
namespace Go.Proofs.YtgincoiehbdphaaGreatDoor
open Go.ChangeShapes Go.WideShapes Go.ChangeAt Go.RowKit
theorem okLine_any {l : List UInt8} {b : Bool} (h : okLine l b = true) : okLine l true = true := by
 unfold okLine at h ⊢
 split at h
 ·exact absurd h (by decide)
 ·rename_i h1
  rw [if_neg h1]
  split at h
  ·rename_i h2; rw [if_pos h2]
  ·rename_i h2; rw [if_neg h2]; exact h
theorem lf_wh {ss : List ByteArray} (h : lf ss = 0) : wh ss = true := by
 have h1 : ¬ (100 < (ss.length : Int) \/ 2000 < tot ss) := fun e => by rw [lf_many e] at h; exact absurd h (by decide)
 unfold wh
 rw [List.all_eq_true]
 intro s hs
 obtain ⟨k, hk, rfl⟩ := List.getElem_of_mem hs
 cases e : okAt ss k with
 | false => rw [lf_form h1 hk e] at h; exact absurd h (by decide)
 | true =>
  unfold okAt at e
  rw [List.getD, List.getElem?_eq_getElem hk] at e
  exact okLine_any e
theorem wh_sub {xs ys : List ByteArray} (h : wh xs = true) (hs : ∀ s ∈ ys, s ∈ xs) : wh ys = true := by
 unfold wh at h ⊢
 rw [List.all_eq_true] at h ⊢
 exact fun s m => h s (hs s m)
theorem tot_sg (xs : List ByteArray) (i j : Nat) : tot (sgK xs i j) <= tot xs := by
 unfold sgK
 have h1 := tot_split xs i
 have h2 := tot_split (xs.drop i) (j - i)
 have h3 := tot_nonneg (xs.take i)
 have h4 := tot_nonneg ((xs.drop i).drop (j - i))
 omega
theorem ckT_parts {x1 x2 x3 : List ByteArray} {c : Ck} (h : c ∈ ckT x1 x2 x3) : c.1 = kd c.2.1 c.2.2.1 c.2.2.2 /\ tot c.2.1 <= tot x1 /\ tot c.2.2.1 <= tot x2 /\ tot c.2.2.2 <= tot x3 := by
 unfold ckT at h
 obtain ⟨s, _, hc⟩ := List.mem_flatMap.1 h
 unfold ptK putK at hc
 split at hc
 ·cases hc
 ·rw [List.mem_singleton] at hc
  subst hc
  exact ⟨rfl, tot_sg .., tot_sg .., tot_sg ..⟩
theorem clash_size (b o t : List ByteArray) : ((clashB b o t).size : Int) <= tot b + tot o + tot t + b.length + o.length + t.length + 32 := by
 have h1 : (clashB b o t).size = (clashL b o t).length := by simp [clashB, ByteArray.size]
 have h3 := endAll_le b
 have h5 := endAll_le o
 have h6 := endAll_le t
 have q1 : h1L.length = 8 := rfl
 have q2 : h2L.length = 8 := rfl
 have q3 : h3L.length = 8 := rfl
 have q4 : h4L.length = 8 := rfl
 rw [h1]
 unfold clashL
 simp only [List.length_append]
 omega
theorem pts_bd {c : Ck} (h1 : c.2.1.length <= 100) (h2 : c.2.2.1.length <= 100) (h3 : c.2.2.2.length <= 100) (t1 : tot c.2.1 <= 2000) (t2 : tot c.2.2.1 <= 2000) (t3 : tot c.2.2.2 <= 2000) : tot (pts c) <= 7000 /\ (pts c).length <= 100 := by
 unfold pts
 split
 ·have := clash_size c.2.1 c.2.2.1 c.2.2.2
  refine ⟨?_, by simp⟩
  have e : tot [clashB c.2.1 c.2.2.1 c.2.2.2] = ((clashB c.2.1 c.2.2.1 c.2.2.2).size : Int) := by simp [tot]
  rw [e]
  omega
 ·split
  ·exact ⟨by omega, h3⟩
  ·exact ⟨by omega, h2⟩
theorem ptsA_bd : ∀ (l : List Ck), (∀ c ∈ l, tot (pts c) <= 7000 /\ (pts c).length <= 100) -> tot (ptsA l) <= 7000 * l.length /\ (ptsA l).length <= 100 * l.length := by
 intro l
 induction l with
 | nil => intro _; exact ⟨Int.le_refl _, Nat.le_refl _⟩
 | cons c l ih =>
  intro h
  have h1 := h c (List.mem_cons_self ..)
  have h2 := ih (fun d hd => h d (List.mem_cons_of_mem _ hd))
  have e : ptsA (c :: l) = pts c ++ ptsA l := List.flatMap_cons ..
  rw [e, tot_app, List.length_append, List.length_cons]
  constructor
  ·push_cast; omega
  ·omega
structure MxOK (x1 x2 x3 : List ByteArray) : Prop where
 mx : Mx (ckT x1 x2 x3)
 few : (ptsA (ckT x1 x2 x3)).length <= 1000000
 full : ∀ s ∈ ptsA (ckT x1 x2 x3), s.data.toList ≠ []
 short : (ckT x1 x2 x3).length <= 201
theorem mxOK {x1 x2 x3 : List ByteArray} (l1 : lf x1 = 0) (l2 : lf x2 = 0) (l3 : lf x3 = 0) : MxOK x1 x2 x3 := by
 have b1 := lf_bd l1
 have b2 := lf_bd l2
 have b3 := lf_bd l3
 have w1 := lf_wh l1
 have w2 := lf_wh l2
 have w3 := lf_wh l3
 have hlen : (ckT x1 x2 x3).length <= 201 := by have := ckT_len x1 x2 x3; omega
 have hA := ptsA_bd (ckT x1 x2 x3) (fun c hc => by
  have m := ckT_mem hc
  have p := ckT_parts hc
  exact pts_bd (by omega) (by omega) (by omega) (by omega) (by omega) (by omega))
 refine ⟨⟨fun c hc => ?_, by omega⟩, by omega, fun s hs => ?_, hlen⟩
 ·have m := ckT_mem hc
  have p := ckT_parts hc
  refine ⟨by omega, by omega, by omega, by omega, by omega, by omega, fun h4 => ?_⟩
  unfold ctOK
  rw [wh_sub w1 m.1, wh_sub w2 m.2.1, wh_sub w3 m.2.2.1, decide_eq_true h4, decide_eq_true (p.1.symm.trans h4)]
  rfl
 ·unfold ptsA at hs
  obtain ⟨c, hc, hm⟩ := List.mem_flatMap.1 hs
  have m := ckT_mem hc
  unfold pts at hm
  split at hm
  ·rw [List.mem_singleton] at hm
   subst hm
   unfold clashB clashL h1L
   simp
  ·split at hm
   ·exact wh_pos w3 s (m.2.2.1 s hm)
   ·exact wh_pos w2 s (m.2.1 s hm)
def mgB (x1 x2 x3 : List ByteArray) : ByteArray := ⟨(jnF (ptsA (ckT x1 x2 x3))).toArray⟩
end Go.Proofs.YtgincoiehbdphaaGreatDoor
namespace Go.Proofs.YtgincoiehbdphaaGreatDoor
open Go.ChangeShapes Go.WideShapes Go.ChangeAt Go.RowKit
def tx3 (a b c : ByteArray) : Int := if tf a = 0 then (if tf b = 0 then tf c else tf b) else tf a
theorem tx3_zero {a b c : ByteArray} (h : tx3 a b c = 0) : tf a = 0 /\ tf b = 0 /\ tf c = 0 := by
 unfold tx3 at h
 by_cases e1 : tf a = 0
 ·rw [if_pos e1] at h
  by_cases e2 : tf b = 0
  ·rw [if_pos e2] at h; exact ⟨e1, e2, h⟩
  ·rw [if_neg e2] at h; exact absurd h e2
 ·rw [if_neg e1] at h; exact absurd h e1
set_option maxHeartbeats 1000000 in
theorem l4Texts (a b c : ByteArray) (w : World) (ha : a.size <= 1048576) (hb : b.size <= 1048576) (hc : c.size <= 1048576) :
  Calls Tryz.prog 150 #[.string a, .string b, .string c] w fun e w' => e = .returned (.int .i64 (tx3 a b c)) /\ Below w.heap.size w w' := by
 have h1 := fun W => specTextFault a W ha
 have h2 := fun W => specTextFault b W hb
 have h3 := fun W => specTextFault c W hc
 have H1 : ¬ tf a = 0 -> Hid (tx3 a b c = tf a) := fun e => if_neg e
 have H2 : tf a = 0 -> ¬ tf b = 0 -> Hid (tx3 a b c = tf b) := fun e1 e => by show _ = _; unfold tx3; rw [if_pos e1, if_neg e]
 have H3 : tf a = 0 -> tf b = 0 -> Hid (tx3 a b c = tf c) := fun e1 e2 => by show _ = _; unfold tx3; rw [if_pos e1, if_pos e2]
 generalize tx3 a b c = R at H1 H2 H3 ⊢
 generalize tf a = q1 at h1 H1 H2 H3
 generalize tf b = q2 at h2 H2 H3
 generalize tf c = q3 at h3 H3
 go_enter Tryz.func150, Tryz.ntmps150
 go_wp2_with fail
 refine (h1 _).mono ?_; rintro e w1 ⟨rfl, b1⟩
 by_cases e1 : q1 = 0
 ·subst e1
  have H2' := H2 rfl
  have H3' := H3 rfl
  clear H1 H2 H3 h1
  go_wp2_with fail
  refine (h2 _).mono ?_; rintro e w2 ⟨rfl, b2⟩
  have B2 := b1.trans (b2.mono b1.size)
  by_cases e2 : q2 = 0
  ·subst e2
   have HR := H3' rfl
   clear H2' H3' h2 b2
   go_wp2_with fail
   refine (h3 _).mono ?_; rintro e w3 ⟨rfl, b3⟩
   have B3 := B2.trans (b3.mono B2.size)
   clear h3 b3
   go_wp2
   go_ret
   exact ⟨ret_int HR.out.symm, B3⟩
  ·have HR := H2' e2
   have q : (q2 != 0) = true := by simp [e2]
   clear H2' H3' h2 h3 b2 e2
   go_wp2
   go_ret
   exact ⟨ret_int HR.out.symm, B2⟩
 ·have HR := H1 e1
  have q : (q1 != 0) = true := by simp [e1]
  clear H1 H2 H3 h1 h2 h3 e1
  go_wp2
  go_ret
  exact ⟨ret_int HR.out.symm, b1⟩
def mtB (a b c : ByteArray) : ByteArray := mgB (linesOf a) (linesOf b) (linesOf c)
structure Tx (a b c : ByteArray) : Prop where
 ok : MxOK (linesOf a) (linesOf b) (linesOf c)
 n1 : (linesOf a).length <= 100
 n2 : (linesOf b).length <= 100
 n3 : (linesOf c).length <= 100
 y1 : ∀ x ∈ linesOf a, x.size <= 1048576
 y2 : ∀ x ∈ linesOf b, x.size <= 1048576
 y3 : ∀ x ∈ linesOf c, x.size <= 1048576
 sz : (mtB a b c).size <= 400000000
theorem Tx.of {a b c : ByteArray} (h : tx3 a b c = 0) : Tx a b c := by
 obtain ⟨z1, z2, z3⟩ := tx3_zero h
 have l1 := Rm.lf_lines z1
 have l2 := Rm.lf_lines z2
 have l3 := Rm.lf_lines z3
 have b1 := lf_bd l1
 have b2 := lf_bd l2
 have b3 := lf_bd l3
 have key : ∀ {ss : List ByteArray}, tot ss <= 2000 -> ∀ x ∈ ss, x.size <= 1048576 := fun {ss} ht x hx => by
  obtain ⟨k, hk, e⟩ := List.getElem_of_mem hx
  have h1 := tot_take ss k hk
  have h2 := tot_take_le ss (k + 1)
  have h3 := tot_nonneg (ss.take k)
  rw [getD_at _ k hk, e] at h1
  omega
 have ok := mxOK l1 l2 l3
 refine ⟨ok, b1.1, b2.1, b3.1, key b1.2, key b2.2, key b3.2, ?_⟩
 have h1 := jnK_len (ptsA (ckT (linesOf a) (linesOf b) (linesOf c))) (ptsA (ckT (linesOf a) (linesOf b) (linesOf c))).length
 rw [jnK_full] at h1
 have h2 := ok.mx.whole
 have h3 : (mtB a b c).size = (jnF (ptsA (ckT (linesOf a) (linesOf b) (linesOf c)))).length := by simp [mtB, mgB, ByteArray.size]
 omega
theorem Tx.z3 {a b c : ByteArray} (h : Tx a b c) {c1 c2 c3 : Nat} (k1 : (linesOf a).length <= c1) (k2 : (linesOf b).length <= c2) (k3 : (linesOf c).length <= c3) : Z3 c1 c2 c3 (linesOf a) (linesOf b) (linesOf c) :=
 ⟨k1, k2, k3, by have := h.n1; omega, by have := h.n2; omega, by have := h.n3; omega, h.y1, h.y2, h.y3⟩
theorem own_cap {w : World} {base : Nat} {e : TypeId} {s : Nat} {a : Option Addr} {n c : Nat} {xs : List Value} (h : w.ownsRow base e s (.slice a n c) n xs) : n <= c /\ (a = none -> c = 0) := by
 rcases h.2 with ⟨h', h0⟩ | ⟨g, cap, cur, h', _, _, hc, _⟩
 ·cases h'; exact ⟨Nat.le_refl _, fun _ => rfl⟩
 ·cases h'; exact ⟨hc, fun e => (by cases e)⟩
theorem ck_fits {x1 x2 x3 : List ByteArray} (y1 : ∀ x ∈ x1, x.size <= 1048576) (y2 : ∀ x ∈ x2, x.size <= 1048576) (y3 : ∀ x ∈ x3, x.size <= 1048576) : FitsK (ckT x1 x2 x3) := fun ss hs k hk => by
 obtain ⟨c, hc, hq⟩ := mem_of_lns hs
 have m := ckT_mem hc
 rw [getD_at _ k hk]
 rcases hq with rfl | rfl | rfl
 ·have := y1 _ (m.1 _ (List.getElem_mem hk)); omega
 ·have := y2 _ (m.2.1 _ (List.getElem_mem hk)); omega
 ·have := y3 _ (m.2.2.1 _ (List.getElem_mem hk)); omega
end Go.Proofs.YtgincoiehbdphaaGreatDoor
