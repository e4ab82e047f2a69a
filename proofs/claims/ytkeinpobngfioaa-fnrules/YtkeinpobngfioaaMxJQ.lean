/- The chunks of three right lists have a text that can be made (what mergedText and l4Merge ask). Plain mathematics. No statement is proved here. -/
import Derived.Test.YtkeinpobngfioaaRows
import Derived.Test.YtkeinpobngfioaaLemQ
import Derived.Test.YtkeinpobngfioaaLFLemQ
import Derived.Test.YtkeinpobngfioaaCkLQ
import Derived.Test.YtkeinpobngfioaaRtMQ
import Derived.Test.YtkeinpobngfioaaCtTQ
import Derived.Test.YtkeinpobngfioaaKpDQ
import Derived.Test.YtkeinpobngfioaaKpJQ
import Derived.Test.YtkeinpobngfioaaMxIQ
import Derived.WalkKit
import Derived.ProofKit
import Derived.Test.YtkeinpobngfioaaDTabQ
import Derived.Test.YtkeinpobngfioaaHkTQ
import Derived.Test.YtkeinpobngfioaaTFQ
import Derived.Test.YtkeinpobngfioaaSplQ
import Derived.Test.YtkeinpobngfioaaCkBQ
import Derived.Below
import Derived.WalkSpells
namespace Go.Proofs.Ytkeinpobngfioaa
open Go.ChangeShapes Go.WideShapes Go.ChangeAt Go.RowKit

theorem okLine_any {l : List UInt8} {b : Bool} (h : okLine l b = true) : okLine l true = true := by
  unfold okLine at h ⊢
  split at h
  · exact absurd h (by decide)
  · rename_i h1
    rw [if_neg h1]
    split at h
    · rename_i h2; rw [if_pos h2]
    · rename_i h2; rw [if_neg h2]; exact h
theorem lf_wh {ss : List ByteArray} (h : lf ss = 0) : wh ss = true := by
  have h1 : ¬ (100 < (ss.length : Int) ∨ 2000 < tot ss) := fun e => by rw [lf_many e] at h; exact absurd h (by decide)
  unfold wh
  rw [List.all_eq_true]
  intro s hs
  obtain ⟨k, hk, rfl⟩ := List.getElem_of_mem hs
  cases e : okAt ss k with
  | false => rw [lf_form h1 hk e] at h; exact absurd h (by decide)
  | true =>
    unfold okAt at e
    rw [List.getD, List.getElem?_eq_getElem hk] at e
    exact okLine_any e
theorem wh_sub {xs ys : List ByteArray} (h : wh xs = true) (hs : ∀ s ∈ ys, s ∈ xs) : wh ys = true := by
  unfold wh at h ⊢
  rw [List.all_eq_true] at h ⊢
  exact fun s m => h s (hs s m)
theorem tot_sg (xs : List ByteArray) (i j : Nat) : tot (sgK xs i j) ≤ tot xs := by
  unfold sgK
  have h1 := tot_split xs i
  have h2 := tot_split (xs.drop i) (j - i)
  have h3 := tot_nonneg (xs.take i)
  have h4 := tot_nonneg ((xs.drop i).drop (j - i))
  omega
/-- A chunk of the three, told by its pieces. -/
theorem ckT_parts {x1 x2 x3 : List ByteArray} {c : Ck} (h : c ∈ ckT x1 x2 x3) : c.1 = kd c.2.1 c.2.2.1 c.2.2.2 ∧ tot c.2.1 ≤ tot x1 ∧ tot c.2.2.1 ≤ tot x2 ∧ tot c.2.2.2 ≤ tot x3 := by
  unfold ckT at h
  obtain ⟨s, _, hc⟩ := List.mem_flatMap.1 h
  unfold ptK putK at hc
  split at hc
  · cases hc
  · rw [List.mem_singleton] at hc
    subst hc
    exact ⟨rfl, tot_sg .., tot_sg .., tot_sg ..⟩
theorem clash_size (b o t : List ByteArray) : ((clashB b o t).size : Int) ≤ tot b + tot o + tot t + b.length + o.length + t.length + 32 := by
  have h1 : (clashB b o t).size = (clashL b o t).length := by simp [clashB, ByteArray.size]
  have h3 := endAll_le b
  have h5 := endAll_le o
  have h6 := endAll_le t
  have q1 : h1L.length = 8 := rfl
  have q2 : h2L.length = 8 := rfl
  have q3 : h3L.length = 8 := rfl
  have q4 : h4L.length = 8 := rfl
  rw [h1]
  unfold clashL
  simp only [List.length_append]
  omega
theorem pts_bd {c : Ck} (h1 : c.2.1.length ≤ 100) (h2 : c.2.2.1.length ≤ 100) (h3 : c.2.2.2.length ≤ 100) (t1 : tot c.2.1 ≤ 2000) (t2 : tot c.2.2.1 ≤ 2000) (t3 : tot c.2.2.2 ≤ 2000) : tot (pts c) ≤ 7000 ∧ (pts c).length ≤ 100 := by
  unfold pts
  split
  · have := clash_size c.2.1 c.2.2.1 c.2.2.2
    refine ⟨?_, by simp⟩
    have e : tot [clashB c.2.1 c.2.2.1 c.2.2.2] = ((clashB c.2.1 c.2.2.1 c.2.2.2).size : Int) := by simp [tot]
    rw [e]
    omega
  · split
    · exact ⟨by omega, h3⟩
    · exact ⟨by omega, h2⟩
theorem ptsA_bd : ∀ (l : List Ck), (∀ c ∈ l, tot (pts c) ≤ 7000 ∧ (pts c).length ≤ 100) → tot (ptsA l) ≤ 7000 * l.length ∧ (ptsA l).length ≤ 100 * l.length := by
  intro l
  induction l with
  | nil => intro _; exact ⟨Int.le_refl _, Nat.le_refl _⟩
  | cons c l ih =>
    intro h
    have h1 := h c (List.mem_cons_self ..)
    have h2 := ih (fun d hd => h d (List.mem_cons_of_mem _ hd))
    have e : ptsA (c :: l) = pts c ++ ptsA l := List.flatMap_cons ..
    rw [e, tot_app, List.length_append, List.length_cons]
    constructor
    · push_cast; omega
    · omega
structure MxOK (x1 x2 x3 : List ByteArray) : Prop where
  mx : Mx (ckT x1 x2 x3)
  few : (ptsA (ckT x1 x2 x3)).length ≤ 1000000
  full : ∀ s ∈ ptsA (ckT x1 x2 x3), s.data.toList ≠ []
  short : (ckT x1 x2 x3).length ≤ 201
theorem mxOK {x1 x2 x3 : List ByteArray} (l1 : lf x1 = 0) (l2 : lf x2 = 0) (l3 : lf x3 = 0) : MxOK x1 x2 x3 := by
  have b1 := lf_bd l1
  have b2 := lf_bd l2
  have b3 := lf_bd l3
  have w1 := lf_wh l1
  have w2 := lf_wh l2
  have w3 := lf_wh l3
  have hlen : (ckT x1 x2 x3).length ≤ 201 := by have := ckT_len x1 x2 x3; omega
  have hA := ptsA_bd (ckT x1 x2 x3) (fun c hc => by
    have m := ckT_mem hc
    have p := ckT_parts hc
    exact pts_bd (by omega) (by omega) (by omega) (by omega) (by omega) (by omega))
  refine ⟨⟨fun c hc => ?_, by omega⟩, by omega, fun s hs => ?_, hlen⟩
  · have m := ckT_mem hc
    have p := ckT_parts hc
    refine ⟨by omega, by omega, by omega, by omega, by omega, by omega, fun h4 => ?_⟩
    unfold ctOK
    rw [wh_sub w1 m.1, wh_sub w2 m.2.1, wh_sub w3 m.2.2.1, decide_eq_true h4, decide_eq_true (p.1.symm.trans h4)]
    rfl
  · unfold ptsA at hs
    obtain ⟨c, hc, hm⟩ := List.mem_flatMap.1 hs
    have m := ckT_mem hc
    unfold pts at hm
    split at hm
    · rw [List.mem_singleton] at hm
      subst hm
      unfold clashB clashL h1L
      simp
    · split at hm
      · exact wh_pos w3 s (m.2.2.1 s hm)
      · exact wh_pos w2 s (m.2.1 s hm)
/-- The text of a merge, the same on both sides. -/
def mgB (x1 x2 x3 : List ByteArray) : ByteArray := ⟨(jnF (ptsA (ckT x1 x2 x3))).toArray⟩
theorem mg_put {x1 x2 x3 : List ByteArray} (h : MxOK x1 x2 x3) : (⟨(putP [] (ptsA (ckT x1 x2 x3))).toArray⟩ : ByteArray) = mgB x1 x2 x3 := by
  unfold mgB
  rw [putP_join _ h.full]
end Go.Proofs.Ytkeinpobngfioaa
/- The contracts of MergeTexts, of the specification. No statement is proved here. -/
namespace Go.Proofs.Ytkeinpobngfioaa
open Go.ChangeShapes Go.WideShapes Go.ChangeAt Go.RowKit

theorem implTFw (s : ByteArray) (w : World) (hs : s.size ≤ 400000000) :
    Calls Try.prog 17 #[.string s] w fun e w' => e = .returned (.int .i64 (tf s)) ∧ Below w.heap.size w w' := by
  by_cases hbig : 2000 < (s.size : Int)
  · have hT : Hid (tf s = 2) := tf_many (Or.inl hbig)
    go_enter Try.func17, Try.ntmps17
    go_wp2
    go_ret
    exact ⟨ret_int hT.out.symm, Below.refl _ _⟩
  · exact implTextFault s w (by omega)
theorem specTFw (s : ByteArray) (w : World) (hs : s.size ≤ 400000000) :
    Calls Try.prog 24 #[.string s] w fun e w' => e = .returned (.int .i64 (tf s)) ∧ Below w.heap.size w w' := by
  by_cases hbig : 2000 < (s.size : Int)
  · have hT : Hid (tf s = 2) := tf_many (Or.inl hbig)
    go_enter Try.func24, Try.ntmps24
    go_wp2_with fail
    go_ret
    exact ⟨ret_int hT.out.symm, Below.refl _ _⟩
  · exact specTextFault s w (by omega)
def tx3 (a b c : ByteArray) : Int := if tf a = 0 then (if tf b = 0 then tf c else tf b) else tf a
theorem tx3_zero {a b c : ByteArray} (h : tx3 a b c = 0) : tf a = 0 ∧ tf b = 0 ∧ tf c = 0 := by
  unfold tx3 at h
  by_cases e1 : tf a = 0
  · rw [if_pos e1] at h
    by_cases e2 : tf b = 0
    · rw [if_pos e2] at h; exact ⟨e1, e2, h⟩
    · rw [if_neg e2] at h; exact absurd h e2
  · rw [if_neg e1] at h; exact absurd h e1
/-- What MergeTexts tells. -/
def mtB (a b c : ByteArray) : ByteArray := mgB (linesOf a) (linesOf b) (linesOf c)
def mtR (a b c : ByteArray) : Int := if tx3 a b c = 0 then tf (mtB a b c) else tx3 a b c
def mtN (a b c : ByteArray) : Int := if mtR a b c = 0 then cc (ckT (linesOf a) (linesOf b) (linesOf c)) else 0
def mtT (a b c : ByteArray) : ByteArray := if mtR a b c = 0 then mtB a b c else ⟨#[]⟩
theorem ret_m3 {a b c d : Int} {s t : ByteArray} (h : a = b) (k : c = d) (e : s = t) : Ending.returned (.agg #[.int .i64 a, .int .i64 c, .string s]) = .returned (.agg #[.int .i64 b, .int .i64 d, .string t]) := by rw [h, k, e]
/-- What is known of three texts without a fault. -/
structure Tx (a b c : ByteArray) : Prop where
  ok : MxOK (linesOf a) (linesOf b) (linesOf c)
  n1 : (linesOf a).length ≤ 100
  n2 : (linesOf b).length ≤ 100
  n3 : (linesOf c).length ≤ 100
  y1 : ∀ x ∈ linesOf a, x.size ≤ 1048576
  y2 : ∀ x ∈ linesOf b, x.size ≤ 1048576
  y3 : ∀ x ∈ linesOf c, x.size ≤ 1048576
  sz : (mtB a b c).size ≤ 400000000
theorem Tx.of {a b c : ByteArray} (h : tx3 a b c = 0) : Tx a b c := by
  obtain ⟨z1, z2, z3⟩ := tx3_zero h
  have l1 := Rm.lf_lines z1
  have l2 := Rm.lf_lines z2
  have l3 := Rm.lf_lines z3
  have b1 := lf_bd l1
  have b2 := lf_bd l2
  have b3 := lf_bd l3
  have key : ∀ {ss : List ByteArray}, tot ss ≤ 2000 → ∀ x ∈ ss, x.size ≤ 1048576 := fun {ss} ht x hx => by
    obtain ⟨k, hk, e⟩ := List.getElem_of_mem hx
    have h1 := tot_take ss k hk
    have h2 := tot_take_le ss (k + 1)
    have h3 := tot_nonneg (ss.take k)
    rw [getD_at _ k hk, e] at h1
    omega
  have ok := mxOK l1 l2 l3
  refine ⟨ok, b1.1, b2.1, b3.1, key b1.2, key b2.2, key b3.2, ?_⟩
  have h1 := jnK_len (ptsA (ckT (linesOf a) (linesOf b) (linesOf c))) (ptsA (ckT (linesOf a) (linesOf b) (linesOf c))).length
  rw [jnK_full] at h1
  have h2 := ok.mx.whole
  have h3 : (mtB a b c).size = (jnF (ptsA (ckT (linesOf a) (linesOf b) (linesOf c)))).length := by simp [mtB, mgB, ByteArray.size]
  omega
theorem Tx.z3 {a b c : ByteArray} (h : Tx a b c) {c1 c2 c3 : Nat} (k1 : (linesOf a).length ≤ c1) (k2 : (linesOf b).length ≤ c2) (k3 : (linesOf c).length ≤ c3) : Z3 c1 c2 c3 (linesOf a) (linesOf b) (linesOf c) :=
  ⟨k1, k2, k3, by have := h.n1; omega, by have := h.n2; omega, by have := h.n3; omega, h.y1, h.y2, h.y3⟩
theorem own_cap {w : World} {base : Nat} {e : TypeId} {s : Nat} {a : Option Addr} {n c : Nat} {xs : List Value} (h : w.ownsRow base e s (.slice a n c) n xs) : n ≤ c ∧ (a = none → c = 0) := by
  rcases h.2 with ⟨h', h0⟩ | ⟨g, cap, cur, h', _, _, hc, _⟩
  · cases h'; exact ⟨Nat.le_refl _, fun _ => rfl⟩
  · cases h'; exact ⟨hc, fun e => (by cases e)⟩
theorem ck_fits {x1 x2 x3 : List ByteArray} (y1 : ∀ x ∈ x1, x.size ≤ 1048576) (y2 : ∀ x ∈ x2, x.size ≤ 1048576) (y3 : ∀ x ∈ x3, x.size ≤ 1048576) : FitsK (ckT x1 x2 x3) := fun ss hs k hk => by
  obtain ⟨c, hc, hq⟩ := mem_of_lns hs
  have m := ckT_mem hc
  rw [getD_at _ k hk]
  rcases hq with rfl | rfl | rfl
  · have := y1 _ (m.1 _ (List.getElem_mem hk)); omega
  · have := y2 _ (m.2.1 _ (List.getElem_mem hk)); omega
  · have := y3 _ (m.2.2.1 _ (List.getElem_mem hk)); omega
end Go.Proofs.Ytkeinpobngfioaa
