/- The chunks of three right lists have a text that can be made (what mergedText and l4Merge ask). Plain mathematics. No statement is proved here. -/
import Derived.Test.YtciddfpkcdicaaaRows
import Derived.Test.YtciddfpkcdicaaaLemQ
import Derived.Test.YtciddfpkcdicaaaLFLemQ
import Derived.Test.YtciddfpkcdicaaaCkLQ
import Derived.Test.YtciddfpkcdicaaaCtLQ
import Derived.Test.YtciddfpkcdicaaaCtTQ
import Derived.Test.YtciddfpkcdicaaaKpDQ
import Derived.Test.YtciddfpkcdicaaaKpJQ
import Derived.Test.YtciddfpkcdicaaaMxIQ
import Derived.WalkKit
import Derived.ProofKit
namespace Go.Proofs.Ytciddfpkcdicaaa
open Go.ChangeShapes Go.WideShapes Go.ChangeAt Go.RowKit

theorem okLine_any {l : List UInt8} {b : Bool} (h : okLine l b = true) : okLine l true = true := by
  unfold okLine at h ⊢
  split at h
  · exact absurd h (by decide)
  · rename_i h1
    rw [if_neg h1]
    split at h
    · rename_i h2; rw [if_pos h2]
    · rename_i h2; rw [if_neg h2]; exact h
theorem lf_wh {ss : List ByteArray} (h : lf ss = 0) : wh ss = true := by
  have h1 : ¬ (100 < (ss.length : Int) ∨ 2000 < tot ss) := fun e => by rw [lf_many e] at h; exact absurd h (by decide)
  unfold wh
  rw [List.all_eq_true]
  intro s hs
  obtain ⟨k, hk, rfl⟩ := List.getElem_of_mem hs
  cases e : okAt ss k with
  | false => rw [lf_form h1 hk e] at h; exact absurd h (by decide)
  | true =>
    unfold okAt at e
    rw [List.getD, List.getElem?_eq_getElem hk] at e
    exact okLine_any e
theorem wh_sub {xs ys : List ByteArray} (h : wh xs = true) (hs : ∀ s ∈ ys, s ∈ xs) : wh ys = true := by
  unfold wh at h ⊢
  rw [List.all_eq_true] at h ⊢
  exact fun s m => h s (hs s m)
theorem tot_sg (xs : List ByteArray) (i j : Nat) : tot (sgK xs i j) ≤ tot xs := by
  unfold sgK
  have h1 := tot_split xs i
  have h2 := tot_split (xs.drop i) (j - i)
  have h3 := tot_nonneg (xs.take i)
  have h4 := tot_nonneg ((xs.drop i).drop (j - i))
  omega
/-- A chunk of the three, told by its pieces. -/
theorem ckT_parts {x1 x2 x3 : List ByteArray} {c : Ck} (h : c ∈ ckT x1 x2 x3) : c.1 = kd c.2.1 c.2.2.1 c.2.2.2 ∧ tot c.2.1 ≤ tot x1 ∧ tot c.2.2.1 ≤ tot x2 ∧ tot c.2.2.2 ≤ tot x3 := by
  unfold ckT at h
  obtain ⟨s, _, hc⟩ := List.mem_flatMap.1 h
  unfold ptK putK at hc
  split at hc
  · cases hc
  · rw [List.mem_singleton] at hc
    subst hc
    exact ⟨rfl, tot_sg .., tot_sg .., tot_sg ..⟩
theorem clash_size (b o t : List ByteArray) : ((clashB b o t).size : Int) ≤ tot b + tot o + tot t + b.length + o.length + t.length + 32 := by
  have h1 : (clashB b o t).size = (clashL b o t).length := by simp [clashB, ByteArray.size]
  have h3 := endAll_le b
  have h5 := endAll_le o
  have h6 := endAll_le t
  have q1 : h1L.length = 8 := rfl
  have q2 : h2L.length = 8 := rfl
  have q3 : h3L.length = 8 := rfl
  have q4 : h4L.length = 8 := rfl
  rw [h1]
  unfold clashL
  simp only [List.length_append]
  omega
theorem pts_bd {c : Ck} (h1 : c.2.1.length ≤ 100) (h2 : c.2.2.1.length ≤ 100) (h3 : c.2.2.2.length ≤ 100) (t1 : tot c.2.1 ≤ 2000) (t2 : tot c.2.2.1 ≤ 2000) (t3 : tot c.2.2.2 ≤ 2000) : tot (pts c) ≤ 7000 ∧ (pts c).length ≤ 100 := by
  unfold pts
  split
  · have := clash_size c.2.1 c.2.2.1 c.2.2.2
    refine ⟨?_, by simp⟩
    have e : tot [clashB c.2.1 c.2.2.1 c.2.2.2] = ((clashB c.2.1 c.2.2.1 c.2.2.2).size : Int) := by simp [tot]
    rw [e]
    omega
  · split
    · exact ⟨by omega, h3⟩
    · exact ⟨by omega, h2⟩
theorem ptsA_bd : ∀ (l : List Ck), (∀ c ∈ l, tot (pts c) ≤ 7000 ∧ (pts c).length ≤ 100) → tot (ptsA l) ≤ 7000 * l.length ∧ (ptsA l).length ≤ 100 * l.length := by
  intro l
  induction l with
  | nil => intro _; exact ⟨Int.le_refl _, Nat.le_refl _⟩
  | cons c l ih =>
    intro h
    have h1 := h c (List.mem_cons_self ..)
    have h2 := ih (fun d hd => h d (List.mem_cons_of_mem _ hd))
    have e : ptsA (c :: l) = pts c ++ ptsA l := List.flatMap_cons ..
    rw [e, tot_app, List.length_append, List.length_cons]
    constructor
    · push_cast; omega
    · omega
structure MxOK (x1 x2 x3 : List ByteArray) : Prop where
  mx : Mx (ckT x1 x2 x3)
  few : (ptsA (ckT x1 x2 x3)).length ≤ 1000000
  full : ∀ s ∈ ptsA (ckT x1 x2 x3), s.data.toList ≠ []
  short : (ckT x1 x2 x3).length ≤ 201
theorem mxOK {x1 x2 x3 : List ByteArray} (l1 : lf x1 = 0) (l2 : lf x2 = 0) (l3 : lf x3 = 0) : MxOK x1 x2 x3 := by
  have b1 := lf_bd l1
  have b2 := lf_bd l2
  have b3 := lf_bd l3
  have w1 := lf_wh l1
  have w2 := lf_wh l2
  have w3 := lf_wh l3
  have hlen : (ckT x1 x2 x3).length ≤ 201 := by have := ckT_len x1 x2 x3; omega
  have hA := ptsA_bd (ckT x1 x2 x3) (fun c hc => by
    have m := ckT_mem hc
    have p := ckT_parts hc
    exact pts_bd (by omega) (by omega) (by omega) (by omega) (by omega) (by omega))
  refine ⟨⟨fun c hc => ?_, by omega⟩, by omega, fun s hs => ?_, hlen⟩
  · have m := ckT_mem hc
    have p := ckT_parts hc
    refine ⟨by omega, by omega, by omega, by omega, by omega, by omega, fun h4 => ?_⟩
    unfold ctOK
    rw [wh_sub w1 m.1, wh_sub w2 m.2.1, wh_sub w3 m.2.2.1, decide_eq_true h4, decide_eq_true (p.1.symm.trans h4)]
    rfl
  · unfold ptsA at hs
    obtain ⟨c, hc, hm⟩ := List.mem_flatMap.1 hs
    have m := ckT_mem hc
    unfold pts at hm
    split at hm
    · rw [List.mem_singleton] at hm
      subst hm
      unfold clashB clashL h1L
      simp
    · split at hm
      · exact wh_pos w3 s (m.2.2.1 s hm)
      · exact wh_pos w2 s (m.2.1 s hm)
/-- The text of a merge, the same on both sides. -/
def mgB (x1 x2 x3 : List ByteArray) : ByteArray := ⟨(jnF (ptsA (ckT x1 x2 x3))).toArray⟩
theorem mg_put {x1 x2 x3 : List ByteArray} (h : MxOK x1 x2 x3) : (⟨(putP [] (ptsA (ckT x1 x2 x3))).toArray⟩ : ByteArray) = mgB x1 x2 x3 := by
  unfold mgB
  rw [putP_join _ h.full]
end Go.Proofs.Ytciddfpkcdicaaa
