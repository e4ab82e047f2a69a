/- The sizes of hunks that stand; the contract of the specification's HunksOf where it tells a code. No statement is proved here. -/
import Derived.Test.YtepbkaidlffaiaaRows
import Derived.Test.YtepbkaidlffaiaaLemQ
import Derived.Test.YtepbkaidlffaiaaStrsQ
import Derived.Test.YtepbkaidlffaiaaLFLemQ
import Derived.Test.YtepbkaidlffaiaaDTabQ
import Derived.Test.YtepbkaidlffaiaaOwnQ
import Derived.Test.YtepbkaidlffaiaaFrQ
import Derived.Test.YtepbkaidlffaiaaInQ
import Derived.Test.YtepbkaidlffaiaaAskedQ
import Derived.Test.YtepbkaidlffaiaaComQ
import Derived.Test.YtepbkaidlffaiaaHkTQ
import Derived.Test.YtepbkaidlffaiaaHkLQ
import Derived.Test.YtepbkaidlffaiaaHfCQ
import Derived.Test.YtepbkaidlffaiaaHnLQ
import Derived.Test.YtepbkaidlffaiaaHrRQ
import Derived.Test.YtepbkaidlffaiaaApCQ
import Derived.Test.YtepbkaidlffaiaaRvLQ
import Derived.Test.YtepbkaidlffaiaaHoMQ
import Derived.Test.YtepbkaidlffaiaaHoFQ
import Derived.Test.YtepbkaidlffaiaaGdMQ
import Derived.WalkKit
import Derived.ProofKit
import Derived.Below
namespace Go.Proofs.Ytepbkaidlffaiaa
open Go.ChangeShapes Go.WideShapes Go.ChangeAt Go.RowKit

theorem tot_cons (s : ByteArray) (t : List ByteArray) : tot (s :: t) = (s.size : Int) + tot t := by simp [tot]
theorem tot_two (ss : List ByteArray) (h : ss.all okH = true) : tot ss ≤ ss.length + tot (wout 43 ss) + tot (wout 45 ss) := by
  induction ss with
  | nil => exact Int.le_refl _
  | cons s t ih =>
    rw [List.all_cons, Bool.and_eq_true] at h
    have I := ih h.2
    have hz := okH_size h.1
    have ht := tail_size s
    rw [wout_cons, wout_cons, tot_cons, List.length_cons]
    by_cases h3 : mark0 s = 43
    · rw [if_pos h3, if_neg (by omega), tot_cons, ht]; omega
    · rw [if_neg h3]
      by_cases h5 : mark0 s = 45
      · rw [if_pos h5, tot_cons, ht]; omega
      · rw [if_neg h5, tot_cons, tot_cons, ht]; omega
theorem tot_stands {xs os : List ByteArray} {i : Nat} (h : stands xs i os) : tot os ≤ tot xs := by
  have e := h.2
  have h1 : tot xs = tot (xs.take i) + tot (xs.drop i) := by rw [← tot_app, List.take_append_drop]
  have h2 : tot (xs.drop i) = tot ((xs.drop i).take os.length) + tot ((xs.drop i).drop os.length) := by rw [← tot_app, List.take_append_drop]
  have p1 := tot_nonneg (xs.take i)
  have p2 := tot_nonneg ((xs.drop i).drop os.length)
  rw [e] at h2
  omega
/-- Hunks of lines that are not long. -/
def Tame (l : List Hk) : Prop := ∀ h ∈ l, h.2.2.length ≤ 200 ∧ tot h.2.2 ≤ 4200
theorem hf_each {l : List Hk} (h : hf l = 0) : ∀ x ∈ l, x.2.2.length ≤ 200 ∧ x.2.2.all okH = true := by
  intro x hx
  obtain ⟨k, hk, e⟩ := List.getElem_of_mem hx
  have := ap_nums h hk
  rw [show l.getD k (0, 0, []) = x by simp [List.getD, hk, e]] at this
  exact ⟨this.2.2.2.1, this.2.2.2.2⟩
theorem tame_of {xs ys : List ByteArray} {l : List Hk} (h : hf l = 0) (h1 : apOk xs l = true) (h2 : apOk ys (l.map revH) = true) (tx : tot xs ≤ 2000) (ty : tot ys ≤ 2000) : Tame l ∧ Tame (l.map revH) := by
  have a1 := (apOk_iff _ _).1 h1
  have a2 := (apOk_iff _ _).1 h2
  have key : ∀ x ∈ l, x.2.2.length ≤ 200 ∧ x.2.2.all okH = true ∧ tot (wout 43 x.2.2) ≤ 2000 ∧ tot (wout 45 x.2.2) ≤ 2000 := by
    intro x hx
    obtain ⟨e1, e2⟩ := hf_each h x hx
    have s1 := tot_stands (a1 x hx)
    have s2 := tot_stands (a2 (revH x) (List.mem_map_of_mem hx))
    have e3 : wout 43 (revH x).2.2 = wout 45 x.2.2 := (wout_turn e2).1
    rw [e3] at s2
    exact ⟨e1, e2, by omega, by omega⟩
  refine ⟨fun x hx => ?_, fun y hy => ?_⟩
  · obtain ⟨e1, e2, e3, e4⟩ := key x hx
    have := tot_two _ e2
    exact ⟨e1, by omega⟩
  · obtain ⟨x, hx, rfl⟩ := List.mem_map.1 hy
    obtain ⟨e1, e2, e3, e4⟩ := key x hx
    have := tot_two _ (all_turn e2)
    rw [(wout_turn e2).1, (wout_turn e2).2, List.length_map] at this
    exact ⟨by show (x.2.2.map turnL).length ≤ 200; rw [List.length_map]; exact e1, by show tot (x.2.2.map turnL) ≤ 4200; omega⟩
theorem Tame.short {l : List Hk} (h : Tame l) : Shortly l := fun x hx => by have := (h x hx).1; omega
theorem Tame.size {l : List Hk} (h : Tame l) : ∀ x ∈ l, ∀ s ∈ x.2.2, s.size ≤ 1048576 := fun x hx s hs => by
  have h1 := (h x hx).2
  have h2 := tot_of_mem hs
  omega
theorem Tame.fits {l : List Hk} (h : Tame l) : Fits l := fun x hx k hk => by
  rw [getD_at _ k hk]
  have := h.size x hx _ (List.getElem_mem hk)
  omega
theorem Tame.totK {l : List Hk} (h : Tame l) : ∀ k, k ≤ l.length → totK l k ≤ k * 4200 := by
  intro k
  induction k with
  | zero => intro _; exact Int.le_refl _
  | succ k ih =>
    intro hk
    have I := ih (by omega)
    have e : Go.Proofs.Ytepbkaidlffaiaa.totK l (k + 1) = Go.Proofs.Ytepbkaidlffaiaa.totK l k + tot (l.getD k (0, 0, [])).2.2 := rfl
    have := (h (l.getD k (0, 0, [])) (by simp [List.getD, show k < l.length by omega])).2
    rw [e]; omega
theorem Tame.fit {l : List Hk} (h : Tame l) (hl : l.length ≤ 100) {t : Int} (ht : t ≤ 2000) : t + Go.Proofs.Ytepbkaidlffaiaa.totK l l.length ≤ 1048576 := by
  have := h.totK l.length (Nat.le_refl _)
  omega

set_option maxHeartbeats 2000000 in
theorem specHunksNo (cx : Int) (a1 a2 : Option Addr) (c1 c2 : Nat) (xs ys : List ByteArray) (w : World) (h1 : SS w a1 xs) (h2 : SS w a2 ys) (n1 : xs.length ≤ 1048576) (t1 : tot xs ≤ 1048576) (n2 : ys.length ≤ 1048576) (t2 : tot ys ≤ 1048576) (hno : ¬ hoR xs ys cx = 0) :
    Calls Try.prog 33 #[.slice a1 xs.length c1, .slice a2 ys.length c2, .int .i64 cx] w fun e w' => e = .returned (.agg #[.int .i64 (hoR xs ys cx), .int .i64 0, .slice none 0 0]) ∧ Below w.heap.size w w' := by
  have hA := fun w h1 h2 => specAsked a1 a2 c1 c2 xs ys w h1 h2 n1 t1 n2 t2
  have hI := fun w => l1In cx 0 5 w
  obtain ⟨W1, hW1⟩ : ∃ W1, w.alloc (.cells #[.int .i64 0, .int .i64 0, .slice none 0 0] 57) = W1 := ⟨_, rfl⟩
  have b1 : Below w.heap.size w W1 := by rw [← hW1]; exact allocBelow _ _
  have r1 : Rf W1 w.heap.size [.int .i64 0, .int .i64 0, .slice none 0 0] := by rw [← hW1]; exact Rf.new _ _ _
  have s1 := h1.below b1
  have s2 := h2.below b1
  by_cases h0 : asked xs ys = 0
  · have e1 : hoR xs ys cx = if 0 ≤ cx ∧ cx ≤ 5 then 0 else 3 := by unfold hoR; rw [if_pos h0]
    rw [h0] at hA
    by_cases hc : 0 ≤ cx ∧ cx ≤ 5
    · rw [if_pos hc] at e1; exact absurd e1 hno
    · have e3 : inB cx 0 5 = false := decide_eq_false hc
      rw [if_neg hc] at e1
      rw [e3] at hI
      rw [e1]
      have HB := below_set3 b1 (Nat.le_refl w.heap.size) (.int .i64 3) (.int .i64 0) (.slice none 0 0)
      have e0 := r1.at_ 0 _ rfl
      have e1 := r1.at_ 1 _ rfl
      have e2 := r1.at_ 2 _ rfl
      have f0 := r1.fz 0
      have f1 := r1.fz 1
      have f2 := r1.fz 2
      clear h0 e3 hc h1 h2 r1 b1 hno
      go_enter Try.func33, Try.ntmps33
      go_wp2_with fail
      refine (hA _ s1 s2).mono ?_; rintro e w1' ⟨rfl, rfl⟩
      go_wp2_with fail
      refine (hI _).mono ?_; rintro e w1' ⟨rfl, rfl⟩
      go_wp2
      refine bodyPost_ret (v := .agg #[.int .i64 3, .int .i64 0, .slice none 0 0]) (by simp [results, Try.results33, go_sem, e0, e1, e2]) rfl ?_
      exact ⟨rfl, HB⟩
  · have e1 : hoR xs ys cx = asked xs ys := if_neg h0
    rw [e1]
    have hb := ne_beq h0
    obtain ⟨r, hr⟩ : ∃ r, asked xs ys = r := ⟨_, rfl⟩
    rw [hr] at hA hb ⊢
    have HB := below_set3 b1 (Nat.le_refl w.heap.size) (.int .i64 r) (.int .i64 0) (.slice none 0 0)
    have e0 := r1.at_ 0 _ rfl
    have e1 := r1.at_ 1 _ rfl
    have e2 := r1.at_ 2 _ rfl
    have f0 := r1.fz 0
    have f1 := r1.fz 1
    have f2 := r1.fz 2
    clear h0 h1 h2 r1 b1 hr hno
    go_enter Try.func33, Try.ntmps33
    go_wp2_with fail
    refine (hA _ s1 s2).mono ?_; rintro e w1' ⟨rfl, rfl⟩
    go_wp2
    refine bodyPost_ret (v := .agg #[.int .i64 r, .int .i64 0, .slice none 0 0]) (by simp [results, Try.results33, go_sem, e0, e1, e2]) rfl ?_
    exact ⟨rfl, HB⟩
end Go.Proofs.Ytepbkaidlffaiaa
