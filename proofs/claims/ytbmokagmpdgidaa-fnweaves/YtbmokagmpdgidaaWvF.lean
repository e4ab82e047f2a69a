/- The contract of impl.WeaveChanges, with a fault and without. No statement is proved here. -/
import Derived.Test.YtbmokagmpdgidaaRows
import Derived.Test.YtbmokagmpdgidaaLem
import Derived.Test.YtbmokagmpdgidaaStrs
import Derived.Test.YtbmokagmpdgidaaLFLem
import Derived.Test.YtbmokagmpdgidaaLF
import Derived.Test.YtbmokagmpdgidaaCom
import Derived.Test.YtbmokagmpdgidaaAsked
import Derived.Test.YtbmokagmpdgidaaDTab
import Derived.Test.YtbmokagmpdgidaaFr
import Derived.Test.YtbmokagmpdgidaaChg
import Derived.Test.YtbmokagmpdgidaaCoC
import Derived.Test.YtbmokagmpdgidaaEdC
import Derived.Test.YtbmokagmpdgidaaCFC
import Derived.Test.YtbmokagmpdgidaaCFI
import Derived.Test.YtbmokagmpdgidaaCFS
import Derived.Test.YtbmokagmpdgidaaWvC
import Derived.Test.YtbmokagmpdgidaaWvL
import Derived.Test.YtbmokagmpdgidaaWvI
import Derived.WalkKit
import Derived.ProofKit
import Derived.Below
import Derived.WalkSpells
namespace Go.Proofs.Ytbmokagmpdgidaa
open Go.ChangeShapes Go.WideShapes Go.ChangeAt Go.RowKit

theorem tot_mem {ss : List ByteArray} {x : ByteArray} (h : x ∈ ss) : (x.size : Int) ≤ tot ss := by
  induction ss with
  | nil => cases h
  | cons y ys ih =>
    have e : tot (y :: ys) = (y.size : Int) + tot ys := by simp [tot]
    have := tot_nonneg ys
    rcases List.mem_cons.1 h with rfl | h
    · omega
    · have := ih h; omega
theorem tot_bound {ss : List ByteArray} {Z : Nat} (h : ∀ x ∈ ss, x.size ≤ Z) : tot ss ≤ (ss.length * Z : Nat) := by
  induction ss with
  | nil => simp [tot]
  | cons y ys ih =>
    have e : tot (y :: ys) = (y.size : Int) + tot ys := by simp [tot]
    have h1 := ih (fun x hx => h x (List.mem_cons_of_mem _ hx))
    have h2 := h y (List.mem_cons_self ..)
    rw [e, List.length_cons, Nat.succ_mul]
    omega
/-- Changes without a fault: both lists are right, and the changes too. -/
theorem cfa_zero {xs ys : List ByteArray} {l : List Chg} (h : cfa xs ys l = 0) : asked xs ys = 0 ∧ cf xs.length ys.length l = 0 := by
  by_cases h0 : asked xs ys = 0
  · exact ⟨h0, by rw [← cfa_ok h0]; exact h⟩
  · rw [cfa_no h0] at h; exact absurd h h0
theorem weave_length {xs ys : List ByteArray} {l : List Chg} (h : cf xs.length ys.length l = 0) : (weave xs ys l).length ≤ xs.length + ys.length := by
  have h1 := wv_length h l.length (Nat.le_refl _)
  have h2 := stA_bd h
  have h3 := stB_bd h
  unfold weave
  rw [List.length_append, List.length_drop]
  omega
theorem wvLines_mem {xs ys : List ByteArray} {l : List Chg} {x : ByteArray} (h : x ∈ wvLines xs ys l) : x ∈ xs ∨ x ∈ ys := by
  unfold wvLines at h
  split at h
  · exact weave_mem h
  · cases h
theorem wvLines_length (xs ys : List ByteArray) (l : List Chg) : (wvLines xs ys l).length ≤ 100 := by
  unfold wvLines
  split
  · rename_i h; exact (lf_zero h.2).1
  · exact Nat.zero_le _

set_option maxRecDepth 20000 in
set_option maxHeartbeats 4000000 in
theorem implWeaveNo (a1 a2 a3 : Option Addr) (c1 c2 c3 : Nat) (xs ys : List ByteArray) (l : List Chg) (w : World) (h1 : SS w a1 xs) (h2 : SS w a2 ys) (h3 : CB w.heap.size w a3 l) (hr : Rng l) (n1 : xs.length ≤ 1048576) (n2 : ys.length ≤ 1048576) (n3 : l.length ≤ 1048576)
    (h0 : ¬ cfa xs ys l = 0) :
    Calls Try.prog 27 #[.slice a1 xs.length c1, .slice a2 ys.length c2, .slice a3 l.length c3] w fun e w' => LP (cfa xs ys l) [] w e w' := by
  have hA := fun w h1 h2 h3 => implChangesFault w.heap.size a1 a2 a3 c1 c2 c3 xs ys l w h1 h2 h3 hr n1 n2 n3
  have hb := ne_beq h0
  obtain ⟨v, hv⟩ : ∃ v, cfa xs ys l = v := ⟨_, rfl⟩
  rw [hv] at hA hb ⊢
  clear h0 hv
  go_enter Try.func27, Try.ntmps27
  go_wp2_with fail
  obtain ⟨W1, hW1⟩ : ∃ W1, w.alloc (.cells #[.int .i64 0, .slice none 0 0] 27) = W1 := ⟨_, rfl⟩
  have b1 : Below w.heap.size w W1 := by rw [← hW1]; exact allocBelow _ _
  have zW : w.heap.size < W1.heap.size := by rw [← hW1]; simp
  have r1 : Res2 W1 w.heap.size (.int .i64 0) (.slice none 0 0) := by rw [← hW1]; exact Res2.new _ _ _ _
  rw [hW1]
  clear hW1
  have s1 := h1.below b1
  have s2 := h2.below b1
  have s3 := h3.below b1
  refine (hA _ s1 s2 (fun k hk => by obtain ⟨g, off, e, hg, r⟩ := s3 k hk; exact ⟨g, off, e, by omega, r⟩)).mono ?_; rintro e w2 ⟨rfl, b2⟩
  have BB := b1.trans (b2.mono b1.size)
  have r2 := r1.below zW b2
  obtain ⟨k0, k1, g0, g1⟩ := r2
  have HB := below_sets BB (Nat.le_refl _) (.int .i64 v) (.slice none 0 0)
  clear s1 s2 s3 h1 h2 h3 hA r1 b1 b2 BB
  go_wp2
  refine bodyPost_ret (v := .agg #[.int .i64 v, .slice none 0 0]) (by simp [results, Try.results27, go_sem, k0, k1]) rfl ?_
  exact ⟨_, rfl, ⟨rfl, .inl ⟨rfl, rfl⟩⟩, HB⟩

theorem implWeaveChanges (a1 a2 a3 : Option Addr) (c1 c2 c3 : Nat) (xs ys : List ByteArray) (l : List Chg) (w : World) (h1 : SS w a1 xs) (h2 : SS w a2 ys) (h3 : CB w.heap.size w a3 l) (hr : Rng l) (k1 : xs.length ≤ c1) (k2 : ys.length ≤ c2) (n1 : xs.length ≤ 1048576) (n2 : ys.length ≤ 1048576) (n3 : l.length ≤ 1048576)
    (t1 : tot xs ≤ 1048576) (t2 : tot ys ≤ 1048576) :
    Calls Try.prog 27 #[.slice a1 xs.length c1, .slice a2 ys.length c2, .slice a3 l.length c3] w fun e w' => LP (wvCode xs ys l) (wvLines xs ys l) w e w' := by
  by_cases h0 : cfa xs ys l = 0
  · obtain ⟨ha, hc⟩ := cfa_zero h0
    obtain ⟨hx, hy⟩ := asked_zero ha
    have e1 : wvCode xs ys l = lf (weave xs ys l) := if_pos h0
    have e2 : wvLines xs ys l = if lf (weave xs ys l) = 0 then weave xs ys l else [] := by
      unfold wvLines
      by_cases h : lf (weave xs ys l) = 0
      · rw [if_pos ⟨h0, h⟩, if_pos h]
      · rw [if_neg (fun h' => h h'.2), if_neg h]
    rw [e1, e2]
    exact implWeave a1 a2 a3 c1 c2 c3 xs ys l w h1 h2 h3 hr k1 k2 n1 n2 n3 (fun x hx => by have := tot_mem hx; omega) (fun x hx => by have := tot_mem hx; omega) h0 hc (lf_zero hx).1 (lf_zero hy).1
  · have e1 : wvCode xs ys l = cfa xs ys l := if_neg h0
    have e2 : wvLines xs ys l = [] := if_neg (fun h => h0 h.1)
    rw [e1, e2]
    exact implWeaveNo a1 a2 a3 c1 c2 c3 xs ys l w h1 h2 h3 hr n1 n2 n3 h0
end Go.Proofs.Ytbmokagmpdgidaa
