/- What the law of ReverseHunks asks of the hunks that are told: small facts; marks of a list that may be nil. No statement is proved here. -/
import Derived.Test.YtidjcjeiigjmaaiRows
import Derived.Test.YtidjcjeiigjmaaiLem
import Derived.Test.YtidjcjeiigjmaaiStrs
import Derived.Test.YtidjcjeiigjmaaiMarks
import Derived.Test.YtidjcjeiigjmaaiDTab
import Derived.Test.YtidjcjeiigjmaaiOwn
import Derived.Test.YtidjcjeiigjmaaiFr
import Derived.Test.YtidjcjeiigjmaaiIn
import Derived.Test.YtidjcjeiigjmaaiHkL
import Derived.Test.YtidjcjeiigjmaaiHfL
import Derived.Test.YtidjcjeiigjmaaiHfC
import Derived.Test.YtidjcjeiigjmaaiHnL
import Derived.Test.YtidjcjeiigjmaaiHnT
import Derived.Test.YtidjcjeiigjmaaiRvL
import Derived.Test.YtidjcjeiigjmaaiRvI
import Derived.Test.YtidjcjeiigjmaaiHrR
import Derived.WalkKit
import Derived.ProofKit
import Derived.Below
namespace Go.Proofs.Ytidjcjeiigjmaai
open Go.ChangeShapes Go.WideShapes Go.ChangeAt Go.RowKit

theorem rvL_length (l : List Hk) : (rvL l).length ≤ l.length := by
  unfold rvL
  split <;> simp
theorem rvL_mem {l : List Hk} {x : Hk} (h : x ∈ rvL l) : ∃ y ∈ l, x = revH y := by
  unfold rvL at h
  split at h
  · obtain ⟨y, hy, e⟩ := List.mem_map.1 h
    exact ⟨y, hy, e.symm⟩
  · cases h
theorem rvL_short {l : List Hk} (h : Shortly l) : Shortly (rvL l) := fun x hx => by
  obtain ⟨y, hy, rfl⟩ := rvL_mem hx
  show (y.2.2.map turnL).length ≤ _
  rw [List.length_map]; exact h y hy
theorem rvL_fits {l : List Hk} (h : ∀ x ∈ l, ∀ s ∈ x.2.2, s.size ≤ 1048576) : Fits (rvL l) := fun x hx k hk => by
  obtain ⟨y, hy, rfl⟩ := rvL_mem hx
  have hk' : k < (y.2.2.map turnL).length := hk
  show ((y.2.2.map turnL).getD k ByteArray.empty).size ≤ _
  rw [getD_at _ k hk', List.getElem_map]
  have h1 := turnL_size (y.2.2[k]'(by simpa using hk'))
  have h2 := h y hy (y.2.2[k]'(by simpa using hk')) (List.getElem_mem _)
  omega
theorem rvL_mk (l : List Hk) : mkN (rvL l) (rvL l).length ≤ mkN l l.length := by
  rw [mkN_full, mkN_full]
  unfold rvL
  split
  · have e : allN (l.map revH) = allN l := by
      unfold allN
      rw [List.map_map]
      congr 1
      apply List.map_congr_left
      intro x _
      show (x.2.2.map turnL).length = _
      rw [List.length_map]
    rw [e, List.length_map]; exact Nat.le_refl _
  · simp [allN]
theorem mixM_fits {l : List Hk} {m : Nat} (h : m + mkN l l.length ≤ 4194304) : Fits (mixM l m l.length) := fun x hx k hk => by
  obtain ⟨i, hi, e⟩ := List.mem_map.1 hx
  have hi' : i < l.length := List.mem_range.1 hi
  rw [if_pos hi'] at e
  subst e
  have h1 := mkN_le l (i + 1)
  rw [mkN_succ l i hi'] at h1
  exact marks_small _ _ (by omega) k hk
theorem tot_in {ss : List ByteArray} {x : ByteArray} (h : x ∈ ss) : (x.size : Int) ≤ tot ss := by
  induction ss with
  | nil => cases h
  | cons y ys ih =>
    have e : tot (y :: ys) = (y.size : Int) + tot ys := by simp [tot]
    have := tot_nonneg ys
    rcases List.mem_cons.1 h with rfl | h
    · omega
    · have := ih h; omega
theorem sum_short {l : List Hk} (h : ∀ x ∈ l, (x.2.2.length : Int) ≤ 1048576 ∧ tot x.2.2 ≤ 1048576) : ∀ x ∈ l, ∀ s ∈ x.2.2, s.size ≤ 1048576 := fun x hx s hs => by
  have h1 := (h x hx).2
  have h2 := tot_in hs
  omega

theorem markNil (m : Nat) (w : World) : Calls Try.prog 16 #[.slice none 0 0, .int .i64 m] w fun e w' => e = .returned (.int .i64 (m : Int)) ∧ w' = w := by
  go_enter Try.func16, Try.ntmps16
  go_wp2
  go_loop [1, 5] (fun t i => t = .int .i64 (m : Int) ∧ i = .int .i64 0) (fun _ _ => 0)
  case atStart => exact ⟨rfl, rfl⟩
  case round =>
    obtain ⟨rfl, rfl⟩ := hrel
    go_wp2
    go_ret
    exact ⟨rfl, rfl⟩

set_option maxHeartbeats 1000000 in
theorem markHunksAny (x t : Int) (base hi : Nat) (a : Option Addr) (c m : Nat) (l : List Hk) (sl : Nat → Value) (w : World) (h1 : 1 ≤ m) (h2 : m + mkN l l.length ≤ 4194304) (h : HO base w (.slice a l.length c) l sl)
    (hg : ∀ b, (Value.slice a l.length c).ownBlock = some b → b < hi) (hb : ∀ k, k < l.length → ∀ b, (sl k).ownBlock = some b → b < hi) :
    Calls Try.prog 22 #[.agg #[.int .i64 x, .int .i64 t, .slice a l.length c], .int .i64 m] w fun e w' => e = .returned (.int .i64 ((m + mkN l l.length : Nat) : Int)) ∧ HO base w' (.slice a l.length c) (mixM l m l.length) sl ∧ Fr base hi w w' := by
  rcases h.row.2 with ⟨e, h0⟩ | ⟨g, cap, cur, e, _⟩
  · have hl : l = [] := List.eq_nil_of_length_eq_zero h0
    subst hl
    simp only [Value.slice.injEq] at e
    obtain ⟨rfl, _, rfl⟩ := e
    have em : m + mkN [] ([] : List Hk).length = m := by simp [mkN]
    have ex : mixM ([] : List Hk) m ([] : List Hk).length = [] := by simp [mixM]
    rw [em, ex]
    have F1 := Fr.ofAlloc (lo := base) (hi := hi) w (.cells #[.int .i64 x, .int .i64 t, .slice none 0 0] 39)
    clear h hg hb h2 em ex
    show Calls Try.prog 22 #[.agg #[.int .i64 x, .int .i64 t, .slice none 0 0], .int .i64 m] w fun e w' => e = .returned (.int .i64 (m : Int)) ∧ HO base w' (.slice none 0 0) [] sl ∧ Fr base hi w w'
    go_enter Try.func22, Try.ntmps22
    go_wp2_with fail
    refine (markNil m _).mono ?_; rintro e w1 ⟨rfl, rfl⟩
    go_wp2_with fail
    go_ret
    exact ⟨rfl, HO.nil _ _ _, F1⟩
  · simp only [Value.slice.injEq] at e
    obtain ⟨rfl, _, rfl⟩ := e
    exact markHunksResult x t base hi g c m l sl w h1 h2 h (hg g rfl) hb
end Go.Proofs.Ytidjcjeiigjmaai
