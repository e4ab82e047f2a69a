/- Answers that are hunks, and small laws of hunks that are marked. No statement is proved here. -/
import Derived.Test.YtbghdelpnodijaaDoorRows
import Derived.Test.YtbghdelpnodijaaDoorLem
import Derived.Test.YtbghdelpnodijaaDoorStrs
import Derived.Test.YtbghdelpnodijaaDoorMarks
import Derived.Test.YtbghdelpnodijaaDoorDTab
import Derived.Test.YtbghdelpnodijaaDoorOwn
import Derived.Test.YtbghdelpnodijaaDoorFr
import Derived.Test.YtbghdelpnodijaaDoorIn
import Derived.Test.YtbghdelpnodijaaDoorHkL
import Derived.Test.YtbghdelpnodijaaDoorHkT
import Derived.Test.YtbghdelpnodijaaDoorHfL
import Derived.Test.YtbghdelpnodijaaDoorHfC
import Derived.Test.YtbghdelpnodijaaDoorHnL
import Derived.Test.YtbghdelpnodijaaDoorHnT
import Derived.Test.YtbghdelpnodijaaDoorHrR
import Derived.WalkKit
import Derived.ProofKit
import Derived.Below
import Derived.Maps.AppendAt
namespace Go.Proofs.YtbghdelpnodijaaDoor
open Go.ChangeShapes Go.WideShapes Go.ChangeAt Go.RowKit

/-- The answer with code r, place t and hunks L. -/
def HP (r t : Int) (L : List Hk) (w : World) (e : Ending) (w' : World) : Prop := ∃ v sl, e = .returned (.agg #[.int .i64 r, .int .i64 t, v]) ∧ HO w.heap.size w' v L sl ∧ Below w.heap.size w w'
theorem below_set3 {B p : Nat} {a w : World} (h : Below B a w) (hp : B ≤ p) (u v z : Value) : Below B a (((w.setCell ⟨p, 0, none⟩ u).setCell ⟨p, 1, none⟩ v).setCell ⟨p, 2, none⟩ z) := ((h.setCell (p := ⟨p, 0, none⟩) hp u).setCell (p := ⟨p, 1, none⟩) hp v).setCell (p := ⟨p, 2, none⟩) hp z
theorem grownSet3 (w : World) (p : Nat) (u v z : Value) : w.grownBy (((w.setCell ⟨p, 0, none⟩ u).setCell ⟨p, 1, none⟩ v).setCell ⟨p, 2, none⟩ z) (some p) := grownTrans (grownTrans (grownSet w p 0 u) (grownSet _ p 1 v)) (grownSet _ p 2 z)
theorem Rf.drew {w : World} {b : Nat} {vs : List Value} (h : Rf w b vs) : Rf w.drew b vs := ⟨fun k v hk => h.at_ k v hk, fun k => h.fz k⟩
theorem newsRow (w : World) (vs : Array Value) (t : TypeId) : ∀ j u, vs.toList[j]? = some u → (w.alloc (.cells vs t)).cell? ((⟨w.heap.size, 0, none⟩ : Addr).add j) = some u := by
  intro j u hj
  rw [add_plain, Nat.zero_add]
  exact Rs.new w vs t j u hj
theorem Rf.grown {w w' : World} {b : Nat} {vs : List Value} {row : Option Nat} (h : Rf w b vs) (hg : w.grownBy w' row) (hne : some b ≠ row) (hlt : b < w.heap.size) : Rf w' b vs :=
  ⟨fun k v hk => hg.cell (h.at_ k v hk) hne, fun k => by
    have e := hg.block b hlt hne
    have h1 := h.fz k
    unfold World.frozen? at h1 ⊢
    rw [e]; exact h1⟩
theorem HO.grown {base : Nat} {w w' : World} {v : Value} {l : List Hk} {sl : Nat → Value} {p : Nat} (h : HO base w v l sl) (hg : w.grownBy w' (some p)) (hp : p < base) : HO base w' v l sl :=
  ⟨h.row.kept hg (blockCases _ _ fun j c1 c2 => by cases c2; have := (h.row.lt _ c1).1; omega), fun k hk => (h.each k hk).kept hg (blockCases _ _ fun j c1 c2 => by cases c2; have := ((h.each k hk).lt _ c1).1; omega), h.apart, h.off⟩
theorem HO.nil (base : Nat) (w : World) (sl : Nat → Value) : HO base w (.slice none 0 0) [] sl :=
  ⟨⟨rfl, .inl ⟨rfl, rfl⟩⟩, fun _ hk => absurd hk (Nat.not_lt_zero _), fun _ _ _ hk => absurd hk (Nat.not_lt_zero _), fun _ hk => absurd hk (Nat.not_lt_zero _)⟩
theorem leftHF_le : ∀ (l : List Hk) (n : Int), leftHF n l ≤ n ∨ leftHF n l = -1 := by
  intro l
  induction l with
  | nil => intro n; exact .inl (Int.le_refl _)
  | cons h t ih =>
    intro n
    by_cases hl : left n h.2.2 < 0
    · exact .inr (leftHF_stop hl)
    · rw [leftHF_go hl]
      have e := (left_nums hl).1
      have ht := tot_nonneg h.2.2
      rcases ih (left n h.2.2) with h' | h'
      · exact .inl (by omega)
      · exact .inr h'
theorem leftH_le (n : Int) (l : List Hk) {m : Int} (h : n ≤ m) (hm : 0 ≤ m) : leftH n l ≤ m := by
  unfold leftH
  split
  · omega
  · rcases leftHF_le l (n - l.length) with h' | h' <;> omega
theorem mixM_fits {l : List Hk} {m : Nat} (h : m + mkN l l.length ≤ 4194304) : Fits (mixM l m l.length) := fun x hx k hk => by
  obtain ⟨i, hi, e⟩ := List.mem_map.1 hx
  have hi' : i < l.length := List.mem_range.1 hi
  rw [if_pos hi'] at e
  subst e
  have h1 := mkN_le l (i + 1)
  rw [mkN_succ l i hi'] at h1
  exact marks_small _ _ (by omega) k hk
theorem tot_in {ss : List ByteArray} {x : ByteArray} (h : x ∈ ss) : (x.size : Int) ≤ tot ss := by
  induction ss with
  | nil => cases h
  | cons y ys ih =>
    have e : tot (y :: ys) = (y.size : Int) + tot ys := by simp [tot]
    have := tot_nonneg ys
    rcases List.mem_cons.1 h with rfl | h
    · omega
    · have := ih h; omega
theorem sum_short {l : List Hk} (h : ∀ x ∈ l, (x.2.2.length : Int) ≤ 1048576 ∧ tot x.2.2 ≤ 1048576) : ∀ x ∈ l, ∀ s ∈ x.2.2, s.size ≤ 1048576 := fun x hx s hs => by
  have h1 := (h x hx).2
  have h2 := tot_in hs
  omega

theorem markNil (m : Nat) (w : World) : Calls Tryd.prog 27 #[.slice none 0 0, .int .i64 m] w fun e w' => e = .returned (.int .i64 (m : Int)) ∧ w' = w := by
  go_enter Tryd.func27, Tryd.ntmps27
  go_wp2
  go_loop [1, 5] (fun t i => t = .int .i64 (m : Int) ∧ i = .int .i64 0) (fun _ _ => 0)
  case atStart => exact ⟨rfl, rfl⟩
  case round =>
    obtain ⟨rfl, rfl⟩ := hrel
    go_wp2
    go_ret
    exact ⟨rfl, rfl⟩

set_option maxHeartbeats 1000000 in
theorem markHunksAny (x t : Int) (base hi : Nat) (a : Option Addr) (c m : Nat) (l : List Hk) (sl : Nat → Value) (w : World) (h1 : 1 ≤ m) (h2 : m + mkN l l.length ≤ 4194304) (h : HO base w (.slice a l.length c) l sl)
    (hg : ∀ b, (Value.slice a l.length c).ownBlock = some b → b < hi) (hb : ∀ k, k < l.length → ∀ b, (sl k).ownBlock = some b → b < hi) :
    Calls Tryd.prog 14 #[.agg #[.int .i64 x, .int .i64 t, .slice a l.length c], .int .i64 m] w fun e w' => e = .returned (.int .i64 ((m + mkN l l.length : Nat) : Int)) ∧ HO base w' (.slice a l.length c) (mixM l m l.length) sl ∧ Fr base hi w w' := by
  rcases h.row.2 with ⟨e, h0⟩ | ⟨g, cap, cur, e, _⟩
  · have hl : l = [] := List.eq_nil_of_length_eq_zero h0
    subst hl
    simp only [Value.slice.injEq] at e
    obtain ⟨rfl, _, rfl⟩ := e
    have em : m + mkN [] ([] : List Hk).length = m := by simp [mkN]
    have ex : mixM ([] : List Hk) m ([] : List Hk).length = [] := by simp [mixM]
    rw [em, ex]
    have F1 := Fr.ofAlloc (lo := base) (hi := hi) w (.cells #[.int .i64 x, .int .i64 t, .slice none 0 0] 33)
    clear h hg hb h2 em ex
    show Calls Tryd.prog 14 #[.agg #[.int .i64 x, .int .i64 t, .slice none 0 0], .int .i64 m] w fun e w' => e = .returned (.int .i64 (m : Int)) ∧ HO base w' (.slice none 0 0) [] sl ∧ Fr base hi w w'
    go_enter Tryd.func14, Tryd.ntmps14
    go_wp2_with fail
    refine (markNil m _).mono ?_; rintro e w1 ⟨rfl, rfl⟩
    go_wp2_with fail
    go_ret
    exact ⟨rfl, HO.nil _ _ _, F1⟩
  · simp only [Value.slice.injEq] at e
    obtain ⟨rfl, _, rfl⟩ := e
    exact markHunksResult x t base hi g c m l sl w h1 h2 h (hg g rfl) hb
end Go.Proofs.YtbghdelpnodijaaDoor
