/- Contracts of the laws' helpers over lists of numbers and pairs of them, and of MatchLines. No statement is proved here. -/
import Derived.Test.YtidjcjeiigjmaaiRows
import Derived.Test.YtidjcjeiigjmaaiLem
import Derived.Test.YtidjcjeiigjmaaiStrs
import Derived.Test.YtidjcjeiigjmaaiDTab
import Derived.Test.YtidjcjeiigjmaaiOwn
import Derived.WalkKit
import Derived.ProofKit
import Derived.Below
import Derived.WalkSpells
import Derived.Deep.QuietTactic
import Derived.BigQuiet
namespace Go.Proofs.Ytidjcjeiigjmaai
open Go.ChangeShapes Go.WideShapes Go.ChangeAt Go.RowKit

/-- A row of numbers that can be read. -/
def IR (w : World) (v : Value) (n : Nat) (f : Nat → Int) : Prop := ∃ a cap, v = .slice a n cap ∧ ∀ k, k < n → ∃ g, a = some ⟨g, 0, none⟩ ∧ g < w.heap.size ∧ w.cell? ⟨g, k, none⟩ = some (.int .i64 (f k))
theorem IR.of {w : World} {base : Nat} {v : Value} {n : Nat} {xs : List Value} (h : w.ownsRow base 2 1 v n xs) (f : Nat → Int) (hf : ∀ k, k < n → xs[k]? = some (.int .i64 (f k))) : IR w v n f := by
  rcases h.2 with ⟨rfl, rfl⟩ | ⟨g, cap, cur, rfl, hb, hh, _⟩
  · exact ⟨none, 0, rfl, fun k hk => absurd hk (Nat.not_lt_zero _)⟩
  · exact ⟨_, cap, rfl, fun k hk => ⟨g, rfl, (Array.getElem?_eq_some_iff.1 hh).1, by rw [h.cellAt k (by omega), hf k hk]⟩⟩
theorem IR.below {w w' : World} {v : Value} {n : Nat} {f : Nat → Int} (h : IR w v n f) (hb : Below w.heap.size w w') : IR w' v n f := by
  obtain ⟨a, cap, rfl, hc⟩ := h
  exact ⟨a, cap, rfl, fun k hk => by
    obtain ⟨g, e, hlt, hg⟩ := hc k hk
    exact ⟨g, e, Nat.lt_of_lt_of_le hlt hb.size, (hb.cell (p := ⟨g, k, none⟩) hlt).trans hg⟩⟩
theorem IR.drewN {w : World} {v : Value} {n : Nat} {f : Nat → Int} (h : IR w v n f) (m : Nat) : IR (w.drewN m) v n f := h

set_option maxHeartbeats 1000000 in
theorem eqInt64S (v1 v2 : Value) (n : Nat) (f : Nat → Int) (w : World) (h1 : IR w v1 n f) (h2 : IR w v2 n f) (hn : n ≤ 1048576) :
    Calls Try.prog 48 #[v1, v2] w fun e w' => e = .returned (.bool true) ∧ ∃ m, w' = w.drewN m := by
  obtain ⟨a1, cap1, rfl, hc1⟩ := h1
  obtain ⟨a2, cap2, rfl, hc2⟩ := h2
  have hl : ((n : Int) != (n : Int)) = false := by simp
  go_enter Try.func48, Try.ntmps48
  go_wp2
  go_loopw [5] (fun i wr => ∃ k : Nat, k ≤ n ∧ i = .int .i64 k ∧ ∃ m, wr = w.drewN m) (fun i _ => n - (intOf i).toNat)
  case atStart => exact ⟨0, Nat.zero_le _, rfl, 0, rfl⟩
  case round =>
    obtain ⟨k, hk, rfl, m, rfl⟩ := hrel
    by_cases hlt : k < n
    · have q : (k : Int) < (n : Int) := by omega
      obtain ⟨g1, e1, l1, d1⟩ := hc1 k hlt
      obtain ⟨g2, e2, l2, d2⟩ := hc2 k hlt
      subst e1 e2
      obtain ⟨x, hx⟩ : ∃ x, f k = x := ⟨_, rfl⟩
      rw [hx] at d1 d2
      have hb : (x != x) = false := by simp
      clear hx hc1 hc2
      go_wp2
      go_quiet (fail)
      go_wp2
      go_roundw
      case rel => exact ⟨k + 1, by omega, by go_num, _, rfl⟩
      case measure => first | (simp [intOf]; omega) | simp [intOf]
    · have q : ¬ (k : Int) < (n : Int) := by omega
      go_wp2
      go_ret
      exact ⟨rfl, _, rfl⟩

/-- The marks from m on. -/
def marksI (m n : Nat) : List Value := (List.range n).map fun i => .int .i64 ((m + i : Nat) : Int)
theorem marksI_at (m n k : Nat) (h : k < n) : (marksI m n)[k]? = some (.int .i64 ((m + k : Nat) : Int)) := by simp [marksI, h]
def mixI (xs : List Value) (m k : Nat) : List Value := marksI m k ++ xs.drop k
theorem mixI_set (xs : List Value) (m k : Nat) (h : k < xs.length) : (mixI xs m k).set k (.int .i64 ((m + k : Nat) : Int)) = mixI xs m (k + 1) := by
  unfold mixI
  have e : marksI m (k + 1) = marksI m k ++ [.int .i64 ((m + k : Nat) : Int)] := by simp [marksI, List.range_succ]
  have el : (marksI m k).length = k := by simp [marksI]
  rw [e, List.append_assoc, List.set_append_right _ _ (by omega), el, Nat.sub_self, List.drop_eq_getElem_cons h]
  rfl

set_option maxHeartbeats 1000000 in
theorem markInt64S (base : Nat) (v : Value) (n m : Nat) (xs : List Value) (w : World) (h2 : m + n ≤ 4194304) (ho : w.ownsRow base 2 1 v n xs) :
    Calls Try.prog 49 #[v, .int .i64 m] w fun e w' => e = .returned (.int .i64 ((m + n : Nat) : Int)) ∧
      w'.ownsRow base 2 1 v n (marksI m n) ∧ w.grownBy w' v.ownBlock := by
  have hxl : xs.length = n := by have := ho.1; omega
  obtain ⟨a, cap, rfl⟩ : ∃ a cap, v = .slice a n cap := by
    rcases ho.2 with ⟨rfl, rfl⟩ | ⟨g, cap, cur, rfl, _⟩
    · exact ⟨_, _, rfl⟩
    · exact ⟨_, _, rfl⟩
  go_enter Try.func49, Try.ntmps49
  go_wp2
  go_loopw [1, 5] (fun t i wr => ∃ k : Nat, k ≤ n ∧ i = .int .i64 k ∧ t = .int .i64 ((m + k : Nat) : Int) ∧ wr.ownsRow base 2 1 (.slice a n cap) n (mixI xs m k) ∧ w.grownBy wr (Value.slice a n cap).ownBlock) (fun _ i _ => n - (intOf i).toNat)
  case atStart => exact ⟨0, Nat.zero_le _, rfl, rfl, by simpa [mixI, marksI] using ho, World.grownBy.refl _ _⟩
  case round =>
    obtain ⟨k, hk, rfl, rfl, hor, hgr⟩ := hrel
    by_cases hlt : k < n
    · obtain ⟨g, rfl⟩ : ∃ g, a = some ⟨g, 0, none⟩ := by
        rcases hor.2 with ⟨h', h0⟩ | ⟨g, c, cur, h', _⟩
        · omega
        · simp only [Value.slice.injEq] at h'; exact ⟨g, h'.1⟩
      have hst := mixI_set xs m k (by omega)
      have hlen : (mixI xs m k).length = n := by have := hor.1; omega
      have hfz := hor.frozenAt k
      have hold : wr.cell? ⟨g, k, none⟩ = some ((mixI xs m k).getD k (.int .i64 0)) := by
        rw [hor.cellAt k (by omega), List.getD, List.getElem?_eq_getElem (by omega)]; rfl
      obtain ⟨hs1, hs2⟩ := hor.stored k (.int .i64 ((m + k : Nat) : Int))
      rw [hst] at hs1
      have hgr2 : w.grownBy (wr.setCell ⟨g, k, none⟩ (.int .i64 ((m + k : Nat) : Int))) (Value.slice (some ⟨g, 0, none⟩) n cap).ownBlock := grownTrans hgr hs2
      obtain ⟨V, hV⟩ : ∃ V : Int, ((m + k : Nat) : Int) = V := ⟨_, rfl⟩
      have hV2 : V < 4194304 ∧ 0 ≤ V := by omega
      have HV : Hid (((m + k : Nat) : Int) = V) := hV
      rw [hV] at hs1 hgr2 ⊢
      obtain ⟨hV3, hV4⟩ := hV2
      clear hor hgr hs2 hst hV
      go_wp2
      go_roundw
      case rel => exact ⟨k + 1, by omega, by go_num, by rw [← HV.out]; go_num, hs1, hgr2⟩
      case measure => first | (simp [intOf]; omega) | simp [intOf]
    · have e : k = n := by omega
      subst e
      have hfull : wr.ownsRow base 2 1 (.slice a k cap) k (marksI m k) := by
        have : mixI xs m k = marksI m k := by unfold mixI; rw [List.drop_of_length_le (by omega), List.append_nil]
        rwa [this] at hor
      clear hor
      go_wp2
      go_ret
      exact ⟨rfl, hfull, hgr⟩

set_option maxHeartbeats 1000000 in
theorem heldInt64S (v : Value) (n m : Nat) (w : World) (h2 : m + n ≤ 4194304) (h : IR w v n (fun k => ((m + k : Nat) : Int))) :
    Calls Try.prog 50 #[v, .int .i64 m] w fun e w' => e = .returned (.int .i64 ((m + n : Nat) : Int)) ∧ ∃ q, w' = w.drewN q := by
  obtain ⟨a1, cap1, rfl, hc1⟩ := h
  go_enter Try.func50, Try.ntmps50
  go_wp2
  go_loopw [1, 5] (fun t i wr => ∃ k : Nat, k ≤ n ∧ i = .int .i64 k ∧ t = .int .i64 ((m + k : Nat) : Int) ∧ ∃ q, wr = w.drewN q) (fun _ i _ => n - (intOf i).toNat)
  case atStart => exact ⟨0, Nat.zero_le _, rfl, rfl, 0, rfl⟩
  case round =>
    obtain ⟨k, hk, rfl, rfl, q, rfl⟩ := hrel
    by_cases hlt : k < n
    · have hq : (k : Int) < (n : Int) := by omega
      obtain ⟨g1, e1, l1, d1⟩ := hc1 k hlt
      subst e1
      obtain ⟨V, hV⟩ : ∃ V : Int, ((m + k : Nat) : Int) = V := ⟨_, rfl⟩
      have hV2 : V < 4194304 ∧ 0 ≤ V := by omega
      have HV : Hid (((m + k : Nat) : Int) = V) := hV
      rw [hV] at d1 ⊢
      obtain ⟨hV3, hV4⟩ := hV2
      have hb : (V != V) = false := by simp
      clear hc1 hV
      go_wp2
      go_roundw
      case rel => exact ⟨k + 1, by omega, by go_num, by rw [← HV.out]; go_num, _, rfl⟩
      case measure => first | (simp [intOf]; omega) | simp [intOf]
    · have hq : ¬ (k : Int) < (n : Int) := by omega
      obtain rfl : k = n := by omega
      go_wp2
      go_ret
      exact ⟨rfl, _, rfl⟩
end Go.Proofs.Ytidjcjeiigjmaai
