/- Contracts of the laws' helpers over lists of numbers and pairs of them, and of MatchLines. No statement is proved here. -/
import Derived.Test.YtnkbjbbaoddfkaaGreatDoorRows
import Derived.Test.YtnkbjbbaoddfkaaGreatDoorLemQ
import Derived.Test.YtnkbjbbaoddfkaaGreatDoorDTabQ
import Derived.WalkKit
import Derived.ProofKit
import Derived.Below
import Derived.WalkSpells
import Derived.Deep.QuietTactic
import Derived.BigQuiet
import Derived.OpenShut
import Derived.Carry
import Derived.SliceStrings
namespace Go.Proofs.YtnkbjbbaoddfkaaGreatDoor
open Go.ChangeShapes Go.WideShapes Go.ChangeAt Go.RowKit

/-- A row of numbers that can be read. -/
def IR (w : World) (v : Value) (n : Nat) (f : Nat → Int) : Prop := ∃ a cap, v = .slice a n cap ∧ ∀ k, k < n → ∃ g, a = some ⟨g, 0, none⟩ ∧ g < w.heap.size ∧ w.cell? ⟨g, k, none⟩ = some (.int .i64 (f k))
theorem IR.of {w : World} {base : Nat} {v : Value} {n : Nat} {xs : List Value} (h : w.ownsRow base 2 1 v n xs) (f : Nat → Int) (hf : ∀ k, k < n → xs[k]? = some (.int .i64 (f k))) : IR w v n f := by
  rcases h.2 with ⟨rfl, rfl⟩ | ⟨g, cap, cur, rfl, hb, hh, _⟩
  · exact ⟨none, 0, rfl, fun k hk => absurd hk (Nat.not_lt_zero _)⟩
  · exact ⟨_, cap, rfl, fun k hk => ⟨g, rfl, (Array.getElem?_eq_some_iff.1 hh).1, by rw [h.cellAt k (by omega), hf k hk]⟩⟩
theorem IR.below {w w' : World} {v : Value} {n : Nat} {f : Nat → Int} (h : IR w v n f) (hb : Below w.heap.size w w') : IR w' v n f := by
  obtain ⟨a, cap, rfl, hc⟩ := h
  exact ⟨a, cap, rfl, fun k hk => by
    obtain ⟨g, e, hlt, hg⟩ := hc k hk
    exact ⟨g, e, Nat.lt_of_lt_of_le hlt hb.size, (hb.cell (p := ⟨g, k, none⟩) hlt).trans hg⟩⟩
theorem IR.drewN {w : World} {v : Value} {n : Nat} {f : Nat → Int} (h : IR w v n f) (m : Nat) : IR (w.drewN m) v n f := h

/-- The marks from m on. -/
def marksI (m n : Nat) : List Value := (List.range n).map fun i => .int .i64 ((m + i : Nat) : Int)
theorem marksI_at (m n k : Nat) (h : k < n) : (marksI m n)[k]? = some (.int .i64 ((m + k : Nat) : Int)) := by simp [marksI, h]
def mixI (xs : List Value) (m k : Nat) : List Value := marksI m k ++ xs.drop k
theorem mixI_set (xs : List Value) (m k : Nat) (h : k < xs.length) : (mixI xs m k).set k (.int .i64 ((m + k : Nat) : Int)) = mixI xs m (k + 1) := by
  unfold mixI
  have e : marksI m (k + 1) = marksI m k ++ [.int .i64 ((m + k : Nat) : Int)] := by simp [marksI, List.range_succ]
  have el : (marksI m k).length = k := by simp [marksI]
  rw [e, List.append_assoc, List.set_append_right _ _ (by omega), el, Nat.sub_self, List.drop_eq_getElem_cons h]
  rfl

end Go.Proofs.YtnkbjbbaoddfkaaGreatDoor
/- The contracts of SameLines (the program's and the specification's). No statement is proved here. -/
namespace Go.Proofs.YtnkbjbbaoddfkaaGreatDoor.Same
open Go.ChangeShapes Go.WideShapes Go.ChangeAt Go.RowKit

set_option maxHeartbeats 1600000 in
theorem slicesEqual : Eqs 26 := by
  intro a1 a2 c1 c2 xs ys w h1 h2 hn hm
  by_cases hl : xs.length = ys.length
  · have hlI : ((xs.length : Int) != (ys.length : Int)) = false := by simp [hl]
    have HL : Hid (xs.length = ys.length) := hl
    clear hl
    go_enter Tryz.func26, Tryz.ntmps26
    go_wp2
    go_loopw [13] (fun i wr => ∃ k : Nat, k ≤ xs.length ∧ i = .int .i64 k ∧ sameTo xs ys k ∧ ∃ n, wr = w.drewN n) (fun i _ => xs.length - (intOf i).toNat)
    case atStart => exact ⟨0, Nat.zero_le _, rfl, fun i hi => absurd hi (Nat.not_lt_zero _), 0, rfl⟩
    case round =>
      obtain ⟨k, hk, rfl, hsm, n, rfl⟩ := hrel
      by_cases hlt : k < xs.length
      · have hlt2 : k < ys.length := by have := HL.out; omega
        obtain ⟨b, off, rfl, hb, hc⟩ := h1.2 k hlt
        obtain ⟨b', off', rfl, hb', hc'⟩ := h2.2 k hlt2
        obtain ⟨s, hse⟩ : ∃ s, s = xs.getD k ByteArray.empty := ⟨_, rfl⟩
        obtain ⟨t, hte⟩ : ∃ t, t = ys.getD k ByteArray.empty := ⟨_, rfl⟩
        rw [← hse] at hc
        rw [← hte] at hc'
        have HS : Hid (s = xs.getD k ByteArray.empty) := hse
        have HT : Hid (t = ys.getD k ByteArray.empty) := hte
        clear hse hte h1 h2
        have q1 : (k : Int) < (xs.length : Int) := by omega
        have q2 : (k : Int) < (ys.length : Int) := by omega
        by_cases hst : s = t
        · have HST : Hid (s = t) := hst
          have hbe := beq_bytes_true hst
          clear hst
          go_wp2
          go_quiet (fail)
          go_wp2
          go_roundw
          case rel => exact ⟨k + 1, by omega, by go_num, sameTo_succ hsm (by rw [← HS.out, ← HT.out]; exact HST.out), _, rfl⟩
          case measure => simp [intOf]; omega
        · have HST : Hid (¬ s = t) := hst
          have hbe := beq_bytes_false hst
          clear hst
          have hE : Hid (eqB xs ys = false) := by
            show decide (xs = ys) = false
            refine decide_eq_false fun e => HST.out ?_
            rw [HS.out, HT.out, e]
          go_wp2
          go_quiet (fail)
          go_wp2
          go_ret
          exact ⟨ret_bool hE.out.symm, n + nq, World.drewN_drewN _ _ _⟩
      · have hE : Hid (eqB xs ys = true) := by
          have e : k = xs.length := by omega
          rw [e] at hsm
          exact decide_eq_true (eq_of_sameTo HL.out hsm)
        go_wp2
        go_ret
        exact ⟨ret_bool hE.out.symm, _, rfl⟩
  · have hlI : ((xs.length : Int) != (ys.length : Int)) = true := by simp; omega
    have hE : Hid (eqB xs ys = false) := by
      show decide (xs = ys) = false
      exact decide_eq_false fun e => hl (by rw [e])
    clear hl
    go_enter Tryz.func26, Tryz.ntmps26
    go_wp2
    go_ret
    exact ⟨ret_bool hE.out.symm, 0, rfl⟩

theorem implSameLines : Eqs 11 := by
  intro a1 a2 c1 c2 xs ys w h1 h2 hn hm
  go_enter Tryz.func11, Tryz.ntmps11
  go_wp2_with (go_at_call 26; refine (slicesEqual _ _ _ _ _ _ _ h1 h2 hn hm).mono ?_; rintro e w' ⟨rfl, n, rfl⟩)
  go_ret
  exact ⟨rfl, _, rfl⟩
end Go.Proofs.YtnkbjbbaoddfkaaGreatDoor.Same
