/- The contracts of SameLines (the program's and the specification's). No statement is proved here. -/
import Derived.Test.YtijphomojljckaaGreatDoorRows
import Derived.Test.YtijphomojljckaaGreatDoorLemQ
import Derived.WalkKit
import Derived.ProofKit
import Derived.OpenShut
import Derived.Below
import Derived.Carry
import Derived.SliceStrings
import Derived.Deep.QuietTactic
import Derived.BigQuiet
import Derived.WalkSpells
namespace Go.Proofs.YtijphomojljckaaGreatDoor.Same
open Go.ChangeShapes Go.WideShapes Go.ChangeAt Go.RowKit

set_option maxHeartbeats 1600000 in
theorem slicesEqual : Eqs 32 := by
  intro a1 a2 c1 c2 xs ys w h1 h2 hn hm
  by_cases hl : xs.length = ys.length
  · have hlI : ((xs.length : Int) != (ys.length : Int)) = false := by simp [hl]
    have HL : Hid (xs.length = ys.length) := hl
    clear hl
    go_enter Tryz.func32, Tryz.ntmps32
    go_wp2
    go_loopw [13] (fun i wr => ∃ k : Nat, k ≤ xs.length ∧ i = .int .i64 k ∧ sameTo xs ys k ∧ ∃ n, wr = w.drewN n) (fun i _ => xs.length - (intOf i).toNat)
    case atStart => exact ⟨0, Nat.zero_le _, rfl, fun i hi => absurd hi (Nat.not_lt_zero _), 0, rfl⟩
    case round =>
      obtain ⟨k, hk, rfl, hsm, n, rfl⟩ := hrel
      by_cases hlt : k < xs.length
      · have hlt2 : k < ys.length := by have := HL.out; omega
        obtain ⟨b, off, rfl, hb, hc⟩ := h1.2 k hlt
        obtain ⟨b', off', rfl, hb', hc'⟩ := h2.2 k hlt2
        obtain ⟨s, hse⟩ : ∃ s, s = xs.getD k ByteArray.empty := ⟨_, rfl⟩
        obtain ⟨t, hte⟩ : ∃ t, t = ys.getD k ByteArray.empty := ⟨_, rfl⟩
        rw [← hse] at hc
        rw [← hte] at hc'
        have HS : Hid (s = xs.getD k ByteArray.empty) := hse
        have HT : Hid (t = ys.getD k ByteArray.empty) := hte
        clear hse hte h1 h2
        have q1 : (k : Int) < (xs.length : Int) := by omega
        have q2 : (k : Int) < (ys.length : Int) := by omega
        by_cases hst : s = t
        · have HST : Hid (s = t) := hst
          have hbe := beq_bytes_true hst
          clear hst
          go_wp2
          go_quiet (fail)
          go_wp2
          go_roundw
          case rel => exact ⟨k + 1, by omega, by go_num, sameTo_succ hsm (by rw [← HS.out, ← HT.out]; exact HST.out), _, rfl⟩
          case measure => simp [intOf]; omega
        · have HST : Hid (¬ s = t) := hst
          have hbe := beq_bytes_false hst
          clear hst
          have hE : Hid (eqB xs ys = false) := by
            show decide (xs = ys) = false
            refine decide_eq_false fun e => HST.out ?_
            rw [HS.out, HT.out, e]
          go_wp2
          go_quiet (fail)
          go_wp2
          go_ret
          exact ⟨ret_bool hE.out.symm, n + nq, World.drewN_drewN _ _ _⟩
      · have hE : Hid (eqB xs ys = true) := by
          have e : k = xs.length := by omega
          rw [e] at hsm
          exact decide_eq_true (eq_of_sameTo HL.out hsm)
        go_wp2
        go_ret
        exact ⟨ret_bool hE.out.symm, _, rfl⟩
  · have hlI : ((xs.length : Int) != (ys.length : Int)) = true := by simp; omega
    have hE : Hid (eqB xs ys = false) := by
      show decide (xs = ys) = false
      exact decide_eq_false fun e => hl (by rw [e])
    clear hl
    go_enter Tryz.func32, Tryz.ntmps32
    go_wp2
    go_ret
    exact ⟨ret_bool hE.out.symm, 0, rfl⟩

theorem implSameLines : Eqs 15 := by
  intro a1 a2 c1 c2 xs ys w h1 h2 hn hm
  go_enter Tryz.func15, Tryz.ntmps15
  go_wp2_with (go_at_call 32; refine (slicesEqual _ _ _ _ _ _ _ h1 h2 hn hm).mono ?_; rintro e w' ⟨rfl, n, rfl⟩)
  go_ret
  exact ⟨rfl, _, rfl⟩
end Go.Proofs.YtijphomojljckaaGreatDoor.Same
