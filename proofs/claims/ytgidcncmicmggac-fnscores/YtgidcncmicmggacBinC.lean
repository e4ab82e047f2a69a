/- The contracts of IsBinary, of the specification and of the program. No statement is proved here. -/
import Derived.Test.YtgidcncmicmggacRows
import Derived.Test.YtgidcncmicmggacLem
import Derived.Test.YtgidcncmicmggacIdxB
import Derived.WalkKit
import Derived.ProofKit
import Derived.OpenShut
import Derived.ShutString
import Derived.Below
namespace Go.Proofs.Ytgidcncmicmggac
open Go.ChangeShapes Go.WideShapes Go.ChangeAt Go.RowKit

def binB (l : List UInt8) : Bool := decide ((0 : UInt8) ∈ l)
theorem mem_snoc (l : List UInt8) (c : UInt8) (h : ¬ (0 : UInt8) ∈ l) (hc : ¬ (c.toNat : Int) = 0) : ¬ (0 : UInt8) ∈ l ++ [c] := by
  have : ¬ c = 0 := by intro h; apply hc; rw [h]; rfl
  simp only [List.mem_append, List.mem_singleton, not_or]
  exact ⟨h, fun e => this e.symm⟩

set_option maxHeartbeats 400000 in
theorem specIsBinary (s : ByteArray) (w : World) (hs : s.size ≤ maxLen) :
    Calls Try.prog 28 #[.string s] w fun e w' => e = .returned (.bool (binB s.data.toList)) ∧ w' = w := by
  unfold maxLen at hs
  go_enter Try.func28, Try.ntmps28
  go_wp2
  go_loop [3] (fun i => ∃ k : Nat, k ≤ s.size ∧ i = .int .i64 k ∧ Hid (¬ (0 : UInt8) ∈ s.data.toList.take k)) (fun i => s.size - (intOf i).toNat)
  case atStart => exact ⟨0, Nat.zero_le _, rfl, by simp [Hid]⟩
  case round =>
    obtain ⟨k, hk, rfl, hn⟩ := hrel
    by_cases hlt : k < s.size
    · by_cases hz : ((s[k].toNat : Int) == 0) = true
      · have hm : Hid ((0 : UInt8) ∈ s.data.toList) := by
          have : s[k] = 0 := by
            apply UInt8.toNat_inj.1
            have := of_decide_eq_true hz
            simpa using this
          show (0 : UInt8) ∈ s.data.toList
          rw [← this]
          exact List.getElem_mem _
        go_wp2
        go_ret
        exact ⟨ret_bool (decide_eq_true hm.out).symm, rfl⟩
      · have hz' : ((s[k].toNat : Int) == 0) = false := by simpa using hz
        have hn' : Hid (¬ (0 : UInt8) ∈ s.data.toList.take (k + 1)) := by
          show ¬ _
          rw [take_snoc s k hlt]
          exact mem_snoc _ _ hn.out (by simpa using hz)
        clear hz hn
        go_wp2
        go_round
        case rel => exact ⟨k + 1, by omega, by go_num, hn'⟩
        case measure => simp [intOf]; omega
    · have hn2 : Hid (¬ (0 : UInt8) ∈ s.data.toList) := by
        have := hn.out
        rw [List.take_of_length_le (by simp; omega)] at this
        exact this
      go_wp2
      go_ret
      exact ⟨ret_bool (decide_eq_false hn2.out).symm, rfl⟩

theorem implIsBinary (s : ByteArray) (w : World) :
    Calls Try.prog 24 #[.string s] w fun e w' => e = .returned (.bool (binB s.data.toList)) ∧ w' = w := by
  go_enter Try.func24, Try.ntmps24
  go_wp2_with (go_at_call 34; refine (indexByte _ _ _).mono ?_; rintro e w' ⟨rfl, rfl⟩)
  go_ret
  exact ⟨ret_bool (by unfold binB; rw [decide_eq_decide]; exact indexByte_mem _ _), rfl⟩

end Go.Proofs.Ytgidcncmicmggac
