/- The contract of the laws' lwHas: is a text among these? No statement is proved here. -/
import Derived.Test.YtnififnogdekiaaRows
import Derived.Test.YtnififnogdekiaaLemQ
import Derived.Test.YtnififnogdekiaaDTabQ
import Derived.WalkKit
import Derived.ProofKit
import Derived.Below
import Derived.WalkSpells
import Derived.Deep.QuietTactic
import Derived.BigQuiet
namespace Go.Proofs.Ytnififnogdekiaa
open Go.ChangeShapes Go.WideShapes Go.ChangeAt Go.RowKit

set_option maxHeartbeats 1000000 in
theorem lwHas (a : Option Addr) (c : Nat) (xs : List ByteArray) (s : ByteArray) (w : World) (h : SS w a xs) (hn : xs.length ≤ 1048576) (hm : s ∈ xs) :
    Calls Try.prog 11 #[.slice a xs.length c, .string s] w fun e w' => e = .returned (.bool true) ∧ ∃ n, w' = w.drewN n := by
  obtain ⟨j, hj, ej⟩ := List.getElem_of_mem hm
  go_enter Try.func11, Try.ntmps11
  go_wp2
  go_loopw [5] (fun vi wr => ∃ k : Nat, k ≤ j ∧ vi = .int .i64 (k : Int) ∧ ∃ nq, wr = w.drewN nq) (fun vi _ => xs.length - (intOf vi).toNat)
  case atStart => exact ⟨0, Nat.zero_le _, rfl, 0, rfl⟩
  case round =>
    obtain ⟨k, hk, rfl, nr, hwr⟩ := hrel
    have q : (k : Int) < (xs.length : Int) := by omega
    obtain ⟨b, off, e, hb, hc⟩ := h.2 k (by omega)
    subst e
    have hc' : wr.cell? ⟨b, off + k, none⟩ = some (.string (xs.getD k ByteArray.empty)) := by rw [hwr]; exact hc
    have HW : Hid (wr = w.drewN nr) := hwr
    by_cases hx : xs.getD k ByteArray.empty = s
    · rw [hx] at hc'
      have hbs : (s.toList == s.toList) = true := by simp
      clear hc hwr h
      go_wp2
      first | go_ret | (go_quiet (fail); go_wp2; go_ret)
      exact ⟨rfl, _, by rw [HW.out]⟩
    · have hkj : k < j := by
        rcases Nat.lt_or_ge k j with h1 | h1
        · exact h1
        · exfalso
          obtain rfl : k = j := by omega
          exact hx (by rw [getD_at xs k hj]; exact ej)
      have hbs : ((xs.getD k ByteArray.empty).toList == s.toList) = false := beq_bytes_false hx
      obtain ⟨Z, hZ⟩ : ∃ Z, xs.getD k ByteArray.empty = Z := ⟨_, rfl⟩
      rw [hZ] at hc' hbs
      clear hc hwr h hx hZ
      go_wp2
      go_roundw
      case rel => exact ⟨k + 1, by omega, by go_num, nr, by rw [HW.out]⟩
      case measure => first | (simp [intOf]; omega) | simp [intOf]
end Go.Proofs.Ytnififnogdekiaa
