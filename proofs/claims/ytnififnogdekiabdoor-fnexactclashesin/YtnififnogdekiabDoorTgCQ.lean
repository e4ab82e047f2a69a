/- The contracts of isIdOf, entryFault and l6Is. No statement is proved here. -/
import Derived.Test.YtnififnogdekiabDoorRows
import Derived.Test.YtnififnogdekiabDoorLemQ
import Derived.Test.YtnififnogdekiabDoorInQ
import Derived.Test.YtnififnogdekiabDoorDTabQ
import Derived.Test.YtnififnogdekiabDoorHkTQ
import Derived.Test.YtnififnogdekiabDoorIdLQ
import Derived.Test.YtnififnogdekiabDoorIdCQ
import Derived.Test.YtnififnogdekiabDoorNmCQ
import Derived.WalkKit
import Derived.ProofKit
import Derived.Below
import Derived.WalkSpells
import Derived.Deep.QuietTactic
import Derived.BigQuiet
namespace Go.Proofs.YtnififnogdekiabDoor
open Go.ChangeShapes Go.WideShapes Go.ChangeAt Go.RowKit

/-- Is a text an id of a kind? -/
def ltr (k : Int) : UInt8 := if k = 1 then 98 else if k = 2 then 116 else 99
def isOf (k : Int) (id : ByteArray) : Bool := idB id.data.toList && decide (id.data.toList.getD 0 0 = ltr k)
theorem isOf_no {k : Int} {id : ByteArray} (h : idB id.data.toList = false) : isOf k id = false := by unfold isOf; rw [h]; rfl
theorem isOf_yes {k : Int} {a b c d e : UInt8} (h : idB [a, b, c, d, e] = true) : isOf k ⟨#[a, b, c, d, e]⟩ = decide (a = ltr k) := by
  unfold isOf
  show (idB [a, b, c, d, e] && _) = _
  rw [h]; rfl
theorem id5 {id : ByteArray} (h : idB id.data.toList = true) : ∃ a b c d e, id = ⟨#[a, b, c, d, e]⟩ := by
  have hl : id.data.toList.length = 5 := by
    by_cases h5 : id.data.toList.length = 5
    · exact h5
    · rw [idB_len h5] at h; cases h
  obtain ⟨a, b, c, d, e, he⟩ := five hl
  refine ⟨a, b, c, d, e, ?_⟩
  obtain ⟨⟨x⟩⟩ := id
  have : x = [a, b, c, d, e] := he
  rw [this]
theorem byteT {a : UInt8} {n : Nat} (hn : n < 256) (h : a = UInt8.ofNat n) : ((a.toNat : Int) == (n : Int)) = true := by
  rw [h]; simp [Nat.mod_eq_of_lt hn]
theorem byteF {a : UInt8} {n : Nat} (hn : n < 256) (h : ¬ a = UInt8.ofNat n) : ((a.toNat : Int) == (n : Int)) = false := by
  apply beq_eq_false_iff_ne.2
  intro e
  apply h
  apply UInt8.toNat_inj.1
  simp [Nat.mod_eq_of_lt hn]
  omega
set_option maxRecDepth 20000 in
set_option maxHeartbeats 1000000 in
theorem isIdOf (k : Int) (hk : k = 1 ∨ k = 2 ∨ k = 3) (id : ByteArray) (w : World) :
    Calls Tryd.prog 70 #[.int .i64 k, .string id] w fun e w' => e = .returned (.bool (isOf k id)) ∧ ∃ n, w' = w.drewN n := by
  have hI := fun w => implIsId id w
  cases hid : idB id.data.toList with
  | false =>
    rw [isOf_no hid]
    rw [hid] at hI
    clear hid
    go_enter Tryd.func70, Tryd.ntmps70
    go_wp2
    go_quiet ((go_at_call 95; exact Calls.quiet_of_same (hI _)))
    go_wp2
    go_ret
    exact ⟨rfl, _, rfl⟩
  | true =>
    obtain ⟨a, b, c, d, e, he⟩ := id5 hid
    subst he
    have hE := fun k => isOf_yes (k := k) (show idB [a, b, c, d, e] = true from hid)
    rw [hid] at hI
    clear hid
    rw [hE k]
    rcases hk with rfl | rfl | rfl
    · by_cases ea : a = 98
      · have HR : Hid (decide (a = ltr 1) = true) := by show _ = _; rw [ea]; rfl
        have q : ((a.toNat : Int) == 98) = true := byteT (n := 98) (by omega) ea
        clear ea hE
        go_enter Tryd.func70, Tryd.ntmps70
        go_wp2
        go_quiet ((go_at_call 95; exact Calls.quiet_of_same (hI _)))
        go_wp2
        go_ret
        exact ⟨ret_bool (by rw [HR.out]; exact q), _, rfl⟩
      · have HR : Hid (decide (a = ltr 1) = false) := by show _ = _; exact decide_eq_false ea
        have q : ((a.toNat : Int) == 98) = false := byteF (n := 98) (by omega) ea
        clear ea hE
        go_enter Tryd.func70, Tryd.ntmps70
        go_wp2
        go_quiet ((go_at_call 95; exact Calls.quiet_of_same (hI _)))
        go_wp2
        go_ret
        exact ⟨ret_bool (by rw [HR.out]; exact q), _, rfl⟩
    · by_cases ea : a = 116
      · have HR : Hid (decide (a = ltr 2) = true) := by show _ = _; rw [ea]; rfl
        have q : ((a.toNat : Int) == 116) = true := byteT (n := 116) (by omega) ea
        clear ea hE
        go_enter Tryd.func70, Tryd.ntmps70
        go_wp2
        go_quiet ((go_at_call 95; exact Calls.quiet_of_same (hI _)))
        go_wp2
        go_ret
        exact ⟨ret_bool (by rw [HR.out]; exact q), _, rfl⟩
      · have HR : Hid (decide (a = ltr 2) = false) := by show _ = _; exact decide_eq_false ea
        have q : ((a.toNat : Int) == 116) = false := byteF (n := 116) (by omega) ea
        clear ea hE
        go_enter Tryd.func70, Tryd.ntmps70
        go_wp2
        go_quiet ((go_at_call 95; exact Calls.quiet_of_same (hI _)))
        go_wp2
        go_ret
        exact ⟨ret_bool (by rw [HR.out]; exact q), _, rfl⟩
    · by_cases ea : a = 99
      · have HR : Hid (decide (a = ltr 3) = true) := by show _ = _; rw [ea]; rfl
        have q : ((a.toNat : Int) == 99) = true := byteT (n := 99) (by omega) ea
        clear ea hE
        go_enter Tryd.func70, Tryd.ntmps70
        go_wp2
        go_quiet ((go_at_call 95; exact Calls.quiet_of_same (hI _)))
        go_wp2
        go_ret
        exact ⟨ret_bool (by rw [HR.out]; exact q), _, rfl⟩
      · have HR : Hid (decide (a = ltr 3) = false) := by show _ = _; exact decide_eq_false ea
        have q : ((a.toNat : Int) == 99) = false := byteF (n := 99) (by omega) ea
        clear ea hE
        go_enter Tryd.func70, Tryd.ntmps70
        go_wp2
        go_quiet ((go_at_call 95; exact Calls.quiet_of_same (hI _)))
        go_wp2
        go_ret
        exact ⟨ret_bool (by rw [HR.out]; exact q), _, rfl⟩
set_option maxRecDepth 20000 in
set_option maxHeartbeats 1000000 in
theorem l5L (k : Int) (hk : k = 1 ∨ k = 2 ∨ k = 3) (w : World) : Calls Tryd.prog 92 #[.int .i64 k] w fun e w' => e = .returned (.string ⟨#[ltr k]⟩) ∧ w' = w := by
  rcases hk with rfl | rfl | rfl
  all_goals
    go_enter Tryd.func92, Tryd.ntmps92
    go_wp2
    go_ret
    exact ⟨rfl, rfl⟩
set_option maxRecDepth 20000 in
set_option maxHeartbeats 1000000 in
theorem l6Is (k : Int) (hk : k = 1 ∨ k = 2 ∨ k = 3) (id : ByteArray) (w : World) :
    Calls Tryd.prog 66 #[.string id, .int .i64 k] w fun e w' => e = .returned (.bool (isOf k id)) ∧ ∃ n, w' = w.drewN n := by
  have hI := fun w => specIsId id w
  have hL := fun w => l5L k hk w
  cases hid : idB id.data.toList with
  | false =>
    rw [isOf_no hid]
    rw [hid] at hI
    clear hid
    go_enter Tryd.func66, Tryd.ntmps66
    go_wp2
    go_quiet (first | (go_at_call 91; exact Calls.quiet_of_same (hI _)) | (go_at_call 92; exact Calls.quiet_of_same (hL _)))
    go_wp2
    go_ret
    exact ⟨rfl, _, rfl⟩
  | true =>
    obtain ⟨a, b, c, d, e, he⟩ := id5 hid
    subst he
    have hE := fun k => isOf_yes (k := k) (show idB [a, b, c, d, e] = true from hid)
    have hX : (⟨#[a, b, c, d, e]⟩ : ByteArray).extract 0 1 = ⟨#[a]⟩ := rfl
    rw [hid] at hI
    clear hid
    rw [hE k]
    rcases hk with rfl | rfl | rfl
    · by_cases ea : a = 98
      · have HR : Hid (decide (a = ltr 1) = true) := by show _ = _; rw [ea]; rfl
        clear ea hE
        go_enter Tryd.func66, Tryd.ntmps66
        go_wp2
        go_quiet (first | (go_at_call 91; exact Calls.quiet_of_same (hI _)) | (go_at_call 92; exact Calls.quiet_of_same (hL _)))
        go_wp2
        go_ret
        exact ⟨ret_bool (by rw [HR.out]; exact HR.out), _, rfl⟩
      · have HR : Hid (decide (a = ltr 1) = false) := by show _ = _; exact decide_eq_false ea
        clear ea hE
        go_enter Tryd.func66, Tryd.ntmps66
        go_wp2
        go_quiet (first | (go_at_call 91; exact Calls.quiet_of_same (hI _)) | (go_at_call 92; exact Calls.quiet_of_same (hL _)))
        go_wp2
        go_ret
        exact ⟨ret_bool (by rw [HR.out]; exact HR.out), _, rfl⟩
    · by_cases ea : a = 116
      · have HR : Hid (decide (a = ltr 2) = true) := by show _ = _; rw [ea]; rfl
        clear ea hE
        go_enter Tryd.func66, Tryd.ntmps66
        go_wp2
        go_quiet (first | (go_at_call 91; exact Calls.quiet_of_same (hI _)) | (go_at_call 92; exact Calls.quiet_of_same (hL _)))
        go_wp2
        go_ret
        exact ⟨ret_bool (by rw [HR.out]; exact HR.out), _, rfl⟩
      · have HR : Hid (decide (a = ltr 2) = false) := by show _ = _; exact decide_eq_false ea
        clear ea hE
        go_enter Tryd.func66, Tryd.ntmps66
        go_wp2
        go_quiet (first | (go_at_call 91; exact Calls.quiet_of_same (hI _)) | (go_at_call 92; exact Calls.quiet_of_same (hL _)))
        go_wp2
        go_ret
        exact ⟨ret_bool (by rw [HR.out]; exact HR.out), _, rfl⟩
    · by_cases ea : a = 99
      · have HR : Hid (decide (a = ltr 3) = true) := by show _ = _; rw [ea]; rfl
        clear ea hE
        go_enter Tryd.func66, Tryd.ntmps66
        go_wp2
        go_quiet (first | (go_at_call 91; exact Calls.quiet_of_same (hI _)) | (go_at_call 92; exact Calls.quiet_of_same (hL _)))
        go_wp2
        go_ret
        exact ⟨ret_bool (by rw [HR.out]; exact HR.out), _, rfl⟩
      · have HR : Hid (decide (a = ltr 3) = false) := by show _ = _; exact decide_eq_false ea
        clear ea hE
        go_enter Tryd.func66, Tryd.ntmps66
        go_wp2
        go_quiet (first | (go_at_call 91; exact Calls.quiet_of_same (hI _)) | (go_at_call 92; exact Calls.quiet_of_same (hL _)))
        go_wp2
        go_ret
        exact ⟨ret_bool (by rw [HR.out]; exact HR.out), _, rfl⟩
/-- The fault of an entry. -/
def ek (x1 : Int) : Int := if x1 = 3 then 2 else 1
def ef (x0 : ByteArray) (x1 : Int) (x2 : ByteArray) : Int := if nf x0 = 0 then (if inB x1 1 3 = true then (if isOf (ek x1) x2 = true then 0 else 1) else 3) else nf x0
end Go.Proofs.YtnififnogdekiabDoor
