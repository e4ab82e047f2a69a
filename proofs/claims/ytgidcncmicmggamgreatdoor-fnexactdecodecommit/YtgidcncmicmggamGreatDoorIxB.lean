/- The contract of strings.Index at a blank. No statement is proved here. -/
import Derived.Test.YtgidcncmicmggamGreatDoorRows
import Derived.Test.YtgidcncmicmggamGreatDoorLem
import Derived.Test.YtgidcncmicmggamGreatDoorLFLem
import Derived.Test.YtgidcncmicmggamGreatDoorIdxB
import Derived.WalkKit
import Derived.ProofKit
namespace Go.Proofs.YtgidcncmicmggamGreatDoor
open Go.ChangeShapes Go.WideShapes Go.ChangeAt Go.RowKit

theorem sliteIdxB (s : ByteArray) (c : Int) (w : World) :
    Calls Tryz.prog 182 #[.string s, .int .u8 c] w fun e w' => e = .returned (.int .i64 (Lib.indexByte s.data.toList c.toNat.toUInt8)) ∧ w' = w := by
  have h := idxEntry s c
  go_enter Tryz.func182, Tryz.ntmps182
  go_wp2
  go_ret
  exact ⟨rfl, rfl⟩
set_option maxRecDepth 20000 in
set_option maxHeartbeats 1000000 in
theorem sliteIndex32 (s : ByteArray) (w : World) :
    Calls Tryz.prog 183 #[.string s, .string ⟨#[32]⟩] w fun e w' => e = .returned (.int .i64 (Lib.indexByte s.data.toList 32)) ∧ w' = w := by
  have h := fun w => sliteIdxB s  32 w
  have e32 : (32 : Int).toNat.toUInt8 =  32 := rfl
  rw [e32] at h
  by_cases hq : (⟨#[32]⟩ : ByteArray) = s
  · subst hq
    have hR : Hid (Lib.indexByte (⟨#[32]⟩ : ByteArray).data.toList  32 = 0) := by show _ = _; rfl
    have hb : (([32] : List UInt8) == [32]) = true := rfl
    go_enter Tryz.func183, Tryz.ntmps183
    go_wp2
    go_ret
    exact ⟨ret_int hR.out.symm, rfl⟩
  · have hb : (([32] : List UInt8) == s.toList) = false := by
      have := beq_bytes_false hq
      rwa [ByteArray.toList_eq] at this
    obtain ⟨i, hi⟩ : ∃ i, Lib.indexByte s.data.toList  32 = i := ⟨_, rfl⟩
    rw [hi] at h ⊢
    clear hi
    go_enter Tryz.func183, Tryz.ntmps183
    go_wp2_with (go_at_call 182; refine (h _).mono ?_; rintro e w' ⟨rfl, rfl⟩)
    go_ret
    exact ⟨rfl, rfl⟩
theorem index32 (s : ByteArray) (w : World) :
    Calls Tryz.prog 227 #[.string s, .string ⟨#[32]⟩] w fun e w' => e = .returned (.int .i64 (Lib.indexByte s.data.toList 32)) ∧ w' = w := by
  have h := fun w => sliteIndex32 s w
  obtain ⟨i, hi⟩ : ∃ i, Lib.indexByte s.data.toList  32 = i := ⟨_, rfl⟩
  rw [hi] at h ⊢
  clear hi
  go_enter Tryz.func227, Tryz.ntmps227
  go_wp2_with (go_at_call 183; refine (h _).mono ?_; rintro e w' ⟨rfl, rfl⟩)
  go_ret
  exact ⟨rfl, rfl⟩
end Go.Proofs.YtgidcncmicmggamGreatDoor
