/- The contract of strings.Index at a text of one byte. No statement is proved here. -/
import Derived.Test.YtaggjnaogmhfpaaDoorRows
import Derived.Test.YtaggjnaogmhfpaaDoorLemQ
import Derived.Test.YtaggjnaogmhfpaaDoorIdxBQ
import Derived.WalkKit
import Derived.ProofKit
namespace Go.Proofs.YtaggjnaogmhfpaaDoor
open Go.ChangeShapes Go.WideShapes Go.ChangeAt Go.RowKit

theorem sliteIdx (s : ByteArray) (c : Int) (w : World) :
    Calls Tryd.prog 105 #[.string s, .int .u8 c] w fun e w' => e = .returned (.int .i64 (Lib.indexByte s.data.toList c.toNat.toUInt8)) ∧ w' = w := by
  have h := idxEntry s c
  go_enter Tryd.func105, Tryd.ntmps105
  go_wp2
  go_ret
  exact ⟨rfl, rfl⟩
set_option maxRecDepth 20000 in
set_option maxHeartbeats 1000000 in
theorem sliteIndex47 (s : ByteArray) (w : World) :
    Calls Tryd.prog 108 #[.string s, .string ⟨#[47]⟩] w fun e w' => e = .returned (.int .i64 (Lib.indexByte s.data.toList 47)) ∧ w' = w := by
  have h := fun w => sliteIdx s 47 w
  have e47 : (47 : Int).toNat.toUInt8 = 47 := rfl
  rw [e47] at h
  by_cases hq : (⟨#[47]⟩ : ByteArray) = s
  · subst hq
    have hR : Hid (Lib.indexByte (⟨#[47]⟩ : ByteArray).data.toList 47 = 0) := by show _ = _; rfl
    have hb : (([47] : List UInt8) == [47]) = true := rfl
    go_enter Tryd.func108, Tryd.ntmps108
    go_wp2
    go_ret
    exact ⟨ret_int hR.out.symm, rfl⟩
  · have hb : (([47] : List UInt8) == s.toList) = false := by
      have := beq_bytes_false hq
      rwa [ByteArray.toList_eq] at this
    obtain ⟨i, hi⟩ : ∃ i, Lib.indexByte s.data.toList 47 = i := ⟨_, rfl⟩
    rw [hi] at h ⊢
    clear hi
    go_enter Tryd.func108, Tryd.ntmps108
    go_wp2_with (go_at_call 105; refine (h _).mono ?_; rintro e w' ⟨rfl, rfl⟩)
    go_ret
    exact ⟨rfl, rfl⟩
theorem index47 (s : ByteArray) (w : World) :
    Calls Tryd.prog 104 #[.string s, .string ⟨#[47]⟩] w fun e w' => e = .returned (.int .i64 (Lib.indexByte s.data.toList 47)) ∧ w' = w := by
  have h := fun w => sliteIndex47 s w
  obtain ⟨i, hi⟩ : ∃ i, Lib.indexByte s.data.toList 47 = i := ⟨_, rfl⟩
  rw [hi] at h ⊢
  clear hi
  go_enter Tryd.func104, Tryd.ntmps104
  go_wp2_with (go_at_call 108; refine (h _).mono ?_; rintro e w' ⟨rfl, rfl⟩)
  go_ret
  exact ⟨rfl, rfl⟩
end Go.Proofs.YtaggjnaogmhfpaaDoor
