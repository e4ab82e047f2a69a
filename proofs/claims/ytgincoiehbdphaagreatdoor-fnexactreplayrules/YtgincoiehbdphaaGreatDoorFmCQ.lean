/- Small contracts: which modes files have, which stages entries have. No statement is proved here. -/
import Derived.Test.YtgincoiehbdphaaGreatDoorDTabQ
import Derived.Laws.Cover1
import Derived.OpenShut
import Derived.ShutString
namespace Go.Proofs.YtgincoiehbdphaaGreatDoor
open Go.ChangeShapes Go.WideShapes Go.ChangeAt Go.RowKit
theorem mode_yes {x : Int} (h : inB x 1 2 = true) : x = 1 \/ x = 2 := by
 unfold inB at h
 simp at h
 omega
theorem mode_no {x : Int} (h : inB x 1 2 = false) : (x == 1) = false /\ (x == 2) = false := by
 refine ⟨?_, ?_⟩
 ·cases e : x == 1 with
  | false => rfl
  | true => simp at e; subst e; simp [inB] at h
 ·cases e : x == 2 with
  | false => rfl
  | true => simp at e; subst e; simp [inB] at h
theorem isFileModeC (x : Int) (w : World) : Calls Tryz.prog 110 #[.int .i64 x] w fun e w' => e = .returned (.bool (inB x 1 2)) /\ w' = w := by
 cases h : inB x 1 2 with
 | true =>
  rcases mode_yes h with rfl | rfl
  ·clear h
   go_enter Tryz.func110, Tryz.ntmps110
   go_wp2
   go_ret
   exact ⟨rfl, rfl⟩
  ·clear h
   go_enter Tryz.func110, Tryz.ntmps110
   go_wp2
   go_ret
   exact ⟨rfl, rfl⟩
 | false =>
  obtain ⟨h1, h2⟩ := mode_no h
  clear h
  go_enter Tryz.func110, Tryz.ntmps110
  go_wp2
  go_ret
  exact ⟨rfl, rfl⟩
theorem l10ModeC (x : Int) (w : World) : Calls Tryz.prog 96 #[.int .i64 x] w fun e w' => e = .returned (.bool (inB x 1 2)) /\ w' = w := by
 cases h : inB x 1 2 with
 | true =>
  rcases mode_yes h with rfl | rfl
  ·clear h
   go_enter Tryz.func96, Tryz.ntmps96
   go_wp2
   go_ret
   exact ⟨rfl, rfl⟩
  ·clear h
   go_enter Tryz.func96, Tryz.ntmps96
   go_wp2
   go_ret
   exact ⟨rfl, rfl⟩
 | false =>
  obtain ⟨h1, h2⟩ := mode_no h
  clear h
  go_enter Tryz.func96, Tryz.ntmps96
  go_wp2
  go_ret
  exact ⟨rfl, rfl⟩
theorem isStageC (x : Int) (w : World) : Calls Tryz.prog 109 #[.int .i64 x] w fun e w' => e = .returned (.bool (inB x 0 3)) /\ w' = w := by
 by_cases h0 : 0 <= x
 ·by_cases h1 : x <= 3
  ·have HR : Hid (inB x 0 3 = true) := decide_eq_true ⟨h0, h1⟩
   go_enter Tryz.func109, Tryz.ntmps109
   go_wp2
   go_ret
   exact ⟨ret_bool HR.out.symm, rfl⟩
  ·have HR : Hid (inB x 0 3 = false) := decide_eq_false (fun q => h1 q.2)
   go_enter Tryz.func109, Tryz.ntmps109
   go_wp2
   go_ret
   exact ⟨ret_bool HR.out.symm, rfl⟩
 ·have HR : Hid (inB x 0 3 = false) := decide_eq_false (fun q => h0 q.1)
  go_enter Tryz.func109, Tryz.ntmps109
  go_wp2
  go_ret
  exact ⟨ret_bool HR.out.symm, rfl⟩
end Go.Proofs.YtgincoiehbdphaaGreatDoor
namespace Go.Proofs.YtgincoiehbdphaaGreatDoor
open Go.ChangeShapes Go.WideShapes Go.ChangeAt Go.RowKit
def binB (l : List UInt8) : Bool := decide ((0 : UInt8) ∈ l)
theorem mem_snoc (l : List UInt8) (c : UInt8) (h : ¬ (0 : UInt8) ∈ l) (hc : ¬ (c.toNat : Int) = 0) : ¬ (0 : UInt8) ∈ l ++ [c] := by
 have : ¬ c = 0 := by intro h; apply hc; rw [h]; rfl
 simp only [List.mem_append, List.mem_singleton, not_or]
 exact ⟨h, fun e => this e.symm⟩
set_option maxHeartbeats 400000 in
theorem specIsBinary (s : ByteArray) (w : World) (hs : s.size <= maxLen) :
  Calls Tryz.prog 101 #[.string s] w fun e w' => e = .returned (.bool (binB s.data.toList)) /\ w' = w := by
 unfold maxLen at hs
 go_enter Tryz.func101, Tryz.ntmps101
 go_wp2
 go_loop [3] (fun i => ∃ k : Nat, k <= s.size /\ i = .int .i64 k /\ Hid (¬ (0 : UInt8) ∈ s.data.toList.take k)) (fun i => s.size - (intOf i).toNat)
 case atStart => exact ⟨0, Nat.zero_le _, rfl, by simp [Hid]⟩
 case round =>
  obtain ⟨k, hk, rfl, hn⟩ := hrel
  by_cases hlt : k < s.size
  ·by_cases hz : ((s[k].toNat : Int) == 0) = true
   ·have hm : Hid ((0 : UInt8) ∈ s.data.toList) := by
     have : s[k] = 0 := by
      apply UInt8.toNat_inj.1
      have := of_decide_eq_true hz
      simpa using this
     show (0 : UInt8) ∈ s.data.toList
     rw [<- this]
     exact List.getElem_mem _
    go_wp2
    go_ret
    exact ⟨ret_bool (decide_eq_true hm.out).symm, rfl⟩
   ·have hz' : ((s[k].toNat : Int) == 0) = false := by simpa using hz
    have hn' : Hid (¬ (0 : UInt8) ∈ s.data.toList.take (k + 1)) := by
     show ¬ _
     rw [take_snoc s k hlt]
     exact mem_snoc _ _ hn.out (by simpa using hz)
    clear hz hn
    go_wp2
    go_round
    case rel => exact ⟨k + 1, by omega, by go_num, hn'⟩
    case measure => simp [intOf]; omega
  ·have hn2 : Hid (¬ (0 : UInt8) ∈ s.data.toList) := by
    have := hn.out
    rw [List.take_of_length_le (by simp; omega)] at this
    exact this
   go_wp2
   go_ret
   exact ⟨ret_bool (decide_eq_false hn2.out).symm, rfl⟩
theorem implIsBinary (s : ByteArray) (w : World) :
  Calls Tryz.prog 164 #[.string s] w fun e w' => e = .returned (.bool (binB s.data.toList)) /\ w' = w := by
 go_enter Tryz.func164, Tryz.ntmps164
 go_wp2_with (go_at_call 175; refine (indexByte _ _ _).mono ?_; rintro e w' ⟨rfl, rfl⟩)
 go_ret
 exact ⟨ret_bool (by unfold binB; rw [decide_eq_decide]; exact indexByte_mem _ _), rfl⟩
end Go.Proofs.YtgincoiehbdphaaGreatDoor
