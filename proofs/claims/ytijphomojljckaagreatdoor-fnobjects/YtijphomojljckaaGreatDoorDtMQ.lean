/- The contract of the program's modeOf. No statement is proved here. -/
import Derived.Test.YtijphomojljckaaGreatDoorRows
import Derived.Test.YtijphomojljckaaGreatDoorLemQ
import Derived.Test.YtijphomojljckaaGreatDoorTrCQ
import Derived.Test.YtijphomojljckaaGreatDoorDtLQ
import Derived.WalkKit
import Derived.ProofKit
import Derived.Below
import Derived.WalkSpells
namespace Go.Proofs.YtijphomojljckaaGreatDoor.Te
open Go.ChangeShapes Go.WideShapes Go.ChangeAt Go.RowKit

theorem md_one {s : ByteArray} (h : s = ⟨#[102, 105, 108, 101]⟩) : md s.data.toList = 1 := by subst h; rfl
theorem md_two {s : ByteArray} (h : s = ⟨#[114, 117, 110]⟩) : md s.data.toList = 2 := by subst h; rfl
theorem md_three {s : ByteArray} (h : s = ⟨#[116, 114, 101, 101]⟩) : md s.data.toList = 3 := by subst h; rfl
theorem md_none {s : ByteArray} (h1 : ¬ s = ⟨#[102, 105, 108, 101]⟩) (h2 : ¬ s = ⟨#[114, 117, 110]⟩) (h3 : ¬ s = ⟨#[116, 114, 101, 101]⟩) : md s.data.toList = 0 := by
  have k : ∀ l : List UInt8, s.data.toList = l → s = ⟨l.toArray⟩ := fun l e => by rw [← e]
  unfold md
  rw [if_neg (fun e => h1 (k _ e)), if_neg (fun e => h2 (k _ e)), if_neg (fun e => h3 (k _ e))]
theorem ne_sym {b : ByteArray} {l : List UInt8} (h : ¬ b = ⟨l.toArray⟩) : (l == b.toList) = false := by
  have := beq_bytes_false (a := ⟨l.toArray⟩) (b := b) (fun e => h e.symm)
  rwa [ByteArray.toList_eq] at this
set_option maxHeartbeats 1000000 in
theorem modeOfC (s : ByteArray) (w : World) (hg : MwG w) :
    Calls Tryz.prog 44 #[.string s] w fun e w' => e = .returned (.int .i64 (md s.data.toList)) ∧ w' = w := by
  obtain ⟨c0, c1, c2⟩ := hg
  have q1 := md_one (s := s)
  have q2 := md_two (s := s)
  have q3 := md_three (s := s)
  have q0 := md_none (s := s)
  obtain ⟨M, hM⟩ : ∃ M, md s.data.toList = M := ⟨_, rfl⟩
  rw [hM] at q1 q2 q3 q0 ⊢
  clear hM
  by_cases e1 : s = ⟨#[102, 105, 108, 101]⟩
  · have HM : Hid (M = 1) := q1 e1
    clear q1 q2 q3 q0
    subst e1
    go_enter Tryz.func44, Tryz.ntmps44
    go_wp2
    go_loopw [3, 4] (fun _ i wr => i = .int .i64 0 ∧ wr = w) (fun _ _ _ => 0)
    case atStart => exact ⟨rfl, rfl⟩
    case round =>
      obtain ⟨rfl, rfl⟩ := hrel
      go_wp2
      go_ret
      exact ⟨ret_int HM.out.symm, rfl⟩
  have b1 := ne_sym (l := [102, 105, 108, 101]) e1
  by_cases e2 : s = ⟨#[114, 117, 110]⟩
  · have HM : Hid (M = 2) := q2 e2
    clear q1 q2 q3 q0 e1
    subst e2
    go_enter Tryz.func44, Tryz.ntmps44
    go_wp2
    go_loopw [3, 4] (fun _ i wr => (i = .int .i64 0 ∨ i = .int .i64 1) ∧ wr = w) (fun _ i _ => 2 - (intOf i).toNat)
    case atStart => exact ⟨.inl rfl, rfl⟩
    case round =>
      obtain ⟨rfl | rfl, rfl⟩ := hrel
      · go_wp2
        go_roundw
        case rel => exact ⟨.inr rfl, trivial⟩
        case measure => simp [intOf]
      · go_wp2
        go_ret
        exact ⟨ret_int HM.out.symm, rfl⟩
  have b2 := ne_sym (l := [114, 117, 110]) e2
  by_cases e3 : s = ⟨#[116, 114, 101, 101]⟩
  · have HM : Hid (M = 3) := q3 e3
    clear q1 q2 q3 q0 e1 e2
    subst e3
    go_enter Tryz.func44, Tryz.ntmps44
    go_wp2
    go_loopw [3, 4] (fun _ i wr => (i = .int .i64 0 ∨ i = .int .i64 1 ∨ i = .int .i64 2) ∧ wr = w) (fun _ i _ => 3 - (intOf i).toNat)
    case atStart => exact ⟨.inl rfl, rfl⟩
    case round =>
      obtain ⟨rfl | rfl | rfl, rfl⟩ := hrel
      · go_wp2
        go_roundw
        case rel => exact ⟨.inr (.inl rfl), trivial⟩
        case measure => simp [intOf]
      · go_wp2
        go_roundw
        case rel => exact ⟨.inr (.inr rfl), trivial⟩
        case measure => simp [intOf]
      · go_wp2
        go_ret
        exact ⟨ret_int HM.out.symm, rfl⟩
  have b3 := ne_sym (l := [116, 114, 101, 101]) e3
  have HM : Hid (M = 0) := q0 e1 e2 e3
  clear q1 q2 q3 q0 e1 e2 e3
  go_enter Tryz.func44, Tryz.ntmps44
  go_wp2
  go_loopw [3, 4] (fun _ i wr => (i = .int .i64 0 ∨ i = .int .i64 1 ∨ i = .int .i64 2 ∨ i = .int .i64 3) ∧ wr = w) (fun _ i _ => 3 - (intOf i).toNat)
  case atStart => exact ⟨.inl rfl, rfl⟩
  case round =>
    obtain ⟨rfl | rfl | rfl | rfl, rfl⟩ := hrel
    · go_wp2
      go_roundw
      case rel => exact ⟨.inr (.inl rfl), trivial⟩
      case measure => simp [intOf]
    · go_wp2
      go_roundw
      case rel => exact ⟨.inr (.inr (.inl rfl)), trivial⟩
      case measure => simp [intOf]
    · go_wp2
      go_roundw
      case rel => exact ⟨.inr (.inr (.inr rfl)), trivial⟩
      case measure => simp [intOf]
    · go_wp2
      go_ret
      exact ⟨ret_int HM.out.symm, rfl⟩
end Go.Proofs.YtijphomojljckaaGreatDoor.Te
