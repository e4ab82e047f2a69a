/- The contracts of the laws' helpers over lists of entries (szTreeEntryS, toTreeEntryS, eqTreeEntryS). No statement is proved here. -/
import Derived.Test.YtibgfngicijnlalGreatDoorRows
import Derived.Test.YtibgfngicijnlalGreatDoorLem
import Derived.Test.YtibgfngicijnlalGreatDoorStrs
import Derived.Test.YtibgfngicijnlalGreatDoorDTab
import Derived.Test.YtibgfngicijnlalGreatDoorOwn
import Derived.Test.YtibgfngicijnlalGreatDoorFr
import Derived.Test.YtibgfngicijnlalGreatDoorTeL
import Derived.WalkKit
import Derived.ProofKit
import Derived.Below
import Derived.WalkSpells
import Derived.Deep.QuietTactic
import Derived.BigQuiet
import Derived.Deep.RegionWith
namespace Go.Proofs.YtibgfngicijnlalGreatDoor.Te
open Go.ChangeShapes Go.WideShapes Go.ChangeAt Go.RowKit

theorem beqSelf (s : ByteArray) : (s.toList == s.toList) = true := beq_bytes_true rfl
set_option maxHeartbeats 1000000 in
theorem eqTreeEntry (s t : ByteArray) (k : Int) (w : World) :
    Calls Tryz.prog 28 #[.agg #[.string s, .int .i64 k, .string t], .agg #[.string s, .int .i64 k, .string t]] w fun e w' => e = .returned (.bool true) ∧ Below w.heap.size w w' := by
  have hb := beqSelf s
  have hc := beqSelf t
  go_enter Tryz.func28, Tryz.ntmps28
  go_wp2
  go_ret
  exact ⟨rfl, ((Below.refl _ _).alloc (Nat.le_refl _) _).alloc (by simp) _⟩
set_option maxRecDepth 20000 in
set_option maxHeartbeats 2000000 in
theorem eqTreeEntryS (a1 a2 : Option Addr) (c1 c2 : Nat) (l : List Ob) (w : World) (h1 : OB w.heap.size w a1 l) (h2 : OB w.heap.size w a2 l) (hn : l.length ≤ 1048576) :
    Calls Tryz.prog 12 #[.slice a1 l.length c1, .slice a2 l.length c2] w fun e w' => e = .returned (.bool true) ∧ Below w.heap.size w w' := by
  have hl : ((l.length : Int) != (l.length : Int)) = false := by simp
  go_enter Tryz.func12, Tryz.ntmps12
  go_wp2
  go_loopw [5] (fun i wr => ∃ k : Nat, k ≤ l.length ∧ i = .int .i64 k ∧ Below w.heap.size w wr) (fun i _ => l.length - (intOf i).toNat)
  case atStart => exact ⟨0, Nat.zero_le _, rfl, Below.refl _ _⟩
  case round =>
    obtain ⟨k, hk, rfl, hbel⟩ := hrel
    have hsz := hbel.size
    by_cases hlt : k < l.length
    · have q : (k : Int) < (l.length : Int) := by omega
      obtain ⟨g, off, e, _, d0, d1, d2⟩ := h1.below hbel k hlt
      obtain ⟨g', off', e', _, f0, f1, f2⟩ := h2.below hbel k hlt
      subst e e'
      obtain ⟨C, hCe⟩ : ∃ C, l.getD k onil = C := ⟨_, rfl⟩
      obtain ⟨x0, x1, x2⟩ := C
      rw [hCe] at d0 d1 d2 f0 f1 f2
      simp only [] at d0 d1 d2 f0 f1 f2
      clear hCe h1 h2
      go_wp2
      go_region_with (go_at_call 28; refine (eqTreeEntry x0 x2 x1 _).mono ?_; rintro e w' ⟨rfl, b⟩)
      all_goals
        have b' : Below wr.heap.size wr w' := (below_drew (Below.refl wr.heap.size wr)).trans b
        have HB : Hid (Below w.heap.size w w') := below_step hbel hsz b'
        clear d0 d1 d2 f0 f1 f2 b b' hbel
        go_wp2
        go_roundw
        case rel => exact ⟨k + 1, by omega, by go_num, by first | exact HB.out | exact below_drew HB.out | exact below_drewN' HB.out _⟩
        case measure => first | (simp [intOf]; omega) | simp [intOf]
    · have q : ¬ (k : Int) < (l.length : Int) := by omega
      go_wp2
      go_ret
      exact ⟨rfl, hbel⟩
end Go.Proofs.YtibgfngicijnlalGreatDoor.Te
