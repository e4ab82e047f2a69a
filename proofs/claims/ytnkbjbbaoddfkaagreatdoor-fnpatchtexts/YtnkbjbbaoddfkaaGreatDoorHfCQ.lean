/- Lists of hunks in memory, and the contracts of what HunksFault calls. No statement is proved here. -/
import Derived.Test.YtnkbjbbaoddfkaaGreatDoorRows
import Derived.Test.YtnkbjbbaoddfkaaGreatDoorLemQ
import Derived.Test.YtnkbjbbaoddfkaaGreatDoorLFLemQ
import Derived.Test.YtnkbjbbaoddfkaaGreatDoorHkTQ
import Derived.Test.YtnkbjbbaoddfkaaGreatDoorDTabQ
import Derived.Test.YtnkbjbbaoddfkaaGreatDoorHkLQ
import Derived.Test.YtnkbjbbaoddfkaaGreatDoorHkCQ
import Derived.WalkKit
import Derived.ProofKit
import Derived.Below
import Derived.WalkSpells
namespace Go.Proofs.YtnkbjbbaoddfkaaGreatDoor
open Go.ChangeShapes Go.WideShapes Go.ChangeAt Go.RowKit

/-- A list of hunks that can be read: its cells, and the lines of each, lie below block B. -/
def HB (B : Nat) (w : World) (a : Option Addr) (l : List Hk) : Prop :=
  ∀ k, k < l.length → ∃ g off ak ck, a = some ⟨g, off, none⟩ ∧ g < B ∧ w.cell? ⟨g, off + k * 3, none⟩ = some (.int .i64 (l.getD k (0, 0, [])).1) ∧ w.cell? ⟨g, off + k * 3 + 1, none⟩ = some (.int .i64 (l.getD k (0, 0, [])).2.1) ∧
    w.cell? ⟨g, off + k * 3 + 2, none⟩ = some (.slice ak (l.getD k (0, 0, [])).2.2.length ck) ∧ SSB B w ak (l.getD k (0, 0, [])).2.2
theorem HB.fr {lo hi B : Nat} {w w' : World} {a : Option Addr} {l : List Hk} (h : HB B w a l) (hF : Fr lo hi w w') (hb : B ≤ lo ∨ hi ≤ lo) : HB B w' a l := fun k hk => by
  obtain ⟨g, off, ak, ck, e, hg, h0, h1, h2, h3⟩ := h k hk
  refine ⟨g, off, ak, ck, e, hg, hF.cell h0 (by omega), hF.cell h1 (by omega), hF.cell h2 (by omega), h3.1, fun j hj => ?_⟩
  obtain ⟨b, o, e', hb', hc⟩ := h3.2 j hj
  exact ⟨b, o, e', hb', hF.cell hc (by omega)⟩
theorem HB.below {B : Nat} {w w' : World} {a : Option Addr} {l : List Hk} (h : HB B w a l) (hb : Below w.heap.size w w') : HB B w' a l := h.fr (Fr.ofBelow (lo := 0) (hi := 0) hb) (.inr (Nat.le_refl _))
theorem HB.mono {B B' : Nat} {w : World} {a : Option Addr} {l : List Hk} (h : HB B w a l) (hB : B ≤ B') : HB B' w a l := fun k hk => by
  obtain ⟨g, off, ak, ck, e, hg, h0, h1, h2, h3⟩ := h k hk
  exact ⟨g, off, ak, ck, e, by omega, h0, h1, h2, h3.mono hB⟩
/-- Every list of lines is short. -/
def Shortly (l : List Hk) : Prop := ∀ h ∈ l, h.2.2.length ≤ 1048576

theorem isPlace (v : Int) (w : World) :
    Calls Tryz.prog 39 #[.int .i64 v] w fun e w' => e = .returned (.bool (inB v 0 100)) ∧ w' = w := by
  by_cases h1 : 0 ≤ v
  · have hE : Hid (inB v 0 100 = decide (v ≤ 100)) := by show _ = _; simp [inB, h1]
    go_enter Tryz.func39, Tryz.ntmps39
    go_wp2
    go_ret
    exact ⟨ret_bool hE.out.symm, rfl⟩
  · have hE : Hid (inB v 0 100 = false) := by show _ = _; simp [inB, h1]
    go_enter Tryz.func39, Tryz.ntmps39
    go_wp2
    go_ret
    exact ⟨ret_bool hE.out.symm, rfl⟩
theorem isChanged (s : ByteArray) (w : World) (hp : 0 < s.size) :
    Calls Tryz.prog 38 #[.string s] w fun e w' => e = .returned (.bool (chg1 s)) ∧ w' = w := by
  have e : chg1 s = ((s[0].toNat : Int) != 32) := by unfold chg1; rw [mark0_eq s hp]
  rw [e]
  have hz : (0 : Int) < (s.size : Int) := by omega
  clear e
  go_enter Tryz.func38, Tryz.ntmps38
  go_wp2
  go_ret
  exact ⟨rfl, rfl⟩

set_option maxHeartbeats 1000000 in
theorem indexFunc (a : Option Addr) (c : Nat) (ss : List ByteArray) (w : World) (hs : SS w a ss) (hn : ss.length ≤ 1048576) (hall : ss.all okH = true) :
    Calls Tryz.prog 60 #[.slice a ss.length c, .func (.func 38) #[] #[]] w fun e w' => (∃ r : Int, e = .returned (.int .i64 r) ∧ (0 ≤ r ↔ anyCh ss = true)) ∧ w' = w := by
  go_enter Tryz.func60, Tryz.ntmps60
  go_wp2
  go_loop [8] (fun i => ∃ k : Nat, k ≤ ss.length ∧ i = .int .i64 k ∧ Hid (anyCh (ss.take k) = false)) (fun i => ss.length - (intOf i).toNat)
  case atStart => exact ⟨0, Nat.zero_le _, rfl, by show _ = _; simp [anyCh]⟩
  case round =>
    obtain ⟨k, hk, rfl, hno⟩ := hrel
    by_cases hlt : k < ss.length
    · have q : (k : Int) < (ss.length : Int) := by omega
      obtain ⟨b, off, rfl, hb, hc⟩ := hs.2 k hlt
      have hst := anyCh_take hlt
      have hhit := fun h => anyCh_hit (k := k) hlt h
      have hp := okH_size (okTo_at hall hlt)
      obtain ⟨s, hse⟩ : ∃ s, ss.getD k ByteArray.empty = s := ⟨_, rfl⟩
      rw [hse] at hc hst hhit hp
      have hI := fun w => isChanged s w hp
      cases ho : chg1 s with
      | true =>
        have hC : Hid (anyCh ss = true) := hhit ho
        rw [ho] at hI
        clear hst hhit hse ho hno
        go_wp2_with fail
        refine (hI _).mono ?_; rintro e w' ⟨rfl, rfl⟩
        go_wp2
        go_ret
        exact ⟨⟨(k : Int), rfl, fun _ => hC.out, fun _ => by omega⟩, rfl⟩
      | false =>
        have hk1 : Hid (anyCh (ss.take (k + 1)) = false) := by show _ = _; rw [hst, hno.out, ho]; rfl
        rw [ho] at hI
        clear hst hhit hse ho hno
        go_wp2_with fail
        refine (hI _).mono ?_; rintro e w' ⟨rfl, rfl⟩
        go_wp2
        go_round
        case rel => exact ⟨k + 1, by omega, by go_num, hk1⟩
        case measure => first | (simp [intOf]; omega) | simp [intOf]
    · have q : ¬ (k : Int) < (ss.length : Int) := by omega
      have hC : Hid (anyCh ss = false) := by
        have := hno.out
        rw [List.take_of_length_le (by omega)] at this
        exact this
      go_wp2
      go_ret
      exact ⟨⟨-1, rfl, fun h => absurd h (by decide), fun h => by rw [hC.out] at h; cases h⟩, rfl⟩

theorem containsFunc (a : Option Addr) (c : Nat) (ss : List ByteArray) (w : World) (hs : SS w a ss) (hn : ss.length ≤ 1048576) (hall : ss.all okH = true) :
    Calls Tryz.prog 37 #[.slice a ss.length c, .func (.func 38) #[] #[]] w fun e w' => e = .returned (.bool (anyCh ss)) ∧ w' = w := by
  go_enter Tryz.func37, Tryz.ntmps37
  go_wp2_with fail
  refine (indexFunc a c ss _ hs hn hall).mono ?_; rintro e w' ⟨⟨r, rfl, hr⟩, rfl⟩
  have E : Hid (anyCh ss = decide (0 ≤ r)) := by
    show _ = _
    cases h : anyCh ss with
    | true => exact (decide_eq_true (hr.2 h)).symm
    | false => exact (decide_eq_false (fun h' => by rw [hr.1 h'] at h; cases h)).symm
  clear hr
  go_wp2
  go_ret
  exact ⟨ret_bool E.out.symm, rfl⟩
end Go.Proofs.YtnkbjbbaoddfkaaGreatDoor
