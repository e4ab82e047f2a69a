/- The contracts of the laws' helpers over FilesResult. No statement is proved here. -/
import Derived.Test.YtaggjnaogmhfpaaDoorRows
import Derived.Test.YtaggjnaogmhfpaaDoorLemQ
import Derived.Test.YtaggjnaogmhfpaaDoorMarksQ
import Derived.Test.YtaggjnaogmhfpaaDoorDTabQ
import Derived.Test.YtaggjnaogmhfpaaDoorInQ
import Derived.Test.YtaggjnaogmhfpaaDoorFlLQ
import Derived.Test.YtaggjnaogmhfpaaDoorFlTQ
import Derived.Test.YtaggjnaogmhfpaaDoorFlMQ
import Derived.WalkKit
import Derived.ProofKit
import Derived.Below
import Derived.WalkSpells
import Derived.Deep.RegionWith
namespace Go.Proofs.YtaggjnaogmhfpaaDoor.Fl
open Go.ChangeShapes Go.WideShapes Go.ChangeAt Go.RowKit

set_option maxHeartbeats 1000000 in
theorem eqFilesResult (c : Int) (a1 a2 : Option Addr) (k1 k2 : Nat) (l : List Ob) (w : World) (h1 : OB w.heap.size w a1 l) (h2 : OB w.heap.size w a2 l) (hn : l.length ≤ 1048576) :
    Calls Tryd.prog 18 #[.agg #[.int .i64 c, .slice a1 l.length k1], .agg #[.int .i64 c, .slice a2 l.length k2]] w fun e w' => e = .returned (.bool true) ∧ Below w.heap.size w w' := by
  have hcc : (c != c) = false := by simp
  have hB : Below w.heap.size w ((w.alloc (.cells #[.int .i64 c, .slice a1 l.length k1] 38)).alloc (.cells #[.int .i64 c, .slice a2 l.length k2] 38)) := ((Below.refl _ _).alloc (Nat.le_refl _) _).alloc (by simp) _
  have hE := fun w h1 h2 => eqFileS a1 a2 k1 k2 l w h1 h2 hn
  go_enter Tryd.func18, Tryd.ntmps18
  go_wp2_with fail
  refine (hE _ ((h1.below hB).mono hB.size) ((h2.below hB).mono hB.size)).mono ?_; rintro e w1 ⟨rfl, b1⟩
  have B1 : Hid (Below w.heap.size w w1) := hB.trans (b1.mono hB.size)
  clear b1 hE hB
  go_wp2_with fail
  go_ret
  exact ⟨rfl, B1.out⟩

set_option maxHeartbeats 1000000 in
theorem markFilesResult (lo hi : Nat) (c : Int) (a : Option Addr) (n cap m : Nat) (xs : List Value) (w : World) (h1 : 1 ≤ m) (h2 : m + 3 * n ≤ 4194304)
    (ho : w.ownsRow lo 52 3 (.slice a n cap) n xs) (b1 : ∀ j, (Value.slice a n cap).ownBlock = some j → j < hi) :
    Calls Tryd.prog 21 #[.agg #[.int .i64 c, .slice a n cap], .int .i64 m] w fun e w' => e = .returned (.int .i64 ((m + 3 * n : Nat) : Int)) ∧
      w'.ownsRow lo 52 3 (.slice a n cap) n (ocells (mkO m n)) ∧ Fr lo hi w w' := by
  go_enter Tryd.func21, Tryd.ntmps21
  go_wp2_with fail
  refine (markFileS lo _ _ _ _ _ _ h1 h2 (ho.alloc _)).mono ?_; rintro e w1 ⟨rfl, ho1, hg1⟩
  have hF1 : Fr lo hi w w1 := (Fr.ofAlloc _ _).trans (Fr.ofGrown hg1 (fun j hj => ⟨(ho.lt j hj).1, b1 j hj⟩))
  clear hg1
  go_wp2_with fail
  go_ret
  exact ⟨rfl, ho1, hF1⟩

set_option maxRecDepth 20000 in
set_option maxHeartbeats 4000000 in
theorem heldFileS (a : Option Addr) (n cap m : Nat) (w : World) (h1 : 1 ≤ m) (h2 : m + 3 * n ≤ 4194304) (hs : OB w.heap.size w a (mkO m n)) :
    Calls Tryd.prog 44 #[.slice a n cap, .int .i64 m] w fun e w' => e = .returned (.int .i64 ((m + 3 * n : Nat) : Int)) ∧ Below w.heap.size w w' := by
  go_enter Tryd.func44, Tryd.ntmps44
  go_wp2
  go_loopw [1, 5] (fun t i wr => ∃ k : Nat, k ≤ n ∧ i = .int .i64 k ∧ t = .int .i64 ((m + 3 * k : Nat) : Int) ∧ Below w.heap.size w wr) (fun _ i _ => n - (intOf i).toNat)
  case atStart => exact ⟨0, Nat.zero_le _, rfl, rfl, Below.refl _ _⟩
  case round =>
    obtain ⟨k, hk, rfl, rfl, hbr⟩ := hrel
    have hsz := hbr.size
    by_cases hlt : k < n
    · have q : (k : Int) < (n : Int) := by omega
      obtain ⟨g, off, e, hg, d0, d1, d2⟩ := hs.below hbr k (by rw [mkO_length]; exact hlt)
      subst e
      rw [mkO_at m n k hlt] at d0 d1 d2
      simp only [] at d0 d1 d2
      have hM0 := fun w => markText (m + 3 * k) (by omega) (by omega) w
      have hM2 := fun w => markText (m + 3 * k + 2) (by omega) (by omega) w
      obtain ⟨t0, ht0⟩ : ∃ t, mtxt (m + 3 * k) = t := ⟨_, rfl⟩
      obtain ⟨t2, ht2⟩ : ∃ t, mtxt (m + 3 * k + 2) = t := ⟨_, rfl⟩
      obtain ⟨M, hMe⟩ : ∃ M, m + 3 * k = M := ⟨_, rfl⟩
      rw [hMe] at hM0 hM2 ht0 ht2 d0 d1 d2 ⊢
      rw [ht0] at hM0 d0
      rw [ht2] at hM2 d2
      have HMe : Hid (m + 3 * (k + 1) = M + 3) := by show _ = _; omega
      have hMb : M + 3 ≤ 4194304 := by omega
      obtain ⟨V, hV⟩ : ∃ V : Int, (M : Int) = V := ⟨_, rfl⟩
      have HV : Hid ((M : Int) = V) := hV
      have hV1 : ((M + 1 : Nat) : Int) = V + 1 := by omega
      have hV2 : ((M + 2 : Nat) : Int) = V + 1 + 1 := by omega
      rw [hV] at hM0 ⊢
      rw [hV1] at d1
      rw [hV2] at hM2
      have hVp : 0 ≤ V := by omega
      have hVl : V < 16777216 := by omega
      have e0 := beq_bytes_true (rfl : t0 = t0)
      have e2 := beq_bytes_true (rfl : t2 = t2)
      have e1 : (V + 1 != V + 1) = false := by simp
      have hgw : g < wr.heap.size := by omega
      have HB0 : Hid (Below w.heap.size w wr) := hbr
      clear ht0 ht2 hMe hV hV1 hV2 hs hbr
      go_wp2
      go_region_with (go_at_call 34; refine (hM0 _).mono ?_; rintro e w1 ⟨rfl, b1⟩; have x0 := (b1.cell (p := ⟨g, off + k * 3, none⟩) hgw).trans d0; have x1 := (b1.cell (p := ⟨g, off + k * 3 + 1, none⟩) hgw).trans d1; have x2 := (b1.cell (p := ⟨g, off + k * 3 + 2, none⟩) hgw).trans d2; have s1 := b1.size; have HB1 : Hid (Below w.heap.size w w1) := HB0.out.drew.trans (b1.mono HB0.out.size))
      all_goals
        have hgw1 : g < w1.heap.size := Nat.lt_of_lt_of_le hgw s1
        clear d0 d1 d2 b1 hM0 s1
        go_wp2
        go_region_with (go_at_call 34; refine (hM2 _).mono ?_; rintro e w2 ⟨rfl, b2⟩; have y2 := (b2.cell (p := ⟨g, off + k * 3 + 2, none⟩) hgw1).trans x2; have HB2 : Hid (Below w.heap.size w w2) := HB1.out.drew.trans (b2.mono HB1.out.size))
        all_goals
          clear x0 x1 x2 b2 hM2
          go_wp2
          go_roundw
          case rel => exact ⟨k + 1, by omega, by first | rfl | go_num, by rw [HMe.out]; have := HV.out; first | go_num | (congr 1; omega), HB2.out⟩
          case measure => first | (simp [intOf]; omega) | simp [intOf]
    · have e : k = n := by omega
      subst e
      go_wp2
      go_ret
      exact ⟨rfl, hbr⟩

set_option maxHeartbeats 1000000 in
theorem heldFilesResult (c : Int) (a : Option Addr) (n cap m : Nat) (w : World) (h1 : 1 ≤ m) (h2 : m + 3 * n ≤ 4194304) (hs : OB w.heap.size w a (mkO m n)) :
    Calls Tryd.prog 22 #[.agg #[.int .i64 c, .slice a n cap], .int .i64 m] w fun e w' => e = .returned (.int .i64 ((m + 3 * n : Nat) : Int)) ∧ Below w.heap.size w w' := by
  have hB : ∀ o, Below w.heap.size w (w.alloc o) := fun o => (Below.refl _ _).alloc (Nat.le_refl _) _
  have hA := fun W hW => heldFileS a n cap m W h1 h2 hW
  obtain ⟨M, hM⟩ : ∃ M : Int, ((m + 3 * n : Nat) : Int) = M := ⟨_, rfl⟩
  have hp : ¬ M < 0 := by omega
  rw [hM] at hA ⊢
  clear hM
  go_enter Tryd.func22, Tryd.ntmps22
  go_wp2_with fail
  refine (hA _ ((hs.below (hB _)).mono (by simp))).mono ?_; rintro e w1 ⟨rfl, b1⟩
  have BB := (hB (.cells #[.int .i64 c, .slice a n cap] 38)).trans (b1.mono (by simp))
  clear b1
  go_wp2_with fail
  go_ret
  exact ⟨rfl, BB⟩
theorem obMk {w : World} {base n c m : Nat} {a : Option Addr} (h : w.ownsRow base 52 3 (.slice a n c) n (ocells (mkO m n))) : OB w.heap.size w a (mkO m n) :=
  OB.of (c := c) (base := base) (by rw [mkO_length]; exact h)
end Go.Proofs.YtaggjnaogmhfpaaDoor.Fl
