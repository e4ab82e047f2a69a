/- The contracts of the laws' helpers over DeltasResult. No statement is proved here. -/
import Derived.Test.YtaggjnaogmhfpaaDoorRows
import Derived.Test.YtaggjnaogmhfpaaDoorLemQ
import Derived.Test.YtaggjnaogmhfpaaDoorMarksQ
import Derived.Test.YtaggjnaogmhfpaaDoorDTabQ
import Derived.Test.YtaggjnaogmhfpaaDoorInQ
import Derived.Test.YtaggjnaogmhfpaaDoorDlLQ
import Derived.Test.YtaggjnaogmhfpaaDoorFlLQ
import Derived.Test.YtaggjnaogmhfpaaDoorFlTQ
import Derived.Test.YtaggjnaogmhfpaaDoorDlMQ
import Derived.WalkKit
import Derived.ProofKit
import Derived.Below
import Derived.WalkSpells
import Derived.Deep.RegionWith
namespace Go.Proofs.YtaggjnaogmhfpaaDoor.Dl
open Go.ChangeShapes Go.WideShapes Go.ChangeAt Go.RowKit

set_option maxRecDepth 20000 in
set_option maxHeartbeats 2000000 in
theorem eqDelta (x0 x1 : ByteArray) (x2 : Int) (x3 x4 : ByteArray) (x5 : Int) (x6 : ByteArray) (w : World) :
    Calls Tryd.prog 43 #[.agg #[.string x0, .string x1, .int .i64 x2, .string x3, .string x4, .int .i64 x5, .string x6], .agg #[.string x0, .string x1, .int .i64 x2, .string x3, .string x4, .int .i64 x5, .string x6]] w fun e w' => e = .returned (.bool true) ∧ Below w.heap.size w w' := by
  have hb := Fl.beqSelf x0
  obtain ⟨W, hW⟩ : ∃ W, (w.alloc (.cells #[.string x0, .string x1, .int .i64 x2, .string x3, .string x4, .int .i64 x5, .string x6] 55)).alloc (.cells #[.string x0, .string x1, .int .i64 x2, .string x3, .string x4, .int .i64 x5, .string x6] 55) = W := ⟨_, rfl⟩
  have B : Below w.heap.size w W := by rw [← hW]; exact ((Below.refl _ _).alloc (Nat.le_refl _) _).alloc (by simp) _
  have z : W.heap.size = w.heap.size + 2 := by rw [← hW]; simp
  have rA : Rf W w.heap.size [.string x0, .string x1, .int .i64 x2, .string x3, .string x4, .int .i64 x5, .string x6] := by
    rw [← hW]; exact (Rf.new w #[.string x0, .string x1, .int .i64 x2, .string x3, .string x4, .int .i64 x5, .string x6] 55).below (by simp) (allocBelow _ _)
  have rB : Rf W (w.heap.size + 1) [.string x0, .string x1, .int .i64 x2, .string x3, .string x4, .int .i64 x5, .string x6] := by
    have q := Rf.new (w.alloc (.cells #[.string x0, .string x1, .int .i64 x2, .string x3, .string x4, .int .i64 x5, .string x6] 55)) #[.string x0, .string x1, .int .i64 x2, .string x3, .string x4, .int .i64 x5, .string x6] 55
    rw [hW, World.size_alloc] at q
    exact q
  have a0 := rA.at_ 0 _ rfl
  have c0 := rB.at_ 0 _ rfl
  have a1 := rA.at_ 1 _ rfl
  have c1 := rB.at_ 1 _ rfl
  have a2 := rA.at_ 2 _ rfl
  have c2 := rB.at_ 2 _ rfl
  have a3 := rA.at_ 3 _ rfl
  have c3 := rB.at_ 3 _ rfl
  have a4 := rA.at_ 4 _ rfl
  have c4 := rB.at_ 4 _ rfl
  have a5 := rA.at_ 5 _ rfl
  have c5 := rB.at_ 5 _ rfl
  have a6 := rA.at_ 6 _ rfl
  have c6 := rB.at_ 6 _ rfl
  go_enter Tryd.func43, Tryd.ntmps43
  go_wp2_with fail
  refine (Fl.eqFile x1 x3 x2 _).mono ?_; rintro e w1 ⟨rfl, b1⟩
  have rA1 := rA.below (by omega) b1
  have rB1 := rB.below (by omega) b1
  have B1 := B.trans (b1.mono B.size)
  clear a0 c0 a1 c1 a2 c2 a3 c3 a4 c4 a5 c5 a6 c6 rA rB b1
  have a4 := rA1.at_ 4 _ rfl
  have c4 := rB1.at_ 4 _ rfl
  have a5 := rA1.at_ 5 _ rfl
  have c5 := rB1.at_ 5 _ rfl
  have a6 := rA1.at_ 6 _ rfl
  have c6 := rB1.at_ 6 _ rfl
  clear rA1 rB1
  go_wp2_with fail
  refine (Fl.eqFile x4 x6 x5 _).mono ?_; rintro e w2 ⟨rfl, b2⟩
  have B2 : Hid (Below w.heap.size w w2) := B1.trans (b2.mono B1.size)
  clear b2 B1 B hW
  go_wp2
  go_ret
  exact ⟨rfl, B2.out⟩
set_option maxRecDepth 20000 in
set_option maxHeartbeats 8000000 in
theorem eqDeltaS (a1 a2 : Option Addr) (c1 c2 : Nat) (l : List Ob) (w : World) (h1 : OB w.heap.size w a1 l) (h2 : OB w.heap.size w a2 l) (hn : l.length ≤ 1048576) :
    Calls Tryd.prog 19 #[.slice a1 l.length c1, .slice a2 l.length c2] w fun e w' => e = .returned (.bool true) ∧ Below w.heap.size w w' := by
  have hl : ((l.length : Int) != (l.length : Int)) = false := by simp
  go_enter Tryd.func19, Tryd.ntmps19
  go_wp2
  go_loopw [5] (fun i wr => ∃ k : Nat, k ≤ l.length ∧ i = .int .i64 k ∧ Below w.heap.size w wr) (fun i _ => l.length - (intOf i).toNat)
  case atStart => exact ⟨0, Nat.zero_le _, rfl, Below.refl _ _⟩
  case round =>
    obtain ⟨k, hk, rfl, hbel⟩ := hrel
    have hsz := hbel.size
    by_cases hlt : k < l.length
    · have q : (k : Int) < (l.length : Int) := by omega
      obtain ⟨g, off, e, _, d0, d1, d2, d3, d4, d5, d6⟩ := h1.below hbel k hlt
      obtain ⟨g', off', e', _, f0, f1, f2, f3, f4, f5, f6⟩ := h2.below hbel k hlt
      subst e e'
      obtain ⟨C, hCe⟩ : ∃ C, l.getD k onil = C := ⟨_, rfl⟩
      obtain ⟨x0, ⟨x1, x2, x3⟩, ⟨x4, x5, x6⟩⟩ := C
      rw [hCe] at d0 d1 d2 d3 d4 d5 d6 f0 f1 f2 f3 f4 f5 f6
      simp only [] at d0 d1 d2 d3 d4 d5 d6 f0 f1 f2 f3 f4 f5 f6
      clear hCe h1 h2
      go_wp2
      go_region_with (go_at_call 43; refine (eqDelta x0 x1 x2 x3 x4 x5 x6 _).mono ?_; rintro e w' ⟨rfl, b⟩)
      all_goals
        have b' : Below wr.heap.size wr w' := (below_drew (Below.refl wr.heap.size wr)).trans b
        have HB : Hid (Below w.heap.size w w') := below_step hbel hsz b'
        clear d0 d1 d2 d3 d4 d5 d6 f0 f1 f2 f3 f4 f5 f6 b b' hbel
        go_wp2
        go_roundw
        case rel => exact ⟨k + 1, by omega, by go_num, by first | exact HB.out | exact below_drew HB.out | exact below_drewN' HB.out _⟩
        case measure => first | (simp [intOf]; omega) | simp [intOf]
    · have q : ¬ (k : Int) < (l.length : Int) := by omega
      go_wp2
      go_ret
      exact ⟨rfl, hbel⟩
set_option maxHeartbeats 1000000 in
theorem eqDeltasResult (c : Int) (a1 a2 : Option Addr) (k1 k2 : Nat) (l : List Ob) (w : World) (h1 : OB w.heap.size w a1 l) (h2 : OB w.heap.size w a2 l) (hn : l.length ≤ 1048576) :
    Calls Tryd.prog 9 #[.agg #[.int .i64 c, .slice a1 l.length k1], .agg #[.int .i64 c, .slice a2 l.length k2]] w fun e w' => e = .returned (.bool true) ∧ Below w.heap.size w w' := by
  have hcc : (c != c) = false := by simp
  have hB : Below w.heap.size w ((w.alloc (.cells #[.int .i64 c, .slice a1 l.length k1] 26)).alloc (.cells #[.int .i64 c, .slice a2 l.length k2] 26)) := ((Below.refl _ _).alloc (Nat.le_refl _) _).alloc (by simp) _
  have hE := fun w h1 h2 => eqDeltaS a1 a2 k1 k2 l w h1 h2 hn
  go_enter Tryd.func9, Tryd.ntmps9
  go_wp2_with fail
  refine (hE _ ((h1.below hB).mono hB.size) ((h2.below hB).mono hB.size)).mono ?_; rintro e w1 ⟨rfl, b1⟩
  have B1 : Hid (Below w.heap.size w w1) := hB.trans (b1.mono hB.size)
  clear b1 hE hB
  go_wp2_with fail
  go_ret
  exact ⟨rfl, B1.out⟩

set_option maxHeartbeats 1000000 in
theorem markDeltasResult (lo hi : Nat) (c : Int) (a : Option Addr) (n cap m : Nat) (xs : List Value) (w : World) (h1 : 1 ≤ m) (h2 : m + 7 * n ≤ 8388608)
    (ho : w.ownsRow lo 55 7 (.slice a n cap) n xs) (b1 : ∀ j, (Value.slice a n cap).ownBlock = some j → j < hi) :
    Calls Tryd.prog 12 #[.agg #[.int .i64 c, .slice a n cap], .int .i64 m] w fun e w' => e = .returned (.int .i64 ((m + 7 * n : Nat) : Int)) ∧
      w'.ownsRow lo 55 7 (.slice a n cap) n (ocells (mkO m n)) ∧ Fr lo hi w w' := by
  go_enter Tryd.func12, Tryd.ntmps12
  go_wp2_with fail
  refine (markDeltaS lo _ _ _ _ _ _ h1 h2 (ho.alloc _)).mono ?_; rintro e w1 ⟨rfl, ho1, hg1⟩
  have hF1 : Fr lo hi w w1 := (Fr.ofAlloc _ _).trans (Fr.ofGrown hg1 (fun j hj => ⟨(ho.lt j hj).1, b1 j hj⟩))
  clear hg1
  go_wp2_with fail
  go_ret
  exact ⟨rfl, ho1, hF1⟩

set_option maxRecDepth 20000 in
set_option maxHeartbeats 16000000 in
theorem heldDeltaS (a : Option Addr) (n cap m : Nat) (w : World) (h1 : 1 ≤ m) (h2 : m + 7 * n ≤ 8388608) (hs : OB w.heap.size w a (mkO m n)) :
    Calls Tryd.prog 35 #[.slice a n cap, .int .i64 m] w fun e w' => e = .returned (.int .i64 ((m + 7 * n : Nat) : Int)) ∧ Below w.heap.size w w' := by
  go_enter Tryd.func35, Tryd.ntmps35
  go_wp2
  go_loopw [1, 5] (fun t i wr => ∃ k : Nat, k ≤ n ∧ i = .int .i64 k ∧ t = .int .i64 ((m + 7 * k : Nat) : Int) ∧ Below w.heap.size w wr) (fun _ i _ => n - (intOf i).toNat)
  case atStart => exact ⟨0, Nat.zero_le _, rfl, rfl, Below.refl _ _⟩
  case round =>
    obtain ⟨k, hk, rfl, rfl, hbr⟩ := hrel
    have hsz := hbr.size
    by_cases hlt : k < n
    · have q : (k : Int) < (n : Int) := by omega
      obtain ⟨g, off, e, hg, d0, d1, d2, d3, d4, d5, d6⟩ := hs.below hbr k (by rw [mkO_length]; exact hlt)
      subst e
      rw [mkO_at m n k hlt] at d0 d1 d2 d3 d4 d5 d6
      simp only [] at d0 d1 d2 d3 d4 d5 d6
      have hM0 := fun w => markText (m + 7 * k) (by omega) (by omega) w
      have hM1 := fun w => markText (m + 7 * k + 1) (by omega) (by omega) w
      have hM3 := fun w => markText (m + 7 * k + 3) (by omega) (by omega) w
      have hM4 := fun w => markText (m + 7 * k + 4) (by omega) (by omega) w
      have hM6 := fun w => markText (m + 7 * k + 6) (by omega) (by omega) w
      obtain ⟨t0, ht0⟩ : ∃ t, mtxt (m + 7 * k) = t := ⟨_, rfl⟩
      obtain ⟨t1, ht1⟩ : ∃ t, mtxt (m + 7 * k + 1) = t := ⟨_, rfl⟩
      obtain ⟨t3, ht3⟩ : ∃ t, mtxt (m + 7 * k + 3) = t := ⟨_, rfl⟩
      obtain ⟨t4, ht4⟩ : ∃ t, mtxt (m + 7 * k + 4) = t := ⟨_, rfl⟩
      obtain ⟨t6, ht6⟩ : ∃ t, mtxt (m + 7 * k + 6) = t := ⟨_, rfl⟩
      obtain ⟨M, hMe⟩ : ∃ M, m + 7 * k = M := ⟨_, rfl⟩
      rw [hMe] at hM0 hM1 hM3 hM4 hM6 ht0 ht1 ht3 ht4 ht6 d0 d1 d2 d3 d4 d5 d6 ⊢
      rw [ht0] at hM0 d0
      rw [ht1] at hM1 d1
      rw [ht3] at hM3 d3
      rw [ht4] at hM4 d4
      rw [ht6] at hM6 d6
      have HMe : Hid (m + 7 * (k + 1) = M + 7) := by show _ = _; omega
      have hMb : M + 7 ≤ 8388608 := by omega
      obtain ⟨V, hV⟩ : ∃ V : Int, (M : Int) = V := ⟨_, rfl⟩
      have HV : Hid ((M : Int) = V) := hV
      have hV1 : ((M + 1 : Nat) : Int) = V + 1 := by omega
      have hV2 : ((M + 2 : Nat) : Int) = V + 1 + 1 := by omega
      have hV3 : ((M + 3 : Nat) : Int) = V + 1 + 1 + 1 := by omega
      have hV4 : ((M + 4 : Nat) : Int) = V + 1 + 1 + 1 + 1 := by omega
      have hV5 : ((M + 5 : Nat) : Int) = V + 1 + 1 + 1 + 1 + 1 := by omega
      have hV6 : ((M + 6 : Nat) : Int) = V + 1 + 1 + 1 + 1 + 1 + 1 := by omega
      rw [hV] at hM0 ⊢
      rw [hV1] at hM1
      rw [hV3] at hM3
      rw [hV4] at hM4
      rw [hV6] at hM6
      rw [hV2] at d2
      rw [hV5] at d5
      have hVp : 0 ≤ V := by omega
      have hVl : V < 16777216 := by omega
      have q0 := beq_bytes_true (rfl : t0 = t0)
      have q1 := beq_bytes_true (rfl : t1 = t1)
      have q3 := beq_bytes_true (rfl : t3 = t3)
      have q4 := beq_bytes_true (rfl : t4 = t4)
      have q6 := beq_bytes_true (rfl : t6 = t6)
      have q2 : (V + 1 + 1 != V + 1 + 1) = false := by simp
      have q5 : (V + 1 + 1 + 1 + 1 + 1 != V + 1 + 1 + 1 + 1 + 1) = false := by simp
      have hgw : g < wr.heap.size := by omega
      have HS : Hid (∀ W, Below wr.heap.size wr W → W.cell? ⟨g, off + k * 7, none⟩ = some (.string t0) ∧ W.cell? ⟨g, off + k * 7 + 1, none⟩ = some (.string t1) ∧ W.cell? ⟨g, off + k * 7 + 2, none⟩ = some (.int .i64 (V + 1 + 1)) ∧ W.cell? ⟨g, off + k * 7 + 3, none⟩ = some (.string t3) ∧ W.cell? ⟨g, off + k * 7 + 4, none⟩ = some (.string t4) ∧ W.cell? ⟨g, off + k * 7 + 5, none⟩ = some (.int .i64 (V + 1 + 1 + 1 + 1 + 1)) ∧ W.cell? ⟨g, off + k * 7 + 6, none⟩ = some (.string t6)) := fun W b => ⟨(b.cell (p := ⟨g, off + k * 7, none⟩) hgw).trans d0, (b.cell (p := ⟨g, off + k * 7 + 1, none⟩) hgw).trans d1, (b.cell (p := ⟨g, off + k * 7 + 2, none⟩) hgw).trans d2, (b.cell (p := ⟨g, off + k * 7 + 3, none⟩) hgw).trans d3, (b.cell (p := ⟨g, off + k * 7 + 4, none⟩) hgw).trans d4, (b.cell (p := ⟨g, off + k * 7 + 5, none⟩) hgw).trans d5, (b.cell (p := ⟨g, off + k * 7 + 6, none⟩) hgw).trans d6⟩
      have HB0 : Hid (Below w.heap.size w wr) := hbr
      have HD : Hid (Below wr.heap.size wr wr) := Below.refl _ _
      clear ht0 ht1 ht3 ht4 ht6 hMe hV hV1 hV2 hV3 hV4 hV5 hV6 hs hbr d1 d2 d3 d4 d5 d6
      go_wp2
      go_region_with (go_at_call 34; refine (hM0 _).mono ?_; rintro e w0 ⟨rfl, b0⟩; have HD0 : Hid (Below wr.heap.size wr w0) := HD.out.drew.trans (b0.mono HD.out.size); have mk0 := (HS.out w0 HD0.out); obtain ⟨y0_0, y0_1, _, _, _, _, _⟩ := mk0)
      all_goals
        clear d0 b0 hM0
        go_wp2
        go_region_with (go_at_call 34; refine (hM1 _).mono ?_; rintro e w1 ⟨rfl, b1⟩; have HD1 : Hid (Below wr.heap.size wr w1) := HD0.out.drew.trans (b1.mono HD0.out.size); have mk1 := (HS.out w1 HD1.out); obtain ⟨_, y1_1, y1_2, y1_3, _, _, _⟩ := mk1)
        all_goals
          clear y0_0 y0_1 b1 hM1
          go_wp2
          go_region_with (go_at_call 34; refine (hM3 _).mono ?_; rintro e w3 ⟨rfl, b3⟩; have HD3 : Hid (Below wr.heap.size wr w3) := HD1.out.drew.trans (b3.mono HD1.out.size); have mk3 := (HS.out w3 HD3.out); obtain ⟨_, _, _, y3_3, y3_4, _, _⟩ := mk3)
          all_goals
            clear y1_1 y1_2 y1_3 b3 hM3
            go_wp2
            go_region_with (go_at_call 34; refine (hM4 _).mono ?_; rintro e w4 ⟨rfl, b4⟩; have HD4 : Hid (Below wr.heap.size wr w4) := HD3.out.drew.trans (b4.mono HD3.out.size); have mk4 := (HS.out w4 HD4.out); obtain ⟨_, _, _, _, y4_4, y4_5, y4_6⟩ := mk4)
            all_goals
              clear y3_3 y3_4 b4 hM4
              go_wp2
              go_region_with (go_at_call 34; refine (hM6 _).mono ?_; rintro e w6 ⟨rfl, b6⟩; have HD6 : Hid (Below wr.heap.size wr w6) := HD4.out.drew.trans (b6.mono HD4.out.size); have mk6 := (HS.out w6 HD6.out); obtain ⟨_, _, _, _, _, _, y6_6⟩ := mk6)
              all_goals
                clear y4_4 y4_5 y4_6 b6 hM6
                go_wp2
                have HB9 : Hid (Below w.heap.size w w6) := HB0.out.trans (HD6.out.mono HB0.out.size)
                go_roundw
                case rel => exact ⟨k + 1, by omega, by first | rfl | go_num, by rw [HMe.out]; have := HV.out; first | go_num | (congr 1; omega), by first | exact HB9.out | exact below_drew HB9.out | exact below_drewN' HB9.out _⟩
                case measure => first | (simp [intOf]; omega) | simp [intOf]
    · have e : k = n := by omega
      subst e
      go_wp2
      go_ret
      exact ⟨rfl, hbr⟩

set_option maxHeartbeats 1000000 in
theorem heldDeltasResult (c : Int) (a : Option Addr) (n cap m : Nat) (w : World) (h1 : 1 ≤ m) (h2 : m + 7 * n ≤ 8388608) (hs : OB w.heap.size w a (mkO m n)) :
    Calls Tryd.prog 13 #[.agg #[.int .i64 c, .slice a n cap], .int .i64 m] w fun e w' => e = .returned (.int .i64 ((m + 7 * n : Nat) : Int)) ∧ Below w.heap.size w w' := by
  have hB : ∀ o, Below w.heap.size w (w.alloc o) := fun o => (Below.refl _ _).alloc (Nat.le_refl _) _
  have hA := fun W hW => heldDeltaS a n cap m W h1 h2 hW
  obtain ⟨M, hM⟩ : ∃ M : Int, ((m + 7 * n : Nat) : Int) = M := ⟨_, rfl⟩
  have hp : ¬ M < 0 := by omega
  rw [hM] at hA ⊢
  clear hM
  go_enter Tryd.func13, Tryd.ntmps13
  go_wp2_with fail
  refine (hA _ ((hs.below (hB _)).mono (by simp))).mono ?_; rintro e w1 ⟨rfl, b1⟩
  have BB := (hB (.cells #[.int .i64 c, .slice a n cap] 26)).trans (b1.mono (by simp))
  clear b1
  go_wp2_with fail
  go_ret
  exact ⟨rfl, BB⟩
theorem obMk {w : World} {base n c m : Nat} {a : Option Addr} (h : w.ownsRow base 55 7 (.slice a n c) n (ocells (mkO m n))) : OB w.heap.size w a (mkO m n) :=
  OB.of (c := c) (base := base) (by rw [mkO_length]; exact h)
end Go.Proofs.YtaggjnaogmhfpaaDoor.Dl
