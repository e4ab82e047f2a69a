/- (One string.) The contract of impl.writeParts. No statement is proved here. -/
import Derived.Test.YtciddfpkcdicaaaRows
import Derived.Test.YtciddfpkcdicaaaLemQ
import Derived.Test.YtciddfpkcdicaaaLFLemQ
import Derived.Test.YtciddfpkcdicaaaDTabQ
import Derived.Test.YtciddfpkcdicaaaBldQ
import Derived.Test.YtciddfpkcdicaaaBldFQ
import Derived.Test.YtciddfpkcdicaaaCkLQ
import Derived.Test.YtciddfpkcdicaaaCtLQ
import Derived.Test.YtciddfpkcdicaaaCtCQ
import Derived.WalkKit
import Derived.ProofKit
import Derived.Below
import Derived.WalkSpells
namespace Go.Proofs.Ytciddfpkcdicaaa
open Go.ChangeShapes Go.WideShapes Go.ChangeAt Go.RowKit

set_option maxRecDepth 20000 in
set_option maxHeartbeats 2000000 in
theorem writePart1 (B b : Nat) (l : List UInt8) (a : Option Addr) (c : Nat) (ss : List ByteArray) (w : World) (h : BF B b l w) (hs : SS w a ss) (ho : Hid (ss.length = 1)) (hB : B ≤ w.heap.size) (hn : ss.length ≤ 1048576) (hl : (l.length : Int) + tot ss + ss.length ≤ 1000000000) :
    Calls Try.prog 51 #[.pointer (some ⟨b, 0, none⟩), .slice a ss.length c] w fun e w' => e = .returned (.tuple #[]) ∧ (BF B b (putP l ss) w' ∧ Below B w w') := by
  go_enter Try.func51, Try.ntmps51
  go_wp2
  go_loopw [8] (fun i wr => ∃ k : Nat, k ≤ ss.length ∧ i = .int .i64 k ∧ BF B b (putP l (ss.take k)) wr ∧ Below B w wr ∧ Hid (k = 0 → wr = w)) (fun i _ => ss.length - (intOf i).toNat)
  case atStart => exact ⟨0, Nat.zero_le _, rfl, h, Below.refl _ _, fun _ => rfl⟩
  case round =>
    obtain ⟨k, hk, rfl, hbf, hbel, hz⟩ := hrel
    have hsz := hbel.size
    by_cases hlt : k < ss.length
    · have q : (k : Int) < (ss.length : Int) := by omega
      obtain ⟨b', off, rfl, hb, hc0⟩ := hs.2 k hlt
      have hk0 : k = 0 := by have := ho.out; omega
      have hc : wr.cell? ⟨b', off + k, none⟩ = some (.string (ss.getD k ByteArray.empty)) := by rw [hz.out hk0]; exact hc0
      have Hk0 : Hid (k = 0) := hk0
      clear hk0 hz
      have hT := putP_take l ss k hlt
      have hle := putP_le l (ss.take k)
      have htt := tot_take_le ss (k + 1)
      have hts := tot_take ss k hlt
      have hlk : ((ss.take k).length : Int) ≤ ss.length := by rw [List.length_take]; omega
      obtain ⟨s, hse⟩ : ∃ s, ss.getD k ByteArray.empty = s := ⟨_, rfl⟩
      rw [hse] at hc hT hts
      obtain ⟨X, hX⟩ : ∃ X, putP l (ss.take k) = X := ⟨_, rfl⟩
      rw [hX] at hT hle hbf
      have hXl : X.length + s.size + 1 ≤ 1000000001 := by omega
      have hLen := fun W (p : BF B b X W) => bLen B b (Lib.byteCells X) W p
      rw [Lib.byteCells_length] at hLen
      clear hse hX hle htt hts hlk hc0
      by_cases h0 : X = []
      · subst h0
        have HT : Hid (putP l (ss.take (k + 1)) = [] ++ s.data.toList) := by show _ = _; rw [hT]; rfl
        clear hT
        have hLen0 : ∀ W, BF B b [] W → Calls Try.prog 72 #[.pointer (some ⟨b, 0, none⟩)] W fun e w' => e = .returned (.int .i64 0) ∧ w' = W := fun W p => hLen W p
        clear hLen
        go_wp2_with fail
        refine (hLen0 _ hbf).mono ?_; rintro e wr ⟨rfl, rfl⟩
        go_wp2_with fail
        refine (writeStringF B b _ s wr hbf (by rw [Lib.byteCells_length]; simp; omega) (by omega)).mono ?_; rintro e w2 ⟨rfl, h2, b2⟩
        rw [cellsApp, ← HT.out] at h2
        have B2 := hbel.trans b2
        clear hbf b2 hLen0
        go_wp2
        go_roundw
        case rel => exact ⟨k + 1, by omega, by go_num, .inr h2, B2, fun h => absurd h (Nat.succ_ne_zero _)⟩
        case measure => first | (simp [intOf]; omega) | simp [intOf]
      · have hpos : 0 < X.length := by cases X with | nil => exact absurd rfl h0 | cons => simp
        have hq : (0 : Int) < (X.length : Int) := by omega
        have hXs : (⟨X.toArray⟩ : ByteArray).size = X.length := by simp [ByteArray.size]
        have hHS := fun W => hasSuffix ⟨X.toArray⟩ W (by omega) (by omega)
        have hXd : (⟨X.toArray⟩ : ByteArray).data.toList = X := by simp
        rw [hXd] at hHS
        have hq2 : ((X.length : Int) > 0) := hq
        clear hXs hXd
        go_wp2_with fail
        refine (hLen _ hbf).mono ?_; rintro e wr ⟨rfl, rfl⟩
        obtain ⟨N, hN⟩ : ∃ N : Int, (X.length : Int) = N := ⟨_, rfl⟩
        rw [hN] at hq ⊢
        clear hN hq2 hLen
        go_wp2_with fail
        refine (bString B b X wr hbf (by omega)).mono ?_; rintro e w2 ⟨rfl, h2, b2⟩
        have B2 := hbel.trans b2
        have z2 := b2.size
        clear hbf b2 hbel
        cases he : endsL X with
        | true =>
          rw [he] at hHS
          have HT : Hid (putP l (ss.take (k + 1)) = X ++ s.data.toList) := by
            show _ = _
            rw [hT]; unfold closeL; rw [if_neg h0, if_pos he]
          clear hT he h0
          go_wp2_with fail
          refine (hHS _).mono ?_; rintro e w2 ⟨rfl, rfl⟩
          go_wp2_with fail
          refine (writeStringF B b _ s w2 h2 (by rw [Lib.byteCells_length]; omega) (by omega)).mono ?_; rintro e w3 ⟨rfl, h3, b3⟩
          rw [cellsApp, ← HT.out] at h3
          have B3 := B2.trans b3
          clear h2 b3 B2 hHS
          go_wp2
          go_roundw
          case rel => exact ⟨k + 1, by omega, by go_num, .inr h3, B3, fun h => absurd h (Nat.succ_ne_zero _)⟩
          case measure => first | (simp [intOf]; omega) | simp [intOf]
        | false =>
          rw [he] at hHS
          have HT : Hid (putP l (ss.take (k + 1)) = X ++ [10] ++ s.data.toList) := by
            show _ = _
            rw [hT]; unfold closeL; rw [if_neg h0, if_neg (by rw [he]; decide)]
          clear hT he h0
          go_wp2_with fail
          refine (hHS _).mono ?_; rintro e w2 ⟨rfl, rfl⟩
          go_wp2_with fail
          refine (writeByteF B b _ 10 w2 h2 (by rw [Lib.byteCells_length]; omega) (by omega)).mono ?_; rintro e w3 ⟨rfl, h3, b3⟩
          rw [cellsLF] at h3
          have B3 := B2.trans b3
          have z3 := b3.size
          clear h2 b3 B2 hHS
          go_wp2_with fail
          refine (writeStringF B b _ s w3 (.inr h3) (by rw [Lib.byteCells_length]; simp; omega) (by omega)).mono ?_; rintro e w4 ⟨rfl, h4, b4⟩
          rw [cellsApp, ← HT.out] at h4
          have B4 := B3.trans b4
          clear h3 b4 B3
          go_wp2
          go_roundw
          case rel => exact ⟨k + 1, by omega, by go_num, .inr h4, B4, fun h => absurd h (Nat.succ_ne_zero _)⟩
          case measure => first | (simp [intOf]; omega) | simp [intOf]
    · have q : ¬ (k : Int) < (ss.length : Int) := by omega
      have e : ss.take k = ss := List.take_of_length_le (by omega)
      rw [e] at hbf
      clear e
      go_wp2
      go_end0
      exact ⟨rfl, hbf, hbel⟩
end Go.Proofs.Ytciddfpkcdicaaa
