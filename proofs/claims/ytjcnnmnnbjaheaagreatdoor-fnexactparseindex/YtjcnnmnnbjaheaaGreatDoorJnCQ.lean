/- The contract of the library's strings.Join at a blank. No statement is proved here. -/
import Derived.Test.YtjcnnmnnbjaheaaGreatDoorRows
import Derived.Test.YtjcnnmnnbjaheaaGreatDoorLemQ
import Derived.Test.YtjcnnmnnbjaheaaGreatDoorBldQ
import Derived.WalkKit
import Derived.ProofKit
import Derived.Below
import Derived.WalkSpells
import Derived.Laws.Concat
namespace Go.Proofs.YtjcnnmnnbjaheaaGreatDoor
open Go.ChangeShapes Go.WideShapes Go.ChangeAt Go.RowKit

/-- Words with a blank between, up to a place. -/
def jl (ss : List ByteArray) : Nat → List UInt8
  | 0 => (ss.getD 0 ByteArray.empty).data.toList
  | k + 1 => jl ss k ++ (32 :: (ss.getD (k + 1) ByteArray.empty).data.toList)
def jnB (ss : List ByteArray) : ByteArray := ⟨(jl ss (ss.length - 1)).toArray⟩
theorem jl_len (ss : List ByteArray) : ∀ k, k < ss.length → ((jl ss k).length : Int) = tot (ss.take (k + 1)) + k
  | 0, h => by
    rw [tot_take ss 0 h]
    simp [jl, tot]
  | k + 1, h => by
    have ih := jl_len ss k (by omega)
    rw [tot_take ss (k + 1) h, jl, List.length_append]
    simp only [List.length_cons, Array.length_toList]
    have : (ss.getD (k + 1) ByteArray.empty).data.size = (ss.getD (k + 1) ByteArray.empty).size := rfl
    omega

set_option maxRecDepth 20000 in
set_option maxHeartbeats 4000000 in
theorem joinC (g off c : Nat) (ss : List ByteArray) (w : World) (hs : SS w (some ⟨g, off, none⟩) ss) (h2 : 2 ≤ ss.length) (hc : ss.length ≤ c) (hn : ss.length ≤ 1048576) (htot : tot ss ≤ 1048576) :
    Calls Tryz.prog 87 #[.slice (some ⟨g, off, none⟩) ss.length c, .string ⟨#[32]⟩] w fun e w' => e = .returned (.string (jnB ss)) ∧ Below w.heap.size w w' := by
  have q0 : ((ss.length : Int) == 0) = false := beq_eq_false_iff_ne.2 (by omega)
  have q1 : ((ss.length : Int) == 1) = false := beq_eq_false_iff_ne.2 (by omega)
  have hq : (2 : Int) ≤ 9223372036854775807 / ((ss.length : Int) - 1) := (Int.le_ediv_iff_mul_le (by omega)).2 (by omega)
  have q2 : ¬ (9223372036854775807 / ((ss.length : Int) - 1) ≤ (1 : Int)) := by
    generalize 9223372036854775807 / ((ss.length : Int) - 1) = Q at hq
    omega
  have q3 : ((ss.length : Int) - 1 == 0) = false := beq_eq_false_iff_ne.2 (by omega)
  have hcell : ∀ k, k < ss.length → ∀ W : World, Below w.heap.size w W → W.cell? ⟨g, off + k, none⟩ = some (.string (ss.getD k ByteArray.empty)) := fun k hk W hb => by
    obtain ⟨b, off', e, hb', hc'⟩ := hs.2 k hk
    simp only [Option.some.injEq, Addr.mk.injEq] at e
    obtain ⟨rfl, rfl, _⟩ := e
    exact (hb.cell (p := ⟨g, off + k, none⟩) hb').trans hc'
  have hg : g < w.heap.size := by
    obtain ⟨b, off', e, hb', _⟩ := hs.2 0 (by omega)
    simp only [Option.some.injEq, Addr.mk.injEq] at e
    rw [e.1]; exact hb'
  have ht0 := tot_nonneg ss
  have HCell : Hid (∀ k, k < ss.length → ∀ W : World, Below w.heap.size w W → W.cell? ⟨g, off + k, none⟩ = some (.string (ss.getD k ByteArray.empty))) := hcell
  clear hs hcell hq
  go_enter Tryz.func87, Tryz.ntmps87
  go_wp2
  go_loop [5, 41] (fun t i => ∃ k : Nat, k ≤ ss.length ∧ i = .int .i64 k ∧ t = .int .i64 (((ss.length : Int) - 1) + tot (ss.take k))) (fun _ i => ss.length - (intOf i).toNat)
  case atStart => exact ⟨0, Nat.zero_le _, rfl, by simp [tot]⟩
  case round =>
    obtain ⟨k, hk, rfl, rfl⟩ := hrel
    by_cases hlt : k < ss.length
    · have q : (k : Int) < (ss.length : Int) := by omega
      have hc0 := HCell.out k hlt w (Below.refl _ _)
      have hts := tot_take ss k hlt
      have ht2 := tot_take_le ss (k + 1)
      have ht3 := tot_nonneg (ss.take k)
      obtain ⟨s, hse⟩ : ∃ s, ss.getD k ByteArray.empty = s := ⟨_, rfl⟩
      rw [hse] at hc0 hts
      obtain ⟨T, hT⟩ : ∃ T, tot (ss.take k) = T := ⟨_, rfl⟩
      rw [hT] at hts ht3 ⊢
      have HT : Hid (tot (ss.take (k + 1)) = T + (s.size : Int)) := hts
      have hb1 : T + (s.size : Int) ≤ 1048576 := by omega
      clear hse hT hts ht2
      go_wp2
      go_round
      case rel => exact ⟨k + 1, by omega, by go_num, by rw [HT.out]; go_num⟩
      case measure => simp [intOf]; omega
    · have q : ¬ (k : Int) < (ss.length : Int) := by omega
      have e : ss.take k = ss := List.take_of_length_le (by omega)
      rw [e]
      clear e
      obtain ⟨N, hN⟩ : ∃ N : Nat, (N : Int) = ((ss.length : Int) - 1) + tot ss := ⟨(((ss.length : Int) - 1) + tot ss).toNat, by omega⟩
      rw [← hN]
      have hNb : N ≤ 281474976710656 := by omega
      obtain ⟨W1, hW1⟩ : ∃ W, w.alloc (.cells #[.pointer none, .slice none 0 0] 74) = W := ⟨_, rfl⟩
      have b1 : Below w.heap.size w W1 := by rw [← hW1]; exact (Below.refl _ _).alloc (Nat.le_refl _) _
      have hbk : W1.heap[w.heap.size]? = some (.cells #[.pointer none, .slice none 0 0] 74 (0, 0)) := by rw [← hW1]; exact heap_alloc_new _ _
      have hG := Tryz.Builder_Grow_fresh w.heap.size w.heap.size N W1 (Nat.le_refl _) hbk b1.size hNb
      clear hN hbk
      go_wp2_with fail
      refine hG.mono ?_; rintro e w2 ⟨rfl, h2', b2⟩
      have B2 := b1.trans b2
      have c0 := HCell.out 0 (by omega) w2 B2
      rw [Nat.add_zero] at c0
      clear hG b1 b2 hW1
      obtain ⟨s0, hs0⟩ : ∃ s, ss.getD 0 ByteArray.empty = s := ⟨_, rfl⟩
      rw [hs0] at c0
      have hl0 : s0.size ≤ 1048576 := by
        have := tot_take ss 0 (by omega)
        have h3 := tot_take_le ss (0 + 1)
        rw [hs0] at this
        have h4 : tot (ss.take 0) = 0 := by simp [tot]
        omega
      have hWs := writeString w.heap.size w.heap.size [] s0 w2 (.inr h2') (by simp; omega) B2.size
      go_wp2_with fail
      refine hWs.mono ?_; rintro e w3 ⟨rfl, h3', b3⟩
      have B3 := B2.trans b3
      have HI : Lib.IsBuilder 74 5 w.heap.size w.heap.size (Lib.byteCells (jl ss 0)) w3 := by
        rw [show jl ss 0 = s0.data.toList by rw [jl, hs0], ← Lib.strCells_eq]
        exact .inr (by simpa using h3')
      clear hWs h2' h3' b3 c0 B2 hs0
      have qc : ¬ c = 1 := by omega
      have q5 : (1 : Int) ≤ (ss.length : Int) := by omega
      have q6 : (ss.length : Int) ≤ (c : Int) := by omega
      go_wp2
      go_loopw [65] (fun i wr => ∃ k : Nat, k + 1 ≤ ss.length ∧ i = .int .i64 k ∧ Lib.IsBuilder 74 5 w.heap.size w.heap.size (Lib.byteCells (jl ss k)) wr ∧ Below w.heap.size w wr) (fun i _ => ss.length - (intOf i).toNat)
      case atStart => exact ⟨0, by omega, rfl, HI, B3⟩
      case round =>
        clear HI B3
        obtain ⟨k, hk, rfl, hB, hbel⟩ := hrel
        have hsz := hbel.size
        by_cases hlt : k + 1 < ss.length
        · have q : (k : Int) < ((ss.length - 1 : Nat) : Int) := by omega
          have hc1 := HCell.out (k + 1) hlt wr hbel
          have hln := jl_len ss k (by omega)
          have ht2 := tot_take_le ss (k + 1)
          have hts := tot_take ss (k + 1) hlt
          have ht4 := tot_take_le ss (k + 1 + 1)
          obtain ⟨s, hse⟩ : ∃ s, ss.getD (k + 1) ByteArray.empty = s := ⟨_, rfl⟩
          have hjl : jl ss (k + 1) = jl ss k ++ ([32] ++ s.data.toList) := by rw [jl, hse]; rfl
          rw [hse] at hc1 hts
          have hl1 : (Lib.byteCells (jl ss k)).length + (⟨#[32]⟩ : ByteArray).size ≤ 140737488355328 := by
            rw [Lib.byteCells_length]; show _ + 1 ≤ _; omega
          have hW1 := writeString w.heap.size w.heap.size _ ⟨#[32]⟩ wr hB hl1 hsz
          have hl2 : ∀ bs : List Value, bs.length = (jl ss k).length + 1 → bs.length + s.size ≤ 140737488355328 := fun bs e => by omega
          have HJ : Hid (jl ss (k + 1) = jl ss k ++ ([32] ++ s.data.toList)) := hjl
          rw [show off + (k + 1) = off + 1 + k by omega] at hc1
          clear hts ht2 ht4 hln hse hjl hl1
          go_wp2_with fail
          refine hW1.mono ?_; rintro e w4 ⟨rfl, h4, b4⟩
          have hW2 := writeString w.heap.size w.heap.size _ s w4 (.inr h4) (hl2 _ (by rw [List.length_append, Lib.byteCells_length]; rfl)) (Nat.le_trans hsz b4.size)
          clear hW1 hl2
          go_wp2_with fail
          refine hW2.mono ?_; rintro e w5 ⟨rfl, h5, b5⟩
          have HI : Hid (Lib.IsBuilder 74 5 w.heap.size w.heap.size (Lib.byteCells (jl ss (k + 1))) w5) := by
            show Lib.IsBuilder _ _ _ _ _ _
            rw [HJ.out, Lib.byteCells_append, Lib.byteCells_append, ← List.append_assoc, ← Lib.strCells_eq]
            exact .inr h5
          have B5 := (hbel.trans b4).trans b5
          clear hW2 h4 h5 b4 b5 hB
          go_wp2
          go_roundw
          case rel => exact ⟨k + 1, by omega, by go_num, HI.out, B5⟩
          case measure => simp [intOf]; omega
        · have q : ¬ (k : Int) < ((ss.length - 1 : Nat) : Int) := by omega
          have ek : k = ss.length - 1 := by omega
          have hSt := Tryz.Builder_String_any _ _ _ _ hB hsz
          go_wp2_with fail
          refine hSt.mono ?_; rintro e w4 ⟨rfl, b4⟩
          have B4 := hbel.trans b4
          clear hSt b4 hB hbel
          go_wp2
          go_ret
          refine ⟨?_, B4⟩
          unfold jnB
          rw [← ek]
          rfl
end Go.Proofs.YtjcnnmnnbjaheaaGreatDoor
