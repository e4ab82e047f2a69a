/- The contract of spec.l1Text, with the source behind it. No statement is proved here. -/
import Derived.Test.YtciddfpkcdicaaaDoorRows
import Derived.Test.YtciddfpkcdicaaaDoorLemQ
import Derived.Test.YtciddfpkcdicaaaDoorMarksQ
import Derived.Test.YtciddfpkcdicaaaDoorDrawQ
import Derived.Test.YtciddfpkcdicaaaDoorFpSQ
import Derived.Test.YtciddfpkcdicaaaDoorSplQ
import Derived.WalkKit
import Derived.ProofKit
import Derived.Below
import Derived.WalkSpells
import Derived.Laws.Concat
import Derived.Test.YtciddfpkcdicaaaDoorBldQ
import Derived.Test.YtciddfpkcdicaaaDoorShelfBQ
namespace Go.Proofs.YtciddfpkcdicaaaDoor
open Go.ChangeShapes Go.WideShapes Go.ChangeAt Go.RowKit

theorem Small.tot {z : Nat} {ss : List ByteArray} (h : Small z ss) : tot ss ≤ z * ss.length := by
  induction ss with
  | nil => simp [Go.Proofs.YtciddfpkcdicaaaDoor.tot]
  | cons s ss ih =>
    have h1 := h s (by simp)
    have h2 := ih (fun x hx => h x (List.mem_cons_of_mem _ hx))
    unfold Go.Proofs.YtciddfpkcdicaaaDoor.tot at *
    simp only [List.map_cons, List.sum_cons, List.length_cons]
    have e : (z : Int) * ((ss.length + 1 : Nat) : Int) = (z : Int) * (ss.length : Int) + z := by rw [Int.natCast_add, Int.mul_add]; simp
    rw [e]
    omega
theorem Small.sizes {z : Nat} {ss : List ByteArray} (h : Small z ss) (hz : z ≤ 9223372036854775807) : ∀ k, k < ss.length → (ss.getD k ByteArray.empty).size ≤ 9223372036854775807 := by
  intro k hk
  rw [getD_at ss k hk]
  exact Nat.le_trans (h _ (List.getElem_mem hk)) hz
theorem SS_own {w : World} {base g cap : Nat} {ss : List ByteArray} (h : w.ownsRow base 9 1 (.slice (some ⟨g, 0, none⟩) ss.length cap) ss.length (ss.map Value.string)) (hz : ∀ k, k < ss.length → (ss.getD k ByteArray.empty).size ≤ 9223372036854775807) : SS w (some ⟨g, 0, none⟩) ss := by
  obtain ⟨a', cap', e, hS, _⟩ := SS_of_row h rfl hz
  simp only [Value.slice.injEq] at e
  obtain ⟨rfl, _⟩ := e
  exact hS
theorem size_one (c : UInt8) : (⟨#[c]⟩ : ByteArray).size = 1 := rfl
def strLen : Value → Nat
  | .string s => s.size
  | _ => 0
def TextPostS (N b : Nat) (a : Option Addr) (n cap : Nat) (k : Int) (w : World) (e : Ending) (w' : World) : Prop := ∃ (x : ByteArray) (k' : Int), e = .returned (.string x) ∧ x.size ≤ 4096 ∧ Src N w' b a n cap k' ∧ k' ≤ k + 3000 ∧ w.grownBy w' (some b)
set_option maxHeartbeats 3000000 in
theorem l1TextS (N b : Nat) (a : Option Addr) (n cap : Nat) (k : Int) (w : World) (h : Src N w b a n cap k) (hk : k ≤ 1000000) :
    Calls Tryd.prog 24 #[.pointer (some ⟨b, 0, none⟩)] w fun e w' => TextPostS N b a n cap k w e w' := by
  go_enter Tryd.func24, Tryd.ntmps24
  go_wp2_with fail
  refine (l1Next N b a n cap k 8 _ h (by omega)).mono ?_; rintro e w1 ⟨r, rfl, hd, h1, g1⟩
  have hd0 := hd.1
  have hd1 : r < 8 := hd.2.1 (by omega)
  obtain ⟨j, rfl⟩ := Int.eq_ofNat_of_zero_le hd0
  clear hd
  go_wp2_with fail
  refine (l1Lines N b a n cap (k + 1) j _ h1 (by omega) (by omega)).mono ?_; rintro e w2 ⟨ss, g, c, k2, rfl, hl, hsm, own2, h2, hk2, g2⟩
  have htot := hsm.tot
  have hsz := catB_size ss
  have hS := SS_own own2 (hsm.sizes (by omega))
  have gg := grown_trans g1 g2
  clear g1 g2 own2 h1
  go_wp2_with fail
  refine (l1Join _ _ _ _ hS (by omega) (by omega)).mono ?_; rintro e w2 ⟨rfl, rfl⟩
  obtain ⟨x, hx⟩ : ∃ x, catB ss = x := ⟨_, rfl⟩
  rw [hx] at hsz ⊢
  have hx64 : x.size ≤ 64 := by omega
  clear hx hS hsz htot hsm
  go_wp2_with fail
  refine (l1Next N b a n cap k2 24 _ h2 (by omega)).mono ?_; rintro e w3 ⟨r, rfl, hd, h3, g3⟩
  have gg3 := grown_trans gg g3
  clear gg g3 hd h2
  by_cases q0 : (r == 0) = true
  · go_wp2_with fail
    go_ret
    exact ⟨_, k2 + 1, rfl, by rw [ByteArray.size_append]; have : (⟨#[0, 98]⟩ : ByteArray).size = 2 := rfl
                              omega, h3, by omega, gg3⟩
  have q0' : (r == 0) = false := by simpa using q0
  by_cases q1 : (r == 1) = true
  · go_wp2_with fail
    go_loopw [3] (fun t wr => ∃ (y : ByteArray) (m : Int), t = .string y ∧ y.size ≤ 2001 ∧ Src N wr b a n cap m ∧ m ≤ k2 + 1 + y.size ∧ w.grownBy wr (some b)) (fun t _ => 2001 - strLen t)
    case atStart => exact ⟨x, k2 + 1, rfl, by omega, h3, by omega, gg3⟩
    case round =>
      obtain ⟨y, m, rfl, hy, hsr, hm, hgr⟩ := hrel
      go_wp2_with fail
      refine (l1Next N b a n cap m 2 _ hsr (by omega)).mono ?_; rintro e w4 ⟨r2, rfl, hd, h4, g4⟩
      have hd0 := hd.1
      have hd1 : r2 < 2 := hd.2.1 (by omega)
      have gg4 := grown_trans hgr g4
      clear hgr g4 hd hsr
      by_cases hc : (y.size : Int) < 2000 + r2
      · have hys : (y ++ (⟨#[118]⟩ : ByteArray)).size = y.size + 1 := by rw [ByteArray.size_append]; rfl
        have HY : Hid ((y ++ (⟨#[118]⟩ : ByteArray)).size = y.size + 1) := hys
        have hb1 : y.size + (⟨#[118]⟩ : ByteArray).size ≤ 9223372036854775807 := by rw [size_one]; omega
        clear hys
        go_wp2_with fail
        go_roundw
        case rel => exact ⟨_, m + 1, rfl, by rw [HY.out]; omega, h4, by rw [HY.out]; omega, gg4⟩
        case measure => simp only [strLen]; rw [HY.out]; omega
      · go_wp2_with fail
        go_ret
        exact ⟨y, m + 1, rfl, by omega, h4, by omega, gg4⟩
  have q1' : (r == 1) = false := by simpa using q1
  by_cases q2 : (r == 2) = true
  · go_wp2_with fail
    go_loopw [3, 4] (fun t i wr => ∃ (y : ByteArray) (q : Nat) (m : Int), t = .string y ∧ i = .int .i64 q ∧ q ≤ 101 ∧ y.size ≤ 64 + q ∧ Src N wr b a n cap m ∧ m ≤ k2 + 1 + q ∧ w.grownBy wr (some b)) (fun _ i _ => 101 - (intOf i).toNat)
    case atStart => exact ⟨x, 0, k2 + 1, rfl, rfl, by omega, by omega, h3, by omega, gg3⟩
    case round =>
      obtain ⟨y, q, m, rfl, rfl, hq, hy, hsr, hm, hgr⟩ := hrel
      go_wp2_with fail
      refine (l1Next N b a n cap m 2 _ hsr (by omega)).mono ?_; rintro e w4 ⟨r2, rfl, hd, h4, g4⟩
      have hd0 := hd.1
      have hd1 : r2 < 2 := hd.2.1 (by omega)
      have gg4 := grown_trans hgr g4
      clear hgr g4 hd hsr
      by_cases hc : (q : Int) < 100 + r2
      · have hys : (y ++ (⟨#[10]⟩ : ByteArray)).size = y.size + 1 := by rw [ByteArray.size_append]; rfl
        have HY : Hid ((y ++ (⟨#[10]⟩ : ByteArray)).size = y.size + 1) := hys
        have hb1 : y.size + (⟨#[10]⟩ : ByteArray).size ≤ 9223372036854775807 := by rw [size_one]; omega
        clear hys
        go_wp2_with fail
        go_roundw
        case rel => exact ⟨_, q + 1, m + 1, rfl, by go_num, by omega, by rw [HY.out]; omega, h4, by omega, gg4⟩
        case measure => simp [intOf]; omega
      · go_wp2_with fail
        go_ret
        exact ⟨y, m + 1, rfl, by omega, h4, by omega, gg4⟩
  have q2' : (r == 2) = false := by simpa using q2
  go_wp2_with fail
  go_ret
  exact ⟨x, k2 + 1, rfl, by omega, h3, by omega, gg3⟩

end Go.Proofs.YtciddfpkcdicaaaDoor
/- The contract of the library's strings.Join at a blank. No statement is proved here. -/
namespace Go.Proofs.YtciddfpkcdicaaaDoor
open Go.ChangeShapes Go.WideShapes Go.ChangeAt Go.RowKit

/-- Words with a blank between, up to a place. -/
def jl (ss : List ByteArray) : Nat → List UInt8
  | 0 => (ss.getD 0 ByteArray.empty).data.toList
  | k + 1 => jl ss k ++ (32 :: (ss.getD (k + 1) ByteArray.empty).data.toList)
def jnB (ss : List ByteArray) : ByteArray := ⟨(jl ss (ss.length - 1)).toArray⟩
theorem jl_len (ss : List ByteArray) : ∀ k, k < ss.length → ((jl ss k).length : Int) = tot (ss.take (k + 1)) + k
  | 0, h => by
    rw [tot_take ss 0 h]
    simp [jl, tot]
  | k + 1, h => by
    have ih := jl_len ss k (by omega)
    rw [tot_take ss (k + 1) h, jl, List.length_append]
    simp only [List.length_cons, Array.length_toList]
    have : (ss.getD (k + 1) ByteArray.empty).data.size = (ss.getD (k + 1) ByteArray.empty).size := rfl
    omega

set_option maxRecDepth 20000 in
set_option maxHeartbeats 4000000 in
theorem joinC (g off c : Nat) (ss : List ByteArray) (w : World) (hs : SS w (some ⟨g, off, none⟩) ss) (h2 : 2 ≤ ss.length) (hc : ss.length ≤ c) (hn : ss.length ≤ 1048576) (htot : tot ss ≤ 1048576) :
    Calls Tryd.prog 49 #[.slice (some ⟨g, off, none⟩) ss.length c, .string ⟨#[32]⟩] w fun e w' => e = .returned (.string (jnB ss)) ∧ Below w.heap.size w w' := by
  have q0 : ((ss.length : Int) == 0) = false := beq_eq_false_iff_ne.2 (by omega)
  have q1 : ((ss.length : Int) == 1) = false := beq_eq_false_iff_ne.2 (by omega)
  have hq : (2 : Int) ≤ 9223372036854775807 / ((ss.length : Int) - 1) := (Int.le_ediv_iff_mul_le (by omega)).2 (by omega)
  have q2 : ¬ (9223372036854775807 / ((ss.length : Int) - 1) ≤ (1 : Int)) := by
    generalize 9223372036854775807 / ((ss.length : Int) - 1) = Q at hq
    omega
  have q3 : ((ss.length : Int) - 1 == 0) = false := beq_eq_false_iff_ne.2 (by omega)
  have hcell : ∀ k, k < ss.length → ∀ W : World, Below w.heap.size w W → W.cell? ⟨g, off + k, none⟩ = some (.string (ss.getD k ByteArray.empty)) := fun k hk W hb => by
    obtain ⟨b, off', e, hb', hc'⟩ := hs.2 k hk
    simp only [Option.some.injEq, Addr.mk.injEq] at e
    obtain ⟨rfl, rfl, _⟩ := e
    exact (hb.cell (p := ⟨g, off + k, none⟩) hb').trans hc'
  have hg : g < w.heap.size := by
    obtain ⟨b, off', e, hb', _⟩ := hs.2 0 (by omega)
    simp only [Option.some.injEq, Addr.mk.injEq] at e
    rw [e.1]; exact hb'
  have ht0 := tot_nonneg ss
  have HCell : Hid (∀ k, k < ss.length → ∀ W : World, Below w.heap.size w W → W.cell? ⟨g, off + k, none⟩ = some (.string (ss.getD k ByteArray.empty))) := hcell
  clear hs hcell hq
  go_enter Tryd.func49, Tryd.ntmps49
  go_wp2
  go_loop [5, 41] (fun t i => ∃ k : Nat, k ≤ ss.length ∧ i = .int .i64 k ∧ t = .int .i64 (((ss.length : Int) - 1) + tot (ss.take k))) (fun _ i => ss.length - (intOf i).toNat)
  case atStart => exact ⟨0, Nat.zero_le _, rfl, by simp [tot]⟩
  case round =>
    obtain ⟨k, hk, rfl, rfl⟩ := hrel
    by_cases hlt : k < ss.length
    · have q : (k : Int) < (ss.length : Int) := by omega
      have hc0 := HCell.out k hlt w (Below.refl _ _)
      have hts := tot_take ss k hlt
      have ht2 := tot_take_le ss (k + 1)
      have ht3 := tot_nonneg (ss.take k)
      obtain ⟨s, hse⟩ : ∃ s, ss.getD k ByteArray.empty = s := ⟨_, rfl⟩
      rw [hse] at hc0 hts
      obtain ⟨T, hT⟩ : ∃ T, tot (ss.take k) = T := ⟨_, rfl⟩
      rw [hT] at hts ht3 ⊢
      have HT : Hid (tot (ss.take (k + 1)) = T + (s.size : Int)) := hts
      have hb1 : T + (s.size : Int) ≤ 1048576 := by omega
      clear hse hT hts ht2
      go_wp2
      go_round
      case rel => exact ⟨k + 1, by omega, by go_num, by rw [HT.out]; go_num⟩
      case measure => simp [intOf]; omega
    · have q : ¬ (k : Int) < (ss.length : Int) := by omega
      have e : ss.take k = ss := List.take_of_length_le (by omega)
      rw [e]
      clear e
      obtain ⟨N, hN⟩ : ∃ N : Nat, (N : Int) = ((ss.length : Int) - 1) + tot ss := ⟨(((ss.length : Int) - 1) + tot ss).toNat, by omega⟩
      rw [← hN]
      have hNb : N ≤ 281474976710656 := by omega
      obtain ⟨W1, hW1⟩ : ∃ W, w.alloc (.cells #[.pointer none, .slice none 0 0] 71) = W := ⟨_, rfl⟩
      have b1 : Below w.heap.size w W1 := by rw [← hW1]; exact (Below.refl _ _).alloc (Nat.le_refl _) _
      have hbk : W1.heap[w.heap.size]? = some (.cells #[.pointer none, .slice none 0 0] 71 (0, 0)) := by rw [← hW1]; exact heap_alloc_new _ _
      have hG := Tryd.Builder_Grow_fresh w.heap.size w.heap.size N W1 (Nat.le_refl _) hbk b1.size hNb
      clear hN hbk
      go_wp2_with fail
      refine hG.mono ?_; rintro e w2 ⟨rfl, h2', b2⟩
      have B2 := b1.trans b2
      have c0 := HCell.out 0 (by omega) w2 B2
      rw [Nat.add_zero] at c0
      clear hG b1 b2 hW1
      obtain ⟨s0, hs0⟩ : ∃ s, ss.getD 0 ByteArray.empty = s := ⟨_, rfl⟩
      rw [hs0] at c0
      have hl0 : s0.size ≤ 1048576 := by
        have := tot_take ss 0 (by omega)
        have h3 := tot_take_le ss (0 + 1)
        rw [hs0] at this
        have h4 : tot (ss.take 0) = 0 := by simp [tot]
        omega
      have hWs := writeString w.heap.size w.heap.size [] s0 w2 (.inr h2') (by simp; omega) B2.size
      go_wp2_with fail
      refine hWs.mono ?_; rintro e w3 ⟨rfl, h3', b3⟩
      have B3 := B2.trans b3
      have HI : Lib.IsBuilder 71 5 w.heap.size w.heap.size (Lib.byteCells (jl ss 0)) w3 := by
        rw [show jl ss 0 = s0.data.toList by rw [jl, hs0], ← Lib.strCells_eq]
        exact .inr (by simpa using h3')
      clear hWs h2' h3' b3 c0 B2 hs0
      have qc : ¬ c = 1 := by omega
      have q5 : (1 : Int) ≤ (ss.length : Int) := by omega
      have q6 : (ss.length : Int) ≤ (c : Int) := by omega
      go_wp2
      go_loopw [65] (fun i wr => ∃ k : Nat, k + 1 ≤ ss.length ∧ i = .int .i64 k ∧ Lib.IsBuilder 71 5 w.heap.size w.heap.size (Lib.byteCells (jl ss k)) wr ∧ Below w.heap.size w wr) (fun i _ => ss.length - (intOf i).toNat)
      case atStart => exact ⟨0, by omega, rfl, HI, B3⟩
      case round =>
        clear HI B3
        obtain ⟨k, hk, rfl, hB, hbel⟩ := hrel
        have hsz := hbel.size
        by_cases hlt : k + 1 < ss.length
        · have q : (k : Int) < ((ss.length - 1 : Nat) : Int) := by omega
          have hc1 := HCell.out (k + 1) hlt wr hbel
          have hln := jl_len ss k (by omega)
          have ht2 := tot_take_le ss (k + 1)
          have hts := tot_take ss (k + 1) hlt
          have ht4 := tot_take_le ss (k + 1 + 1)
          obtain ⟨s, hse⟩ : ∃ s, ss.getD (k + 1) ByteArray.empty = s := ⟨_, rfl⟩
          have hjl : jl ss (k + 1) = jl ss k ++ ([32] ++ s.data.toList) := by rw [jl, hse]; rfl
          rw [hse] at hc1 hts
          have hl1 : (Lib.byteCells (jl ss k)).length + (⟨#[32]⟩ : ByteArray).size ≤ 140737488355328 := by
            rw [Lib.byteCells_length]; show _ + 1 ≤ _; omega
          have hW1 := writeString w.heap.size w.heap.size _ ⟨#[32]⟩ wr hB hl1 hsz
          have hl2 : ∀ bs : List Value, bs.length = (jl ss k).length + 1 → bs.length + s.size ≤ 140737488355328 := fun bs e => by omega
          have HJ : Hid (jl ss (k + 1) = jl ss k ++ ([32] ++ s.data.toList)) := hjl
          rw [show off + (k + 1) = off + 1 + k by omega] at hc1
          clear hts ht2 ht4 hln hse hjl hl1
          go_wp2_with fail
          refine hW1.mono ?_; rintro e w4 ⟨rfl, h4, b4⟩
          have hW2 := writeString w.heap.size w.heap.size _ s w4 (.inr h4) (hl2 _ (by rw [List.length_append, Lib.byteCells_length]; rfl)) (Nat.le_trans hsz b4.size)
          clear hW1 hl2
          go_wp2_with fail
          refine hW2.mono ?_; rintro e w5 ⟨rfl, h5, b5⟩
          have HI : Hid (Lib.IsBuilder 71 5 w.heap.size w.heap.size (Lib.byteCells (jl ss (k + 1))) w5) := by
            show Lib.IsBuilder _ _ _ _ _ _
            rw [HJ.out, Lib.byteCells_append, Lib.byteCells_append, ← List.append_assoc, ← Lib.strCells_eq]
            exact .inr h5
          have B5 := (hbel.trans b4).trans b5
          clear hW2 h4 h5 b4 b5 hB
          go_wp2
          go_roundw
          case rel => exact ⟨k + 1, by omega, by go_num, HI.out, B5⟩
          case measure => simp [intOf]; omega
        · have q : ¬ (k : Int) < ((ss.length - 1 : Nat) : Int) := by omega
          have ek : k = ss.length - 1 := by omega
          have hSt := Tryd.Builder_String_any _ _ _ _ hB hsz
          go_wp2_with fail
          refine hSt.mono ?_; rintro e w4 ⟨rfl, b4⟩
          have B4 := hbel.trans b4
          clear hSt b4 hB hbel
          go_wp2
          go_ret
          refine ⟨?_, B4⟩
          unfold jnB
          rw [← ek]
          rfl
end Go.Proofs.YtciddfpkcdicaaaDoor
