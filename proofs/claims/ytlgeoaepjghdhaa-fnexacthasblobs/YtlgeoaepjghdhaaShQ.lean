/- The contract of shelfOf. No statement is proved here. -/
import Derived.Test.YtlgeoaepjghdhaaRows
import Derived.Test.YtlgeoaepjghdhaaLem
import Derived.Test.YtlgeoaepjghdhaaStrs
import Derived.Test.YtlgeoaepjghdhaaDTab
import Derived.Test.YtlgeoaepjghdhaaOwn
import Derived.Test.YtlgeoaepjghdhaaFr
import Derived.Test.YtlgeoaepjghdhaaIn
import Derived.Test.YtlgeoaepjghdhaaHkT
import Derived.Test.YtlgeoaepjghdhaaIdM
import Derived.Test.YtlgeoaepjghdhaaObL
import Derived.Test.YtlgeoaepjghdhaaSfC
import Derived.Test.YtlgeoaepjghdhaaShM
import Derived.Test.YtlgeoaepjghdhaaShI
import Derived.Test.YtlgeoaepjghdhaaShP
import Derived.WalkKit
import Derived.ProofKit
import Derived.Below
import Derived.WalkSpells
import Derived.Laws.Cover1
namespace Go.Proofs.Ytlgeoaepjghdhaa
open Go.ChangeShapes Go.WideShapes Go.ChangeAt Go.RowKit

theorem bl_irr : ∀ a : List UInt8, Op.bytesLess a a = false
  | [] => rfl
  | x :: a => by
    have := bl_irr a
    simp [Op.bytesLess, this]
theorem bl_trans : ∀ a b c : List UInt8, Op.bytesLess a b = true → Op.bytesLess b c = true → Op.bytesLess a c = true
  | _, [], _, h, _ => by simp [Op.bytesLess] at h
  | _, _ :: _, [], _, h => by simp [Op.bytesLess] at h
  | [], _ :: _, _ :: _, _, _ => rfl
  | x :: a, y :: b, z :: c, h, k => by
    simp only [Op.bytesLess, Bool.or_eq_true, Bool.and_eq_true, decide_eq_true_eq, beq_iff_eq] at h k ⊢
    rcases h with h | ⟨rfl, h⟩
    · rcases k with k | ⟨rfl, k⟩
      · exact .inl (UInt8.lt_trans h k)
      · exact .inl h
    · rcases k with k | ⟨rfl, k⟩
      · exact .inl k
      · exact .inr ⟨rfl, bl_trans a b c h k⟩
theorem bl_total : ∀ a b : List UInt8, Op.bytesLess a b = true ∨ a = b ∨ Op.bytesLess b a = true
  | [], [] => .inr (.inl rfl)
  | [], _ :: _ => .inl rfl
  | _ :: _, [] => .inr (.inr rfl)
  | x :: a, y :: b => by
    simp only [Op.bytesLess, Bool.or_eq_true, Bool.and_eq_true, decide_eq_true_eq, beq_iff_eq]
    by_cases h1 : x < y
    · exact .inl (.inl h1)
    · by_cases h2 : y < x
      · exact .inr (.inr (.inl h2))
      · have e : x = y := by
          apply UInt8.toNat_inj.1
          have a1 : ¬ x.toNat < y.toNat := h1
          have a2 : ¬ y.toNat < x.toNat := h2
          omega
        subst e
        rcases bl_total a b with h | h | h
        · exact .inl (.inr ⟨rfl, h⟩)
        · exact .inr (.inl (by rw [h]))
        · exact .inr (.inr (.inr ⟨rfl, h⟩))
theorem sf_size {l : List Ob} (h : sf l = 0) (k : Nat) (hk : k < l.length) : (l.getD k onil).1.size = 5 := by
  have h0 := (sf_zero h).2 k hk
  unfold obF at h0
  split at h0
  · rename_i e
    split at h0
    · rename_i e2
      rw [← e2]
      unfold idK at e
      unfold idT
      split at e
      · rename_i e3
        rw [if_pos e3, if_pos e]
        rfl
      · omega
    · omega
  · rename_i e; exact absurd h0 e
theorem sf_step {l : List Ob} (h : sf l = 0) (k : Nat) (hk : k + 1 < l.length) : Op.bytesLess (l.getD k onil).1.toList (l.getD (k + 1) onil).1.toList = true := by
  have h0 := (sf_zero h).2 (k + 1) hk
  unfold obF at h0
  split at h0
  · split at h0
    · split at h0
      · omega
      · rename_i e
        have e' : ¬ leS (l.getD (k + 1) onil).1 (l.getD k onil).1 = true := fun e2 => e ⟨by omega, e2⟩
        unfold leS at e'
        rcases bl_total (l.getD k onil).1.toList (l.getD (k + 1) onil).1.toList with a | a | a
        · exact a
        · rw [a] at e'; simp at e'
        · rw [a] at e'; simp at e'
    · omega
  · rename_i e; exact absurd h0 e
theorem sf_less {l : List Ob} (h : sf l = 0) (j : Nat) : ∀ k, j < k → k < l.length → Op.bytesLess (l.getD j onil).1.toList (l.getD k onil).1.toList = true := by
  intro k
  induction k with
  | zero => intro h1; omega
  | succ k ih =>
    intro h1 h2
    have hs := sf_step h k h2
    by_cases e : j = k
    · rw [e]; exact hs
    · exact bl_trans _ _ _ (ih (by omega) (by omega)) hs
theorem sf_new {l : List Ob} (h : sf l = 0) (k : Nat) (hk : k < l.length) : ∀ o ∈ l.take k, o.1 ≠ (l.getD k onil).1 := by
  intro o ho e
  obtain ⟨j, hj, rfl⟩ := List.mem_iff_getElem.1 ho
  rw [List.length_take] at hj
  have := sf_less h j k (by omega) hk
  rw [List.getElem_take, show l[j] = l.getD j onil by rw [List.getD, List.getElem?_eq_getElem (by omega)]; rfl] at e
  rw [e, bl_irr] at this
  cases this

set_option maxRecDepth 20000 in
set_option maxHeartbeats 2000000 in
theorem shelfOfC (a : Option Addr) (c : Nat) (l : List Ob) (w : World) (h : OB w.heap.size w a l) (hf : sf l = 0) :
    Calls Try.prog 65 #[.slice a l.length c] w fun e w' => e = .returned (.pointer (some ⟨w.heap.size + 1, 0, none⟩)) ∧ Rf w' (w.heap.size + 1) [.map (some w.heap.size), .int .i64 (l.length : Int)] ∧ Sh w' w.heap.size l ∧ Below w.heap.size w w' ∧ w.heap.size + 1 < w'.heap.size := by
  have hmm := @run_makeMap Try.prog
  have hlen := (sf_zero hf).1
  obtain ⟨WA, hWA⟩ : ∃ W, w.alloc (.map #[] 0) = W := ⟨_, rfl⟩
  have bA : Below w.heap.size w WA := by rw [← hWA]; exact allocBelow _ _
  have zA : WA.heap.size = w.heap.size + 1 := by rw [← hWA]; simp
  have SA : Sh WA w.heap.size [] := by rw [← hWA]; exact Sh.new w
  obtain ⟨W0, hW0⟩ : ∃ W, WA.alloc (.cells #[.map (some w.heap.size), .int .i64 0] 141) = W := ⟨_, rfl⟩
  have b0 : Below WA.heap.size WA W0 := by rw [← hW0]; exact allocBelow _ _
  have z0 : W0.heap.size = w.heap.size + 1 + 1 := by rw [← hW0]; simp [zA]
  have R0 : Rf W0 (w.heap.size + 1) [.map (some w.heap.size), .int .i64 0] := by rw [← hW0, ← zA]; exact Rf.new _ _ _
  have S0 := SA.below b0
  have B0 : Below w.heap.size w W0 := bA.trans (b0.mono (by omega))
  clear SA b0 bA
  go_enter Try.func65, Try.ntmps65
  go_wp2
  go_loopw [5, 11] (fun _o i wr => ∃ k : Nat, k ≤ l.length ∧ i = .int .i64 k ∧ Rf wr (w.heap.size + 1) [.map (some w.heap.size), .int .i64 (k : Int)] ∧ Sh wr w.heap.size (l.take k) ∧ Below w.heap.size w wr ∧ w.heap.size + 1 < wr.heap.size) (fun _ i _ => l.length - (intOf i).toNat)
  case atStart => exact ⟨0, Nat.zero_le _, rfl, R0, S0, B0, by omega⟩
  case round =>
    obtain ⟨k, hk, rfl, hR, hS, hB, hz⟩ := hrel
    by_cases hlt : k < l.length
    · have q : (k : Int) < (l.length : Int) := by omega
      obtain ⟨g, off, e, hg, d0, d1, d2⟩ := h k hlt
      subst e
      have d0 := (hB.cell (p := ⟨g, off + k * 3, none⟩) hg).trans d0
      have d1 := (hB.cell (p := ⟨g, off + k * 3 + 1, none⟩) hg).trans d1
      have d2 := (hB.cell (p := ⟨g, off + k * 3 + 2, none⟩) hg).trans d2
      have h5 := sf_size hf k hlt
      have hn := sf_new hf k hlt
      have hT := ob_take l k hlt
      have hlk : (l.take k).length = k := by rw [List.length_take]; omega
      obtain ⟨C, hCe⟩ : ∃ C, l.getD k onil = C := ⟨_, rfl⟩
      obtain ⟨x0, x1, x2⟩ := C
      rw [hCe] at d0 d1 d2 h5 hn hT
      simp only [] at d0 d1 d2 h5 hn
      obtain ⟨W3, hW3⟩ : ∃ W, wr.alloc (.cells #[.string x0, .int .i64 x1, .string x2] 100) = W := ⟨_, rfl⟩
      have b3 : Below wr.heap.size wr W3 := by rw [← hW3]; exact allocBelow _ _
      have o3 : Rs W3 wr.heap.size [.string x0, .int .i64 x1, .string x2] := by rw [← hW3]; exact Rs.new _ _ _
      have m0 := o3 0 _ rfl
      have m1 := o3 1 _ rfl
      have m2 := o3 2 _ rfl
      have z3 := b3.size
      have R3 := hR.below hz b3
      have S3 := hS.below b3
      have B3 : Below w.heap.size w W3 := hB.trans (b3.mono (by omega))
      have hP := putNew (w.heap.size + 1) w.heap.size (l.take k) x0 x2 x1 W3 (by rw [hlk]; exact R3) (by omega) (by omega) S3 h5 hn (by omega)
      rw [hlk, ← hT] at hP
      clear hT hn h5 R3 S3 hR hS hB b3 o3 hCe
      go_wp2_with fail
      refine hP.mono ?_; rintro e w4 ⟨rfl, R4, S4, b4, z4, -⟩
      have B4 : Below w.heap.size w w4 := B3.trans b4
      have HR4 : Hid (Rf w4 _ _) := R4
      have HS4 : Hid (Sh w4 _ _) := S4
      have HB4 : Hid (Below _ w w4) := B4
      clear R4 S4 B4 B3 b4 hP
      go_wp2
      go_roundw
      case rel => exact ⟨k + 1, by omega, by first | rfl | go_num, HR4.out, HS4.out, HB4.out, by omega⟩
      case measure => first | (simp [intOf]; omega) | simp [intOf]
    · have q : ¬ (k : Int) < (l.length : Int) := by omega
      have e : k = l.length := by omega
      subst e
      rw [List.take_of_length_le (by omega)] at hS
      have HR4 : Hid (Rf wr _ _) := hR
      have HS4 : Hid (Sh wr _ _) := hS
      have HB4 : Hid (Below _ w wr) := hB
      clear hR hS hB
      go_wp2
      go_ret
      exact ⟨rfl, HR4.out, HS4.out, HB4.out, hz⟩
end Go.Proofs.Ytlgeoaepjghdhaa
