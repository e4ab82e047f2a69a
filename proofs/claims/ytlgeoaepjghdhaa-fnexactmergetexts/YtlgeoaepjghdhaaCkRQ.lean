/- The contracts of the laws' helpers over ChunksResult. No statement is proved here. -/
import Derived.Test.YtlgeoaepjghdhaaRows
import Derived.Test.YtlgeoaepjghdhaaLemQ
import Derived.Test.YtlgeoaepjghdhaaMarksQ
import Derived.Test.YtlgeoaepjghdhaaDTabQ
import Derived.Test.YtlgeoaepjghdhaaInQ
import Derived.Test.YtlgeoaepjghdhaaCkLQ
import Derived.Test.YtlgeoaepjghdhaaCkNQ
import Derived.Test.YtlgeoaepjghdhaaCkTQ
import Derived.Test.YtlgeoaepjghdhaaCkMQ
import Derived.WalkKit
import Derived.ProofKit
import Derived.Below
import Derived.WalkSpells
namespace Go.Proofs.Ytlgeoaepjghdhaa
open Go.ChangeShapes Go.WideShapes Go.ChangeAt Go.RowKit

set_option maxHeartbeats 1000000 in
theorem eqChunksResult (c : Int) (a1 a2 : Option Addr) (c1 c2 : Nat) (l : List Ck) (w : World) (h1 : KB w.heap.size w a1 l) (h2 : KB w.heap.size w a2 l) (hs : ShortK l) (hn : l.length ≤ 1048576) :
    Calls Try.prog 12 #[.agg #[.int .i64 c, .slice a1 l.length c1], .agg #[.int .i64 c, .slice a2 l.length c2]] w fun e w' => e = .returned (.bool true) ∧ Below w.heap.size w w' := by
  have hN : ∀ o1 o2, Below w.heap.size w ((w.alloc o1).alloc o2) := fun o1 o2 => ((Below.refl _ _).alloc (Nat.le_refl _) _).alloc (by simp) _
  have q0 : (c != c) = false := by simp
  go_enter Try.func12, Try.ntmps12
  go_wp2_with fail
  refine (eqChunkS a1 a2 c1 c2 l _ ((h1.below (hN _ _)).mono (by simp; omega)) ((h2.below (hN _ _)).mono (by simp; omega)) hs hn).mono ?_; rintro e w1 ⟨rfl, b1⟩
  have BB := (hN (.cells #[.int .i64 c, .slice a1 l.length c1] 26) (.cells #[.int .i64 c, .slice a2 l.length c2] 26)).trans (b1.mono (by simp; omega))
  clear b1
  go_wp2_with fail
  go_ret
  exact ⟨rfl, BB⟩

set_option maxRecDepth 20000 in
set_option maxHeartbeats 2000000 in
theorem heldChunkS (a : Option Addr) (c m : Nat) (l : List Ck) (w : World) (h1 : 1 ≤ m) (h2 : m + mkK l l.length ≤ 4194304) (h : KB w.heap.size w a (mixX l m l.length)) :
    Calls Try.prog 47 #[.slice a l.length c, .int .i64 m] w fun e w' => e = .returned (.int .i64 ((m + mkK l l.length : Nat) : Int)) ∧ Below w.heap.size w w' := by
  have hln : l.length ≤ 4194304 := by have := mkK_full l; omega
  go_enter Try.func47, Try.ntmps47
  go_wp2
  go_loopw [1, 5] (fun t i wr => ∃ k : Nat, k ≤ l.length ∧ i = .int .i64 k ∧ t = .int .i64 ((m + mkK l k : Nat) : Int) ∧ Below w.heap.size w wr) (fun _ i _ => l.length - (intOf i).toNat)
  case atStart => exact ⟨0, Nat.zero_le _, rfl, by simp [mkK], Below.refl _ _⟩
  case round =>
    obtain ⟨k, hk, rfl, rfl, hbel⟩ := hrel
    have hsz := hbel.size
    by_cases hlt : k < l.length
    · have q : (k : Int) < (l.length : Int) := by omega
      have hsu := mkK_succ l k hlt
      have hle2 := mkK_le l (k + 1)
      obtain ⟨g, off, a1, c1, a2, c2, a3, c3, e, hg, d0, d1, d2, d3, s1, s2, s3⟩ := h.below hbel k (by rw [mixX_length]; exact hlt)
      subst e
      have hat := mixX_at l m l.length k hlt
      rw [if_pos hlt] at hat
      have hX : mkX l m k = mkC (m + mkK l k) (l.getD k cnil).2.1.length (l.getD k cnil).2.2.1.length (l.getD k cnil).2.2.2.length := rfl
      unfold mk1 at hsu
      obtain ⟨C, hCe⟩ : ∃ C, l.getD k cnil = C := ⟨_, rfl⟩
      obtain ⟨x0, x1, x2, x3⟩ := C
      rw [hCe] at hX hsu
      simp only [] at hX hsu
      obtain ⟨V, hV⟩ : ∃ V : Nat, m + mkK l k = V := ⟨_, rfl⟩
      rw [hV] at hX
      rw [hat, hX] at d0 d1 d2 d3 s1 s2 s3
      unfold mkC at d0 d1 d2 d3 s1 s2 s3
      simp only [] at d0 d1 d2 d3 s1 s2 s3
      rw [marks_length] at d1 d2 d3
      obtain ⟨VI, hVI⟩ : ∃ VI : Int, (V : Int) = VI := ⟨_, rfl⟩
      rw [hVI] at d0
      have z1 := s1.1
      have z2 := s2.1
      have z3 := s3.1
      have hM1 := heldStringS a1 x1.length c1 (V + 1) wr (by omega) (by omega) (z1.toSS hsz)
      have hM2 := fun w' h => heldStringS a2 x2.length c2 (V + 1 + x1.length) w' (by omega) (by omega) h
      have hM3 := fun w' h => heldStringS a3 x3.length c3 (V + 1 + x1.length + x2.length) w' (by omega) (by omega) h
      rw [show ((V + 1 : Nat) : Int) = VI + 1 by omega] at hM1
      obtain ⟨T1, hT1⟩ : ∃ T : Int, ((V + 1 + x1.length : Nat) : Int) = T := ⟨_, rfl⟩
      obtain ⟨T2, hT2⟩ : ∃ T : Int, ((V + 1 + x1.length + x2.length : Nat) : Int) = T := ⟨_, rfl⟩
      obtain ⟨T3, hT3⟩ : ∃ T : Int, ((V + 1 + x1.length + x2.length + x3.length : Nat) : Int) = T := ⟨_, rfl⟩
      have HT3 : Hid (((V + 1 + x1.length + x2.length + x3.length : Nat) : Int) = T3) := hT3
      have p1 : ¬ T1 < 0 := by omega
      have p2 : ¬ T2 < 0 := by omega
      have p3 : ¬ T3 < 0 := by omega
      rw [hT1] at hM1
      rw [hT1, hT2] at hM2
      rw [hT2, hT3] at hM3
      have hVp : 0 ≤ VI := by omega
      have hVl : VI < 16777216 := by omega
      have b0 : (VI != VI) = false := by simp
      have HK : Hid (m + mkK l (k + 1) = V + 1 + x1.length + x2.length + x3.length) := by show _ = _; omega
      rw [hV, hVI]
      clear hat hX hsu hle2 hV hCe hT1 hT2 hT3 hVI s1 s2 s3
      go_wp2_with fail
      refine hM1.mono ?_; rintro e w2 ⟨rfl, b2⟩
      have B2 := below_step hbel hsz b2
      have d2' := (Fr.ofBelow (lo := 0) (hi := 0) b2).cell d2 (.inr (Nat.zero_le _))
      have d3' := (Fr.ofBelow (lo := 0) (hi := 0) b2).cell d3 (.inr (Nat.zero_le _))
      have z2' := z2.below b2
      have z3' := z3.below b2
      clear d0 d1 d2 d3 z1 z2 z3 b2 hM1
      go_wp2_with fail
      refine (hM2 _ (z2'.toSS B2.size)).mono ?_; rintro e w3 ⟨rfl, b3⟩
      have B3 := below_step B2 B2.size b3
      have d3 := (Fr.ofBelow (lo := 0) (hi := 0) b3).cell d3' (.inr (Nat.zero_le _))
      have z3 := z3'.below b3
      clear d2' d3' z2' z3' b3 hM2
      go_wp2_with fail
      refine (hM3 _ (z3.toSS B3.size)).mono ?_; rintro e w4 ⟨rfl, b4⟩
      have B4 := below_step B3 B3.size b4
      clear d3 z3 b4 hM3
      go_wp2
      go_roundw
      case rel => exact ⟨k + 1, by omega, by first | rfl | go_num, by rw [HK.out, HT3.out], B4⟩
      case measure => first | (simp [intOf]; omega) | simp [intOf]
    · have q : ¬ (k : Int) < (l.length : Int) := by omega
      obtain rfl : k = l.length := by omega
      go_wp2
      go_ret
      exact ⟨rfl, hbel⟩

theorem markNilK (m : Nat) (w : World) : Calls Try.prog 46 #[.slice none 0 0, .int .i64 m] w fun e w' => e = .returned (.int .i64 (m : Int)) ∧ w' = w := by
  go_enter Try.func46, Try.ntmps46
  go_wp2
  go_loop [1, 5] (fun t i => t = .int .i64 (m : Int) ∧ i = .int .i64 0) (fun _ _ => 0)
  case atStart => exact ⟨rfl, rfl⟩
  case round =>
    obtain ⟨rfl, rfl⟩ := hrel
    go_wp2
    go_ret
    exact ⟨rfl, rfl⟩

set_option maxHeartbeats 1000000 in
theorem markChunksAny (x : Int) (base hi : Nat) (a : Option Addr) (c m : Nat) (l : List Ck) (sl : Nat → Value) (w : World) (h1 : 1 ≤ m) (h2 : m + mkK l l.length ≤ 4194304) (h : KO base w (.slice a l.length c) l sl)
    (hg : ∀ b, (Value.slice a l.length c).ownBlock = some b → b < hi) (hb : ∀ k, k < l.length * 3 → ∀ b, (sl k).ownBlock = some b → b < hi) :
    Calls Try.prog 15 #[.agg #[.int .i64 x, .slice a l.length c], .int .i64 m] w fun e w' => e = .returned (.int .i64 ((m + mkK l l.length : Nat) : Int)) ∧ KO base w' (.slice a l.length c) (mixX l m l.length) sl ∧ Fr base hi w w' := by
  rcases h.row.2 with ⟨e, h0⟩ | ⟨g, cap, cur, e, _⟩
  · have hl : l = [] := List.eq_nil_of_length_eq_zero h0
    subst hl
    simp only [Value.slice.injEq] at e
    obtain ⟨rfl, _, rfl⟩ := e
    have em : m + mkK [] ([] : List Ck).length = m := by simp [mkK]
    have ex : mixX ([] : List Ck) m ([] : List Ck).length = [] := by simp [mixX]
    rw [em, ex]
    have F1 := Fr.ofAlloc (lo := base) (hi := hi) w (.cells #[.int .i64 x, .slice none 0 0] 26)
    clear h hg hb h2 em ex
    show Calls Try.prog 15 #[.agg #[.int .i64 x, .slice none 0 0], .int .i64 m] w fun e w' => e = .returned (.int .i64 (m : Int)) ∧ KO base w' (.slice none 0 0) [] sl ∧ Fr base hi w w'
    go_enter Try.func15, Try.ntmps15
    go_wp2_with fail
    refine (markNilK m _).mono ?_; rintro e w1 ⟨rfl, rfl⟩
    go_wp2_with fail
    go_ret
    exact ⟨rfl, KO.nil _ _ _, F1⟩
  · simp only [Value.slice.injEq] at e
    obtain ⟨rfl, _, rfl⟩ := e
    have hA := fun o => h.below (allocBelow w o)
    have hg' := hg g rfl
    go_enter Try.func15, Try.ntmps15
    go_wp2_with fail
    refine (markChunkS base hi g c m l sl _ h1 h2 (hA _) hg' hb).mono ?_; rintro e w1 ⟨rfl, p1, F1⟩
    have F2 := (Fr.ofAlloc (lo := base) (hi := hi) w (.cells #[.int .i64 x, .slice (some ⟨g, 0, none⟩) l.length c] 26)).trans F1
    clear F1
    go_wp2_with fail
    go_ret
    exact ⟨rfl, p1, F2⟩

set_option maxHeartbeats 1000000 in
theorem heldChunksResult (x : Int) (a : Option Addr) (c m : Nat) (l : List Ck) (w : World) (h1 : 1 ≤ m) (h2 : m + mkK l l.length ≤ 4194304) (h : KB w.heap.size w a (mixX l m l.length)) :
    Calls Try.prog 16 #[.agg #[.int .i64 x, .slice a l.length c], .int .i64 m] w fun e w' => e = .returned (.int .i64 ((m + mkK l l.length : Nat) : Int)) ∧ Below w.heap.size w w' := by
  have hB : ∀ o, Below w.heap.size w (w.alloc o) := fun o => allocBelow w o
  have hA := fun W hW => heldChunkS a c m l W h1 h2 hW
  obtain ⟨M, hM⟩ : ∃ M : Int, ((m + mkK l l.length : Nat) : Int) = M := ⟨_, rfl⟩
  have hp : ¬ M < 0 := by omega
  rw [hM] at hA ⊢
  clear hM
  go_enter Try.func16, Try.ntmps16
  go_wp2_with fail
  refine (hA _ ((h.below (hB _)).mono (by simp))).mono ?_; rintro e w1 ⟨rfl, b1⟩
  have BB := (hB (.cells #[.int .i64 x, .slice a l.length c] 26)).trans (b1.mono (by simp))
  clear b1
  go_wp2_with fail
  go_ret
  exact ⟨rfl, BB⟩
theorem marks_fit (m n : Nat) (h : m + n ≤ 4194304) : ∀ k, k < (marks m n).length → ((marks m n).getD k ByteArray.empty).size ≤ 9223372036854775807 := fun k hk => by
  rw [marks_length] at hk
  rw [marks_at m n k hk]
  exact mtxt_size _ (by omega)
/-- A marked line is short; so are the lines of marked chunks. -/
theorem mixX_fits {l : List Ck} {m : Nat} (h : m + mkK l l.length ≤ 4194304) : FitsK (mixX l m l.length) := fun ss hss k hk => by
  obtain ⟨y, hy, hq⟩ := mem_of_lns hss
  unfold mixX at hy
  obtain ⟨i, hi, e⟩ := List.mem_map.1 hy
  have hi' : i < l.length := List.mem_range.1 hi
  rw [if_pos hi'] at e
  subst e
  have h1 := mkK_le l (i + 1)
  rw [mkK_succ l i hi'] at h1
  unfold mk1 at h1
  unfold mkX mkC at hq
  rcases hq with rfl | rfl | rfl
  · exact marks_fit _ _ (by omega) k hk
  · exact marks_fit _ _ (by omega) k hk
  · exact marks_fit _ _ (by omega) k hk
/-- The answer with code r and chunks L, in memory of its own. -/
def KP2 (r : Int) (L : List Ck) (w : World) (e : Ending) (w' : World) : Prop := ∃ v sl, e = .returned (.agg #[.int .i64 r, v]) ∧ KO w.heap.size w' v L sl ∧ Below w.heap.size w w'
end Go.Proofs.Ytlgeoaepjghdhaa
