/- Contracts of the laws' helpers over lists of changes and of ChangesOf (the program's and the specification's). No statement is proved here. -/
import Derived.Test.YtakegfhbhhkakahRows
import Derived.Test.YtakegfhbhhkakahLem
import Derived.Test.YtakegfhbhhkakahStrs
import Derived.Test.YtakegfhbhhkakahLFLem
import Derived.Test.YtakegfhbhhkakahLF
import Derived.Test.YtakegfhbhhkakahCom
import Derived.Test.YtakegfhbhhkakahCom2
import Derived.Test.YtakegfhbhhkakahAsked
import Derived.Test.YtakegfhbhhkakahDTab
import Derived.Test.YtakegfhbhhkakahSTab
import Derived.Test.YtakegfhbhhkakahPairs
import Derived.Test.YtakegfhbhhkakahIntS
import Derived.Test.YtakegfhbhhkakahFr
import Derived.Test.YtakegfhbhhkakahChg
import Derived.Test.YtakegfhbhhkakahEdC
import Derived.WalkKit
import Derived.ProofKit
import Derived.Below
import Derived.WalkSpells
import Derived.RegionTactic
import Derived.Deep.RegionWith
namespace Go.Proofs.Ytakegfhbhhkakah
open Go.ChangeShapes Go.WideShapes Go.ChangeAt Go.RowKit

set_option maxHeartbeats 1000000 in
theorem eqChange (x0 x1 x2 x3 : Int) (w : World) :
    Calls Try.prog 53 #[.agg #[.int .i64 x0, .int .i64 x1, .int .i64 x2, .int .i64 x3], .agg #[.int .i64 x0, .int .i64 x1, .int .i64 x2, .int .i64 x3]] w fun e w' => e = .returned (.bool true) ∧ Below w.heap.size w w' := by
  have e0 : (x0 != x0) = false := by simp
  have e1 : (x1 != x1) = false := by simp
  have e2 : (x2 != x2) = false := by simp
  have e3 : (x3 != x3) = false := by simp
  go_enter Try.func53, Try.ntmps53
  go_wp2
  go_ret
  exact ⟨rfl, ((Below.refl _ _).alloc (Nat.le_refl _) _).alloc (by simp) _⟩

set_option maxRecDepth 20000 in
set_option maxHeartbeats 2000000 in
theorem eqChangeS (B1 B2 : Nat) (a1 a2 : Option Addr) (c1 c2 : Nat) (l : List Chg) (w : World) (h1 : CB B1 w a1 l) (h2 : CB B2 w a2 l) (hn : l.length ≤ 1048576) :
    Calls Try.prog 26 #[.slice a1 l.length c1, .slice a2 l.length c2] w fun e w' => e = .returned (.bool true) ∧ Below w.heap.size w w' := by
  have hl : ((l.length : Int) != (l.length : Int)) = false := by simp
  go_enter Try.func26, Try.ntmps26
  go_wp2
  go_loopw [5] (fun i wr => ∃ k : Nat, k ≤ l.length ∧ i = .int .i64 k ∧ Below w.heap.size w wr) (fun i _ => l.length - (intOf i).toNat)
  case atStart => exact ⟨0, Nat.zero_le _, rfl, Below.refl _ _⟩
  case round =>
    obtain ⟨k, hk, rfl, hbel⟩ := hrel
    have hsz := hbel.size
    by_cases hlt : k < l.length
    · have q : (k : Int) < (l.length : Int) := by omega
      obtain ⟨g, off, e, _, d0, d1, d2, d3⟩ := h1.below hbel k hlt
      obtain ⟨g', off', e', _, f0, f1, f2, f3⟩ := h2.below hbel k hlt
      subst e e'
      obtain ⟨C, hCe⟩ : ∃ C, l.getD k (0, 0, 0, 0) = C := ⟨_, rfl⟩
      obtain ⟨x0, x1, x2, x3⟩ := C
      rw [hCe] at d0 d1 d2 d3 f0 f1 f2 f3
      simp only [] at d0 d1 d2 d3 f0 f1 f2 f3
      clear hCe h1 h2
      go_wp2
      go_region_with (go_at_call 53; refine (eqChange _ _ _ _ _).mono ?_; rintro e w' ⟨rfl, b⟩)
      all_goals
        have b' : Below wr.heap.size wr w' := (below_drew (Below.refl wr.heap.size wr)).trans b
        have HB : Hid (Below w.heap.size w w') := below_step hbel hsz b'
        clear d0 d1 d2 d3 f0 f1 f2 f3 b b' hbel
        go_wp2
        go_roundw
        case rel => exact ⟨k + 1, by omega, by go_num, by first | exact HB.out | exact below_drew HB.out | exact below_drewN' HB.out _⟩
        case measure => first | (simp [intOf]; omega) | simp [intOf]
    · have q : ¬ (k : Int) < (l.length : Int) := by omega
      go_wp2
      go_ret
      exact ⟨rfl, hbel⟩

set_option maxRecDepth 20000 in
set_option maxHeartbeats 2000000 in
theorem markChangeS (base : Nat) (v : Value) (n m : Nat) (xs : List Value) (w : World) (h2 : m + n * 4 ≤ 16777216) (ho : w.ownsRow base 68 4 v n xs) :
    Calls Try.prog 27 #[v, .int .i64 m] w fun e w' => e = .returned (.int .i64 ((m + n * 4 : Nat) : Int)) ∧
      w'.ownsRow base 68 4 v n (marksI m (n * 4)) ∧ w.grownBy w' v.ownBlock := by
  have hxl : xs.length = n * 4 := ho.1
  obtain ⟨a, cap, rfl⟩ : ∃ a cap, v = .slice a n cap := by
    rcases ho.2 with ⟨rfl, rfl⟩ | ⟨g, cap, cur, rfl, _⟩
    · exact ⟨_, _, rfl⟩
    · exact ⟨_, _, rfl⟩
  go_enter Try.func27, Try.ntmps27
  go_wp2
  go_loopw [1, 5] (fun t i wr => ∃ k : Nat, k ≤ n ∧ i = .int .i64 k ∧ t = .int .i64 ((m + k * 4 : Nat) : Int) ∧ wr.ownsRow base 68 4 (.slice a n cap) n (mixI xs m (k * 4)) ∧ w.grownBy wr (Value.slice a n cap).ownBlock) (fun _ i _ => n - (intOf i).toNat)
  case atStart => exact ⟨0, Nat.zero_le _, rfl, rfl, by simpa [mixI, marksI] using ho, World.grownBy.refl _ _⟩
  case round =>
    obtain ⟨k, hk, rfl, rfl, hor, hgr⟩ := hrel
    by_cases hlt : k < n
    · obtain ⟨g, rfl⟩ : ∃ g, a = some ⟨g, 0, none⟩ := by
        rcases hor.2 with ⟨h', h0⟩ | ⟨g, c, cur, h', _⟩
        · omega
        · simp only [Value.slice.injEq] at h'; exact ⟨g, h'.1⟩
      have q : (k : Int) < (n : Int) := by omega
      have hlen : (mixI xs m (k * 4)).length = n * 4 := hor.1
      have hcell : ∀ j, j < 4 → ∃ u, wr.cell? ⟨g, k * 4 + j, none⟩ = some u := fun j hj => by
        rw [hor.cellAt (k * 4 + j) (by omega), List.getElem?_eq_getElem (by omega)]; exact ⟨_, rfl⟩
      obtain ⟨u0, d0⟩ := hcell 0 (by omega)
      obtain ⟨u1, d1⟩ := hcell 1 (by omega)
      obtain ⟨u2, d2⟩ := hcell 2 (by omega)
      obtain ⟨u3, d3⟩ := hcell 3 (by omega)
      rw [Nat.add_zero] at d0
      have f0 := hor.frozenAt (k * 4)
      have f1 := hor.frozenAt (k * 4 + 1)
      have f2 := hor.frozenAt (k * 4 + 2)
      have f3 := hor.frozenAt (k * 4 + 3)
      obtain ⟨V, hV⟩ : ∃ V : Int, ((m + k * 4 : Nat) : Int) = V := ⟨_, rfl⟩
      have s0 := hor.stored (k * 4) (.int .i64 V)
      rw [← hV, mixI_set xs m (k * 4) (by omega), hV] at s0
      have s1 := s0.1.stored (k * 4 + 1) (.int .i64 (V + 1))
      rw [show V + 1 = ((m + (k * 4 + 1) : Nat) : Int) by omega, mixI_set xs m (k * 4 + 1) (by omega), show ((m + (k * 4 + 1) : Nat) : Int) = V + 1 by omega] at s1
      have s2 := s1.1.stored (k * 4 + 1 + 1) (.int .i64 (V + 1 + 1))
      rw [show V + 1 + 1 = ((m + (k * 4 + 1 + 1) : Nat) : Int) by omega, mixI_set xs m (k * 4 + 1 + 1) (by omega), show ((m + (k * 4 + 1 + 1) : Nat) : Int) = V + 1 + 1 by omega] at s2
      have s3 := s2.1.stored (k * 4 + 1 + 1 + 1) (.int .i64 (V + 1 + 1 + 1))
      rw [show V + 1 + 1 + 1 = ((m + (k * 4 + 1 + 1 + 1) : Nat) : Int) by omega, mixI_set xs m (k * 4 + 1 + 1 + 1) (by omega), show ((m + (k * 4 + 1 + 1 + 1) : Nat) : Int) = V + 1 + 1 + 1 by omega] at s3
      have hs := s3.1
      have hg := grownTrans (grownTrans (grownTrans (grownTrans hgr s0.2) s1.2) s2.2) s3.2
      have e4 : k * 4 + 1 + 1 + 1 + 1 = (k + 1) * 4 := by omega
      rw [e4] at hs
      have HV : Hid (((m + k * 4 : Nat) : Int) = V) := hV
      have hV3 : V < 16777216 := by omega
      have hV4 : 0 ≤ V := by omega
      have HS : Hid (World.ownsRow _ _ _ _ _ _ _) := hs
      have HG : Hid (World.grownBy _ _ _) := hg
      rw [hV]
      clear hor hgr s0 s1 s2 s3 hs hg hV hlen e4 hcell
      go_wp2
      go_roundw
      case rel => exact ⟨k + 1, by omega, by go_num, by (have := HV.out; congr 1; omega), by simpa [Int.add_assoc] using HS.out, by simpa [Int.add_assoc] using HG.out⟩
      case measure => first | (simp [intOf]; omega) | simp [intOf]
    · have q : ¬ (k : Int) < (n : Int) := by omega
      have e : k = n := by omega
      subst e
      have hfull : wr.ownsRow base 68 4 (.slice a k cap) k (marksI m (k * 4)) := by
        have : mixI xs m (k * 4) = marksI m (k * 4) := by unfold mixI; rw [List.drop_of_length_le (by omega), List.append_nil]
        rwa [this] at hor
      clear hor
      go_wp2
      go_ret
      exact ⟨rfl, hfull, hgr⟩

/-- Rows of four marks that can be read. -/
def IR4 (w : World) (a : Option Addr) (n m : Nat) : Prop := ∀ k, k < n → ∃ g, a = some ⟨g, 0, none⟩ ∧ g < w.heap.size ∧ ∀ j, j < 4 → w.cell? ⟨g, k * 4 + j, none⟩ = some (.int .i64 ((m + k * 4 + j : Nat) : Int))
theorem IR4.of {w : World} {base n m c : Nat} {a : Option Addr} (h : w.ownsRow base 68 4 (.slice a n c) n (marksI m (n * 4))) : IR4 w a n m := fun k hk => by
  rcases h.2 with ⟨_, h0⟩ | ⟨g, cap, cur, h', hb, hh, _⟩
  · omega
  · simp only [Value.slice.injEq] at h'
    obtain ⟨rfl, _, rfl⟩ := h'
    exact ⟨g, rfl, (Array.getElem?_eq_some_iff.1 hh).1, fun j hj => by rw [h.cellAt (k * 4 + j) (by omega), marksI_at m (n * 4) _ (by omega), Nat.add_assoc]⟩
theorem IR4.below {w w' : World} {a : Option Addr} {n m : Nat} (h : IR4 w a n m) (hb : Below w.heap.size w w') : IR4 w' a n m := fun k hk => by
  obtain ⟨g, e, hg, hc⟩ := h k hk
  exact ⟨g, e, Nat.lt_of_lt_of_le hg hb.size, fun j hj => (hb.cell (p := ⟨g, k * 4 + j, none⟩) hg).trans (hc j hj)⟩

set_option maxRecDepth 20000 in
set_option maxHeartbeats 2000000 in
theorem heldChangeS (a : Option Addr) (c n m : Nat) (w : World) (h2 : m + n * 4 ≤ 4194304) (h : IR4 w a n m) :
    Calls Try.prog 47 #[.slice a n c, .int .i64 m] w fun e w' => e = .returned (.int .i64 ((m + n * 4 : Nat) : Int)) ∧ ∃ q, w' = w.drewN q := by
  go_enter Try.func47, Try.ntmps47
  go_wp2
  go_loopw [1, 5] (fun t i wr => ∃ k : Nat, k ≤ n ∧ i = .int .i64 k ∧ t = .int .i64 ((m + k * 4 : Nat) : Int) ∧ ∃ q, wr = w.drewN q) (fun _ i _ => n - (intOf i).toNat)
  case atStart => exact ⟨0, Nat.zero_le _, rfl, rfl, 0, rfl⟩
  case round =>
    obtain ⟨k, hk, rfl, rfl, q, rfl⟩ := hrel
    by_cases hlt : k < n
    · have hq : (k : Int) < (n : Int) := by omega
      obtain ⟨g, e, _, hc⟩ := h k hlt
      subst e
      obtain ⟨V, hV⟩ : ∃ V : Int, ((m + k * 4 : Nat) : Int) = V := ⟨_, rfl⟩
      have d0 := hc 0 (by omega)
      have d1 := hc 1 (by omega)
      have d2 := hc 2 (by omega)
      have d3 := hc 3 (by omega)
      rw [show ((m + k * 4 + 0 : Nat) : Int) = V by omega, Nat.add_zero] at d0
      rw [show ((m + k * 4 + 1 : Nat) : Int) = V + 1 by omega] at d1
      rw [show ((m + k * 4 + 2 : Nat) : Int) = V + 1 + 1 by omega] at d2
      rw [show ((m + k * 4 + 3 : Nat) : Int) = V + 1 + 1 + 1 by omega] at d3
      have HV : Hid (((m + k * 4 : Nat) : Int) = V) := hV
      have hV3 : V < 4194304 := by omega
      have hV4 : 0 ≤ V := by omega
      rw [hV]
      clear hc hV
      go_wp2
      go_roundw
      case rel => exact ⟨k + 1, by omega, by go_num, by (have := HV.out; congr 1; omega), _, rfl⟩
      case measure => first | (simp [intOf]; omega) | simp [intOf]
    · have hq : ¬ (k : Int) < (n : Int) := by omega
      obtain rfl : k = n := by omega
      go_wp2
      go_ret
      exact ⟨rfl, _, rfl⟩

set_option maxHeartbeats 1000000 in
theorem eqChangesResult (B1 B2 : Nat) (c : Int) (a1 a2 : Option Addr) (c1 c2 : Nat) (l : List Chg) (w : World) (h1 : CB B1 w a1 l) (h2 : CB B2 w a2 l) (hn : l.length ≤ 1048576) :
    Calls Try.prog 13 #[.agg #[.int .i64 c, .slice a1 l.length c1], .agg #[.int .i64 c, .slice a2 l.length c2]] w fun e w' => e = .returned (.bool true) ∧ Below w.heap.size w w' := by
  have hb : (c != c) = false := by simp
  have hN : Below w.heap.size w ((w.alloc (.cells #[.int .i64 c, .slice a1 l.length c1] 26)).alloc (.cells #[.int .i64 c, .slice a2 l.length c2] 26)) := ((Below.refl _ _).alloc (Nat.le_refl _) _).alloc (by simp) _
  go_enter Try.func13, Try.ntmps13
  go_wp2_with fail
  refine (eqChangeS B1 B2 a1 a2 c1 c2 l _ (h1.below hN) (h2.below hN) hn).mono ?_; rintro e w1 ⟨rfl, b1⟩
  have BB := hN.trans (b1.mono hN.size)
  clear hN b1
  go_wp2_with fail
  go_ret
  exact ⟨rfl, BB⟩

set_option maxHeartbeats 1000000 in
theorem markChangesResult (lo hi : Nat) (c : Int) (a : Option Addr) (cc n m : Nat) (xs : List Value) (w : World) (hm : m + n * 4 ≤ 4194304) (h1 : w.ownsRow lo 68 4 (.slice a n cc) n xs) (b1 : ∀ j, (Value.slice a n cc).ownBlock = some j → j < hi) :
    Calls Try.prog 16 #[.agg #[.int .i64 c, .slice a n cc], .int .i64 m] w fun e w' => e = .returned (.int .i64 ((m + n * 4 : Nat) : Int)) ∧
      w'.ownsRow lo 68 4 (.slice a n cc) n (marksI m (n * 4)) ∧ Fr lo hi w w' := by
  go_enter Try.func16, Try.ntmps16
  go_wp2_with fail
  refine (markChangeS lo (.slice a n cc) n m xs _ (by omega) (h1.alloc _)).mono ?_; rintro e w1 ⟨rfl, p1, g1⟩
  have hF1 : Fr lo hi w w1 := (Fr.ofAlloc _ _).trans (Fr.ofGrown g1 (fun j hj => ⟨(h1.lt j hj).1, b1 j hj⟩))
  clear g1
  go_wp2_with fail
  go_ret
  exact ⟨rfl, p1, hF1⟩

set_option maxHeartbeats 1000000 in
theorem heldChangesResult (c : Int) (a : Option Addr) (cc n m : Nat) (w : World) (hm : m + n * 4 ≤ 4194304) (h1 : IR4 w a n m) :
    Calls Try.prog 17 #[.agg #[.int .i64 c, .slice a n cc], .int .i64 m] w fun e w' => e = .returned (.int .i64 ((m + n * 4 : Nat) : Int)) ∧ Below w.heap.size w w' := by
  have q1 : ¬ ((m + n * 4 : Nat) : Int) < 0 := by omega
  have H1 := fun W h => heldChangeS a cc n m W hm h
  obtain ⟨M, hM⟩ : ∃ M : Int, ((m + n * 4 : Nat) : Int) = M := ⟨_, rfl⟩
  rw [hM] at H1 q1
  have HM : Hid (((m + n * 4 : Nat) : Int) = M) := hM
  clear hM
  go_enter Try.func17, Try.ntmps17
  go_wp2_with fail
  refine (H1 _ (h1.below ((Below.refl _ _).alloc (Nat.le_refl _) _))).mono ?_; rintro e w1 ⟨rfl, q, rfl⟩
  go_wp2_with fail
  go_ret
  exact ⟨ret_int HM.out.symm, below_drewN' ((Below.refl _ _).alloc (Nat.le_refl _) _) _⟩

theorem cbOf {w : World} {base c : Nat} {a : Option Addr} {l : List Chg} (h : w.ownsRow base 68 4 (.slice a l.length c) l.length (chgCells l)) : CB w.heap.size w a l := by
  obtain ⟨a', c', e, hC⟩ := CB.of h
  simp only [Value.slice.injEq] at e
  obtain ⟨rfl, _⟩ := e
  exact hC
/-- The changes that ChangesOf tells. -/
def chL (xs ys : List ByteArray) : List Chg := if asked xs ys = 0 then changes xs ys else []
theorem chL_ok {xs ys : List ByteArray} (h : asked xs ys = 0) : chL xs ys = changes xs ys := if_pos h
theorem chL_no {xs ys : List ByteArray} (h : ¬ asked xs ys = 0) : chL xs ys = [] := if_neg h
theorem chL_length (xs ys : List ByteArray) : (chL xs ys).length ≤ 101 := by
  by_cases h : asked xs ys = 0
  · rw [chL_ok h]; exact changes_length xs ys (lf_zero (asked_zero h).1).1
  · rw [chL_no h]; exact Nat.zero_le _
/-- The answer with code r and changes L. -/
def CP (r : Int) (L : List Chg) (w : World) (e : Ending) (w' : World) : Prop := ∃ v, e = .returned (.agg #[.int .i64 r, v]) ∧ w'.ownsRow w.heap.size 68 4 v L.length (chgCells L) ∧ Below w.heap.size w w'

set_option maxHeartbeats 1000000 in
theorem specChangesOf (a1 a2 : Option Addr) (c1 c2 : Nat) (xs ys : List ByteArray) (w : World) (h1 : SS w a1 xs) (h2 : SS w a2 ys) (n1 : xs.length ≤ 1048576) (t1 : tot xs ≤ 1048576) (n2 : ys.length ≤ 1048576) (t2 : tot ys ≤ 1048576) :
    Calls Try.prog 10 #[.slice a1 xs.length c1, .slice a2 ys.length c2] w fun e w' => CP (asked xs ys) (chL xs ys) w e w' := by
  have hA := fun w h1 h2 => specAsked a1 a2 c1 c2 xs ys w h1 h2 n1 t1 n2 t2
  by_cases h0 : asked xs ys = 0
  · obtain ⟨hx, hy⟩ := asked_zero h0
    have m1 := (lf_zero hx).1
    have m2 := (lf_zero hy).1
    have HV : Hid (chL xs ys = changes xs ys) := chL_ok h0
    have HA : Hid (asked xs ys = 0) := h0
    rw [h0] at hA
    clear h0 hx hy
    go_enter Try.func10, Try.ntmps10
    go_wp2_with fail
    obtain ⟨W1, hW1⟩ : ∃ W1, w.alloc (.cells #[.int .i64 0, .slice none 0 0] 26) = W1 := ⟨_, rfl⟩
    have b1 : Below w.heap.size w W1 := by rw [← hW1]; exact allocBelow _ _
    have z1 : Hid (W1.heap.size = w.heap.size + 1) := by show _ = _; rw [← hW1]; simp
    have r1 : Res2 W1 w.heap.size (.int .i64 0) (.slice none 0 0) := by rw [← hW1]; exact Res2.new _ _ _ _
    rw [hW1]
    clear hW1
    have s1 := h1.below b1
    have s2 := h2.below b1
    refine (hA _ s1 s2).mono ?_; rintro e W1 ⟨rfl, rfl⟩
    clear hA
    go_wp2_with fail
    refine (l2Changes _ _ _ _ _ _ _ s1 s2 m1 m2).mono ?_; rintro e w2 ⟨v, rfl, hown, b2⟩
    obtain ⟨y, l, hv, _⟩ := CB.of hown
    have hlt : w.heap.size < W1.heap.size := by have := z1.out; omega
    obtain ⟨k0, k1, g0, g1⟩ := r1.below hlt b2
    have BB := b1.trans (b2.mono b1.size)
    have HP : Hid (((w2.setCell ⟨w.heap.size, 0, none⟩ (.int .i64 0)).setCell ⟨w.heap.size, 1, none⟩ v).ownsRow w.heap.size 68 4 v (changes xs ys).length (chgCells (changes xs ys))) := by
      have hs := grownTrans (grownSet w2 w.heap.size 0 (.int .i64 0)) (grownSet _ w.heap.size 1 v)
      exact ownMono4 (hown.kept hs (blockCases _ _ fun j e1 e2 => by cases e2; have := (hown.lt _ e1).1; omega)) (Nat.le_of_lt hlt)
    subst hv
    obtain ⟨N, hN⟩ : ∃ N, (changes xs ys).length = N := ⟨_, rfl⟩
    have HN : Hid ((changes xs ys).length = N) := hN
    rw [hN] at HP ⊢
    have HB := below_sets BB (Nat.le_refl _) (.int .i64 0) (.slice y N l)
    clear hown b2 s1 s2 r1 z1 h1 h2 b1 BB hlt hN
    go_wp2
    refine bodyPost_ret (v := .agg #[.int .i64 0, .slice y N l]) (by simp [results, Try.results10, go_sem, k0, k1]) rfl ?_
    exact ⟨_, by rw [HA.out], by rw [HV.out, HN.out]; exact HP.out, HB⟩
  · have hb := ne_beq h0
    have HV : Hid (chL xs ys = []) := chL_no h0
    obtain ⟨v, hv⟩ : ∃ v, asked xs ys = v := ⟨_, rfl⟩
    rw [hv] at hA hb
    have HE : Hid (asked xs ys = v) := hv
    clear h0 hv
    go_enter Try.func10, Try.ntmps10
    go_wp2_with fail
    refine (hA _ (h1.below (allocBelow _ _)) (h2.below (allocBelow _ _))).mono ?_; rintro e w' ⟨rfl, rfl⟩
    go_wp2
    refine bodyPost_ret (v := .agg #[.int .i64 v, .slice none 0 0]) (by simp [results, Try.results10, go_sem]) rfl ?_
    exact ⟨_, by rw [HE.out], by rw [HV.out]; exact chgNil _ _, allocBelow _ _⟩

set_option maxHeartbeats 1000000 in
theorem implChangesOf (a1 a2 : Option Addr) (c1 c2 : Nat) (xs ys : List ByteArray) (w : World) (h1 : SS w a1 xs) (h2 : SS w a2 ys) (n1 : xs.length ≤ 1048576) (n2 : ys.length ≤ 1048576) :
    Calls Try.prog 12 #[.slice a1 xs.length c1, .slice a2 ys.length c2] w fun e w' => CP (asked xs ys) (chL xs ys) w e w' := by
  have hA := fun w h1 h2 => implAsked a1 a2 c1 c2 xs ys w h1 h2 n1 n2
  by_cases h0 : asked xs ys = 0
  · obtain ⟨hx, hy⟩ := asked_zero h0
    have m1 := (lf_zero hx).1
    have m2 := (lf_zero hy).1
    have HV : Hid (chL xs ys = changes xs ys) := chL_ok h0
    have HA : Hid (asked xs ys = 0) := h0
    rw [h0] at hA
    clear h0 hx hy
    go_enter Try.func12, Try.ntmps12
    go_wp2_with fail
    obtain ⟨W1, hW1⟩ : ∃ W1, w.alloc (.cells #[.int .i64 0, .slice none 0 0] 26) = W1 := ⟨_, rfl⟩
    have b1 : Below w.heap.size w W1 := by rw [← hW1]; exact allocBelow _ _
    have z1 : Hid (W1.heap.size = w.heap.size + 1) := by show _ = _; rw [← hW1]; simp
    have r1 : Res2 W1 w.heap.size (.int .i64 0) (.slice none 0 0) := by rw [← hW1]; exact Res2.new _ _ _ _
    rw [hW1]
    clear hW1
    have s1 := h1.below b1
    have s2 := h2.below b1
    refine (hA _ s1 s2).mono ?_; rintro e W1 ⟨rfl, rfl⟩
    clear hA
    go_wp2_with fail
    refine (changesBetween _ _ _ _ _ _ _ s1 s2 m1 m2).mono ?_; rintro e w2 ⟨v, rfl, hown, b2⟩
    obtain ⟨y, l, hv, _⟩ := CB.of hown
    have hlt : w.heap.size < W1.heap.size := by have := z1.out; omega
    obtain ⟨k0, k1, g0, g1⟩ := r1.below hlt b2
    have BB := b1.trans (b2.mono b1.size)
    have HP : Hid (((w2.setCell ⟨w.heap.size, 0, none⟩ (.int .i64 0)).setCell ⟨w.heap.size, 1, none⟩ v).ownsRow w.heap.size 68 4 v (changes xs ys).length (chgCells (changes xs ys))) := by
      have hs := grownTrans (grownSet w2 w.heap.size 0 (.int .i64 0)) (grownSet _ w.heap.size 1 v)
      exact ownMono4 (hown.kept hs (blockCases _ _ fun j e1 e2 => by cases e2; have := (hown.lt _ e1).1; omega)) (Nat.le_of_lt hlt)
    subst hv
    obtain ⟨N, hN⟩ : ∃ N, (changes xs ys).length = N := ⟨_, rfl⟩
    have HN : Hid ((changes xs ys).length = N) := hN
    rw [hN] at HP ⊢
    have HB := below_sets BB (Nat.le_refl _) (.int .i64 0) (.slice y N l)
    clear hown b2 s1 s2 r1 z1 h1 h2 b1 BB hlt hN
    go_wp2
    refine bodyPost_ret (v := .agg #[.int .i64 0, .slice y N l]) (by simp [results, Try.results12, go_sem, k0, k1]) rfl ?_
    exact ⟨_, by rw [HA.out], by rw [HV.out, HN.out]; exact HP.out, HB⟩
  · have hb := ne_beq h0
    have HV : Hid (chL xs ys = []) := chL_no h0
    obtain ⟨v, hv⟩ : ∃ v, asked xs ys = v := ⟨_, rfl⟩
    rw [hv] at hA hb
    have HE : Hid (asked xs ys = v) := hv
    clear h0 hv
    go_enter Try.func12, Try.ntmps12
    go_wp2_with fail
    refine (hA _ (h1.below (allocBelow _ _)) (h2.below (allocBelow _ _))).mono ?_; rintro e w' ⟨rfl, rfl⟩
    go_wp2
    refine bodyPost_ret (v := .agg #[.int .i64 v, .slice none 0 0]) (by simp [results, Try.results12, go_sem]) rfl ?_
    exact ⟨_, by rw [HE.out], by rw [HV.out]; exact chgNil _ _, allocBelow _ _⟩
end Go.Proofs.Ytakegfhbhhkakah
