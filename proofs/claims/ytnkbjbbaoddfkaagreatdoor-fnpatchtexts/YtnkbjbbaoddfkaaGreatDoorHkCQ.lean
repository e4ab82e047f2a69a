/- The contracts of SizesOf (the program's and the specification's) and of what they call. No statement is proved here. -/
import Derived.Test.YtnkbjbbaoddfkaaGreatDoorRows
import Derived.Test.YtnkbjbbaoddfkaaGreatDoorLemQ
import Derived.Test.YtnkbjbbaoddfkaaGreatDoorLFLemQ
import Derived.Test.YtnkbjbbaoddfkaaGreatDoorHkTQ
import Derived.Test.YtnkbjbbaoddfkaaGreatDoorHkLQ
import Derived.Test.YtnkbjbbaoddfkaaGreatDoorDTabQ
import Derived.WalkKit
import Derived.ProofKit
import Derived.Below
import Derived.WalkSpells
namespace Go.Proofs.YtnkbjbbaoddfkaaGreatDoor
open Go.ChangeShapes Go.WideShapes Go.ChangeAt Go.RowKit

theorem ret_two {a b c d : Int} (h : a = c) (k : b = d) : Ending.returned (.tuple #[.int .i64 a, .int .i64 b]) = .returned (.tuple #[.int .i64 c, .int .i64 d]) := by rw [h, k]

theorem countsOf (b : Int) (w : World) :
    Calls Tryz.prog 28 #[.int .u8 b] w fun e w' => e = .returned (.tuple #[.int .i64 (old1 b), .int .i64 (new1 b)]) ∧ w' = w := by
  by_cases h1 : b = 32
  · subst h1
    go_enter Tryz.func28, Tryz.ntmps28
    go_wp2
    refine bodyPost_ret (v := .tuple #[.int .i64 1, .int .i64 1]) (by simp [results, Tryz.results28, go_sem]) rfl ?_
    exact ⟨rfl, rfl⟩
  · have q1 : (b == 32) = false := by simp [h1]
    by_cases h2 : b = 45
    · subst h2
      go_enter Tryz.func28, Tryz.ntmps28
      go_wp2
      refine bodyPost_ret (v := .tuple #[.int .i64 1, .int .i64 0]) (by simp [results, Tryz.results28, go_sem]) rfl ?_
      exact ⟨rfl, rfl⟩
    · have q2 : (b == 45) = false := by simp [h2]
      by_cases h3 : b = 43
      · subst h3
        go_enter Tryz.func28, Tryz.ntmps28
        go_wp2
        refine bodyPost_ret (v := .tuple #[.int .i64 0, .int .i64 1]) (by simp [results, Tryz.results28, go_sem]) rfl ?_
        exact ⟨rfl, rfl⟩
      · have q3 : (b == 43) = false := by simp [h3]
        have e1 : Hid (old1 b = 0) := by show _ = _; unfold old1; simp [h1, h2]
        have e2 : Hid (new1 b = 0) := by show _ = _; unfold new1; simp [h1, h3]
        clear h1 h2 h3
        go_enter Tryz.func28, Tryz.ntmps28
        go_wp2
        refine bodyPost_ret (v := .tuple #[.int .i64 0, .int .i64 0]) (by simp [results, Tryz.results28, go_sem]) rfl ?_
        exact ⟨ret_two e1.out.symm e2.out.symm, rfl⟩

theorem isMark (b : Int) (w : World) :
    Calls Tryz.prog 50 #[.int .u8 b] w fun e w' => e = .returned (.bool (isMk b)) ∧ w' = w := by
  have H := fun w => countsOf b w
  have e := isMk_sum b
  have b1 := old1_bd b
  have b2 := new1_bd b
  obtain ⟨x, hx⟩ : ∃ x, old1 b = x := ⟨_, rfl⟩
  obtain ⟨y, hy⟩ : ∃ y, new1 b = y := ⟨_, rfl⟩
  rw [hx] at H e b1
  rw [hy] at H e b2
  rw [e]
  clear e hx hy
  go_enter Tryz.func50, Tryz.ntmps50
  go_wp2_with fail
  refine (H _).mono ?_; rintro e w' ⟨rfl, rfl⟩
  go_wp2
  go_ret
  exact ⟨rfl, rfl⟩

set_option maxHeartbeats 800000 in
theorem isMarkedLine (s : ByteArray) (w : World) (hs : s.size ≤ 9223372036854775807) :
    Calls Tryz.prog 27 #[.string s] w fun e w' => e = .returned (.bool (okH s)) ∧ w' = w := by
  have he := empty_iff s
  by_cases h0 : s.size = 0
  · have h1 : s.toList.isEmpty = true := by rw [he]; exact decide_eq_true (List.eq_nil_of_length_eq_zero (by simpa using h0))
    have H : Hid (okH s = false) := by show _ = _; unfold okH; simp [h0]
    clear he h0
    go_enter Tryz.func27, Tryz.ntmps27
    go_wp2
    go_ret
    exact ⟨ret_bool H.out.symm, rfl⟩
  · have hp : 0 < s.size := by omega
    have h1 : s.toList.isEmpty = false := by rw [he]; exact decide_eq_false (fun e => h0 (by have := congrArg List.length e; simpa using this))
    have hM := fun w => isMark (mark0 s) w
    rw [mark0_eq s hp] at hM
    have hT := fun w => isLine (s.extract 1 s.size) true w (by rw [tail_size]; omega)
    have HO : okH s = (isMk (mark0 s) && okLine (s.extract 1 s.size).data.toList true) := by unfold okH; rw [decide_eq_true hp, Bool.true_and]
    rw [mark0_eq s hp] at HO
    obtain ⟨A, hA⟩ : ∃ A, isMk (s[0].toNat : Int) = A := ⟨_, rfl⟩
    obtain ⟨D, hD⟩ : ∃ D, okLine (s.extract 1 s.size).data.toList true = D := ⟨_, rfl⟩
    rw [hA] at hM HO
    rw [hD] at hT HO
    have H : Hid (okH s = (A && D)) := HO
    clear hA hD HO he h0
    cases A with
    | false =>
      go_enter Tryz.func27, Tryz.ntmps27
      go_wp2_with fail
      refine (hM _).mono ?_; rintro e w' ⟨rfl, rfl⟩
      go_wp2_with fail
      go_ret
      exact ⟨ret_bool H.out.symm, rfl⟩
    | true =>
      go_enter Tryz.func27, Tryz.ntmps27
      go_wp2_with fail
      refine (hM _).mono ?_; rintro e w' ⟨rfl, rfl⟩
      go_wp2_with fail
      refine (hT _).mono ?_; rintro e w' ⟨rfl, rfl⟩
      go_wp2_with fail
      go_ret
      exact ⟨ret_bool H.out.symm, rfl⟩

def lnC (s : ByteArray) : Int := if okH s = true then 0 else 1
theorem lnC_ok {s : ByteArray} (h : okH s = true) : lnC s = 0 := if_pos h
theorem lnC_no {s : ByteArray} (h : okH s = false) : lnC s = 1 := if_neg (by rw [h]; exact Bool.false_ne_true)

set_option maxHeartbeats 800000 in
theorem l3Line (s : ByteArray) (w : World) (hs : s.size ≤ 9223372036854775807) :
    Calls Tryz.prog 49 #[.string s] w fun e w' => e = .returned (.int .i64 (lnC s)) ∧ w' = w := by
  have HO := okH_spec s
  by_cases h0 : (s.size : Int) < 2
  · have H : Hid (lnC s = 1) := by
      show lnC s = _
      unfold lnC
      rw [HO, decide_eq_true (show s.size < 2 by omega)]; rfl
    clear HO
    go_enter Tryz.func49, Tryz.ntmps49
    go_wp2
    go_ret
    exact ⟨ret_int H.out.symm, rfl⟩
  · have hp : 0 < s.size := by omega
    rw [decide_eq_false (show ¬ s.size < 2 by omega), Bool.false_or, mark0_eq s hp] at HO
    have hT := fun w => l1Ended (s.extract 1 s.size) w (by rw [tail_size]; omega)
    obtain ⟨E, hE⟩ : ∃ E, ended (s.extract 1 s.size).data.toList = E := ⟨_, rfl⟩
    rw [hE] at hT HO
    obtain ⟨b, hb⟩ : ∃ b : Int, (s[0].toNat : Int) = b := ⟨_, rfl⟩
    rw [hb] at HO
    have HO' : Hid (okH s = !(!isMk b || decide (E < (s.size : Int) - 2))) := HO
    clear HO hE
    by_cases hm : isMk b = true
    · have hm' : b = 32 ∨ b = 45 ∨ b = 43 := of_decide_eq_true hm
      by_cases hE : E < (s.size : Int) - 2
      · have H : Hid (lnC s = 1) := by
          show lnC s = _
          unfold lnC
          rw [HO'.out, hm, decide_eq_true hE]; rfl
        clear HO' hm
        rcases hm' with rfl | rfl | rfl <;>
        · go_enter Tryz.func49, Tryz.ntmps49
          go_wp2_with fail
          refine (hT _).mono ?_; rintro e w' ⟨rfl, rfl⟩
          go_wp2_with fail
          go_ret
          exact ⟨ret_int H.out.symm, rfl⟩
      · have H : Hid (lnC s = 0) := by
          show lnC s = _
          unfold lnC
          rw [HO'.out, hm, decide_eq_false hE]; rfl
        clear HO' hm
        rcases hm' with rfl | rfl | rfl <;>
        · go_enter Tryz.func49, Tryz.ntmps49
          go_wp2_with fail
          refine (hT _).mono ?_; rintro e w' ⟨rfl, rfl⟩
          go_wp2_with fail
          go_ret
          exact ⟨ret_int H.out.symm, rfl⟩
    · have hm' : ¬ b = 32 ∧ ¬ b = 45 ∧ ¬ b = 43 := by
        have : ¬ (b = 32 ∨ b = 45 ∨ b = 43) := fun h => hm (decide_eq_true h)
        omega
      obtain ⟨m1, m2, m3⟩ := hm'
      have q1 : (b != 32) = true := by simp [m1]
      have q2 : (b != 45) = true := by simp [m2]
      have q3 : (b != 43) = true := by simp [m3]
      have H : Hid (lnC s = 1) := by
        show lnC s = _
        unfold lnC
        rw [HO'.out, show isMk b = false by simpa using hm]; rfl
      clear HO' hm m1 m2 m3
      go_enter Tryz.func49, Tryz.ntmps49
      go_wp2
      go_ret
      exact ⟨ret_int H.out.symm, rfl⟩


theorem boxBelow (w : World) (o : Obj) : Below w.heap.size w (w.alloc o) := (Below.refl _ _).alloc (Nat.le_refl _) _

set_option maxHeartbeats 1000000 in
theorem l3Lines (x0 x1 : Int) (a : Option Addr) (c : Nat) (ss : List ByteArray) (w : World) (hs : SS w a ss) (hn : ss.length ≤ 1048576) :
    Calls Tryz.prog 65 #[.agg #[.int .i64 x0, .int .i64 x1, .slice a ss.length c]] w fun e w' => e = .returned (.int .i64 (szC ss)) ∧ Below w.heap.size w w' := by
  go_enter Tryz.func65, Tryz.ntmps65
  obtain ⟨W, hW⟩ : ∃ W, w.alloc (.cells #[.int .i64 x0, .int .i64 x1, .slice a ss.length c] 35) = W := ⟨_, rfl⟩
  have hR : Rs W w.heap.size [.int .i64 x0, .int .i64 x1, .slice a ss.length c] := by rw [← hW]; exact Rs.new _ _ _
  have hB : Below w.heap.size w W := by rw [← hW]; exact boxBelow _ _
  have hS : SS W a ss := hs.below hB
  have d2 := hR 2 _ rfl
  go_wp2
  clear hW hs hR
  go_loop [3] (fun i => ∃ k : Nat, k ≤ ss.length ∧ i = .int .i64 k ∧ Hid (okTo ss k = true)) (fun i => ss.length - (intOf i).toNat)
  case atStart => exact ⟨0, Nat.zero_le _, rfl, okTo_zero ss⟩
  case round =>
    obtain ⟨k, hk, rfl, hok⟩ := hrel
    by_cases hlt : k < ss.length
    · have q : (k : Int) < (ss.length : Int) := by omega
      obtain ⟨b, off, rfl, hb, hc⟩ := hS.2 k hlt
      have hsz := hS.1 k hlt
      have hst := okTo_succ hlt
      have hbad := fun h => okTo_bad (k := k) hlt h
      obtain ⟨s, hse⟩ : ∃ s, ss.getD k ByteArray.empty = s := ⟨_, rfl⟩
      rw [hse] at hc hsz hst hbad
      have hL := fun w => l3Line s w hsz
      cases ho : okH s with
      | true =>
        have hk1 : Hid (okTo ss (k + 1) = true) := by show _ = _; rw [hst, hok.out, ho]; rfl
        rw [lnC_ok ho] at hL
        clear hst hbad hse ho hok
        go_wp2_with fail
        refine (hL _).mono ?_; rintro e w' ⟨rfl, rfl⟩
        go_wp2
        go_round
        case rel => exact ⟨k + 1, by omega, by go_num, hk1⟩
        case measure => first | (simp [intOf]; omega) | simp [intOf]
      | false =>
        have hC : Hid (szC ss = 1) := szC_no (hbad ho)
        rw [lnC_no ho] at hL
        clear hst hbad hse ho hok
        go_wp2_with fail
        refine (hL _).mono ?_; rintro e w' ⟨rfl, rfl⟩
        go_wp2
        go_ret
        exact ⟨ret_int hC.out.symm, hB⟩
    · have q : ¬ (k : Int) < (ss.length : Int) := by omega
      have hC : Hid (szC ss = 0) := by
        have e : k = ss.length := by omega
        have := hok.out
        rw [e, okTo_full] at this
        exact szC_ok this
      go_wp2
      go_ret
      exact ⟨ret_int hC.out.symm, hB⟩

set_option maxHeartbeats 1000000 in
theorem l3Sizes (x0 x1 : Int) (a : Option Addr) (c : Nat) (ss : List ByteArray) (w : World) (hs : SS w a ss) (hn : ss.length ≤ 1048576) (hall : ss.all okH = true) :
    Calls Tryz.prog 44 #[.agg #[.int .i64 x0, .int .i64 x1, .slice a ss.length c]] w fun e w' => e = .returned (.tuple #[.int .i64 (oldN ss), .int .i64 (newN ss)]) ∧ Below w.heap.size w w' := by
  go_enter Tryz.func44, Tryz.ntmps44
  obtain ⟨W, hW⟩ : ∃ W, w.alloc (.cells #[.int .i64 x0, .int .i64 x1, .slice a ss.length c] 35) = W := ⟨_, rfl⟩
  have hR : Rs W w.heap.size [.int .i64 x0, .int .i64 x1, .slice a ss.length c] := by rw [← hW]; exact Rs.new _ _ _
  have hB : Below w.heap.size w W := by rw [← hW]; exact boxBelow _ _
  have hS : SS W a ss := hs.below hB
  have d2 := hR 2 _ rfl
  go_wp2
  clear hW hs hR
  go_loop [4, 5, 6] (fun p q i => ∃ k : Nat, k ≤ ss.length ∧ i = .int .i64 k ∧ p = .int .i64 (oldN (ss.take k)) ∧ q = .int .i64 (newN (ss.take k))) (fun _ _ i => ss.length - (intOf i).toNat)
  case atStart => exact ⟨0, Nat.zero_le _, rfl, by simp [oldN], by simp [newN]⟩
  case round =>
    obtain ⟨k, hk, rfl, rfl, rfl⟩ := hrel
    have b1 := oldN_bd (ss.take k)
    have b2 := newN_bd (ss.take k)
    have hlk : (ss.take k).length ≤ 1048576 := by rw [List.length_take]; omega
    by_cases hlt : k < ss.length
    · have q : (k : Int) < (ss.length : Int) := by omega
      obtain ⟨b, off, rfl, hb, hc⟩ := hS.2 k hlt
      have hsz := hS.1 k hlt
      have e1 := oldN_take ss k hlt
      have e2 := newN_take ss k hlt
      have ho := okTo_at hall hlt
      obtain ⟨s, hse⟩ : ∃ s, ss.getD k ByteArray.empty = s := ⟨_, rfl⟩
      rw [hse] at hc hsz e1 e2 ho
      have hp := okH_size ho
      have hm := okH_mk ho
      rw [old1_mk hm] at e1
      rw [new1_mk hm] at e2
      have hm' : mark0 s = 32 ∨ mark0 s = 45 ∨ mark0 s = 43 := of_decide_eq_true hm
      rw [mark0_eq s hp] at e1 e2 hm'
      have hz : (0 : Int) < (s.size : Int) := by omega
      clear hse ho hm
      obtain ⟨A, hA⟩ : ∃ A, oldN (ss.take k) = A := ⟨_, rfl⟩
      obtain ⟨D, hD⟩ : ∃ D, newN (ss.take k) = D := ⟨_, rfl⟩
      rw [hA] at e1 b1 ⊢
      rw [hD] at e2 b2 ⊢
      have HA := hA
      clear hA hD HA
      rcases hm' with hm | hm | hm
      · have m1 : ((s[0].toNat : Int) != 43) = true := by rw [hm]; rfl
        have m2 : ((s[0].toNat : Int) != 45) = true := by rw [hm]; rfl
        have E1 : Hid (oldN (ss.take (k + 1)) = A + 1) := by show _ = _; rw [e1, hm]; rfl
        have E2 : Hid (newN (ss.take (k + 1)) = D + 1) := by show _ = _; rw [e2, hm]; rfl
        clear e1 e2 hm
        go_wp2
        go_round
        case rel => exact ⟨k + 1, by omega, by go_num, by rw [E1.out], by rw [E2.out]⟩
        case measure => first | (simp [intOf]; omega) | simp [intOf]
      · have m1 : ((s[0].toNat : Int) != 43) = true := by rw [hm]; rfl
        have m2 : ((s[0].toNat : Int) != 45) = false := by rw [hm]; rfl
        have E1 : Hid (oldN (ss.take (k + 1)) = A + 1) := by show _ = _; rw [e1, hm]; rfl
        have E2 : Hid (newN (ss.take (k + 1)) = D) := by show _ = _; rw [e2, hm]; simp
        clear e1 e2 hm
        go_wp2
        go_round
        case rel => exact ⟨k + 1, by omega, by go_num, by rw [E1.out], by rw [E2.out]⟩
        case measure => first | (simp [intOf]; omega) | simp [intOf]
      · have m1 : ((s[0].toNat : Int) != 43) = false := by rw [hm]; rfl
        have m2 : ((s[0].toNat : Int) != 45) = true := by rw [hm]; rfl
        have E1 : Hid (oldN (ss.take (k + 1)) = A) := by show _ = _; rw [e1, hm]; simp
        have E2 : Hid (newN (ss.take (k + 1)) = D + 1) := by show _ = _; rw [e2, hm]; rfl
        clear e1 e2 hm
        go_wp2
        go_round
        case rel => exact ⟨k + 1, by omega, by go_num, by rw [E1.out], by rw [E2.out]⟩
        case measure => first | (simp [intOf]; omega) | simp [intOf]
    · have q : ¬ (k : Int) < (ss.length : Int) := by omega
      have e : ss.take k = ss := List.take_of_length_le (by omega)
      rw [e]
      clear e b1 b2 hlk
      go_wp2
      refine bodyPost_ret (v := .tuple #[.int .i64 (oldN ss), .int .i64 (newN ss)]) (by simp [results, Tryz.results44, go_sem]) rfl ?_
      exact ⟨rfl, hB⟩
end Go.Proofs.YtnkbjbbaoddfkaaGreatDoor
/- The contracts of SizesOf, the program's and the specification's. No statement is proved here. -/
namespace Go.Proofs.YtnkbjbbaoddfkaaGreatDoor
open Go.ChangeShapes Go.WideShapes Go.ChangeAt Go.RowKit

def intCells (l : List Int) : List Value := l.map (Value.int .i64)
/-- The answer with code r and numbers L. -/
def SzP (r : Int) (L : List Int) (w : World) (e : Ending) (w' : World) : Prop := ∃ v, e = .returned (.agg #[.int .i64 r, v]) ∧ w'.ownsRow w.heap.size 2 1 v L.length (intCells L) ∧ Below w.heap.size w w'

/-- How two numbers are told: a new row behind the struct of the answer. -/
theorem szEnd {w W : World} (p : Nat) (x y : Int) (hB : Below w.heap.size w W) (hp : w.heap.size ≤ p) (hpW : p < W.heap.size) :
    SzP 0 [x, y] w (.returned (.agg #[.int .i64 0, .slice (some ⟨W.heap.size, 0, none⟩) 2 2]))
      (((W.alloc (.cells #[.int .i64 x, .int .i64 y] 2)).setCell ⟨p, 0, none⟩ (.int .i64 0)).setCell ⟨p, 1, none⟩ (.slice (some ⟨W.heap.size, 0, none⟩) 2 2)) := by
  have ho : (W.alloc (.cells #[.int .i64 x, .int .i64 y] 2)).ownsRow w.heap.size 2 1 (.slice (some ⟨W.heap.size, 0, none⟩) 2 2) 2 (#[.int .i64 x, .int .i64 y] : Array Value).toList :=
    World.ownsRow_lit W #[.int .i64 x, .int .i64 y] 2 hB.size (by unfold maxLen; omega) rfl
  have hs := grownTrans (grownSet (W.alloc (.cells #[.int .i64 x, .int .i64 y] 2)) p 0 (.int .i64 0)) (grownSet _ p 1 (.slice (some ⟨W.heap.size, 0, none⟩) 2 2))
  refine ⟨_, rfl, ho.kept hs (.inr ?_), below_sets (hB.alloc hB.size _) hp _ _⟩
  intro e
  simp only [Value.ownBlock, Option.some.injEq] at e
  omega

set_option maxHeartbeats 1000000 in
theorem implSizesOf (x0 x1 : Int) (a : Option Addr) (c : Nat) (ss : List ByteArray) (w : World) (hs : SS w a ss) (hn : ss.length ≤ 1048576) :
    Calls Tryz.prog 12 #[.agg #[.int .i64 x0, .int .i64 x1, .slice a ss.length c]] w fun e w' => SzP (szC ss) (szV ss) w e w' := by
  obtain ⟨W0, hW0⟩ : ∃ W, w.alloc (.cells #[.int .i64 x0, .int .i64 x1, .slice a ss.length c] 35) = W := ⟨_, rfl⟩
  have hR0 : Rs W0 w.heap.size [.int .i64 x0, .int .i64 x1, .slice a ss.length c] := by rw [← hW0]; exact Rs.new _ _ _
  have hB0 : Below w.heap.size w W0 := by rw [← hW0]; exact allocBelow _ _
  have z0 : W0.heap.size = w.heap.size + 1 := by rw [← hW0]; simp
  obtain ⟨W1, hW1⟩ : ∃ W, W0.alloc (.cells #[.int .i64 0, .slice none 0 0] 39) = W := ⟨_, rfl⟩
  have r1 : Res2 W1 W0.heap.size (.int .i64 0) (.slice none 0 0) := by rw [← hW1]; exact Res2.new _ _ _ _
  have b1 : Below W0.heap.size W0 W1 := by rw [← hW1]; exact allocBelow _ _
  have z1 : W1.heap.size = W0.heap.size + 1 := by rw [← hW1]; simp
  have hR1 : Rs W1 w.heap.size [.int .i64 x0, .int .i64 x1, .slice a ss.length c] := (Fr.ofBelow (lo := 0) (hi := 0) b1).rs hR0 (.inr (Nat.zero_le _))
  have hB1 : Below w.heap.size w W1 := hB0.trans (b1.mono hB0.size)
  have hS1 : SS W1 a ss := hs.below hB1
  have d2 := hR1 2 _ rfl
  rw [z0] at r1
  obtain ⟨k0, k1, g0, g1⟩ := r1
  go_enter Tryz.func12, Tryz.ntmps12
  go_wp2
  have zz : w.heap.size + 1 < W1.heap.size := by omega
  clear hR1 hR0 hB0 b1 z1 z0
  go_loop [3, 4, 12] (fun p q i => ∃ k : Nat, k ≤ ss.length ∧ i = .int .i64 k ∧ p = .int .i64 (oldN (ss.take k)) ∧ q = .int .i64 (newN (ss.take k)) ∧ Hid (okTo ss k = true)) (fun _ _ i => ss.length - (intOf i).toNat)
  case atStart => exact ⟨0, Nat.zero_le _, rfl, by simp [oldN], by simp [newN], okTo_zero ss⟩
  case round =>
    obtain ⟨k, hk, rfl, rfl, rfl, hok⟩ := hrel
    have b1 := oldN_bd (ss.take k)
    have b2 := newN_bd (ss.take k)
    have hlk : (ss.take k).length ≤ 1048576 := by rw [List.length_take]; omega
    by_cases hlt : k < ss.length
    · have q : (k : Int) < (ss.length : Int) := by omega
      obtain ⟨b, off, rfl, hb, hc⟩ := hS1.2 k hlt
      have hsz := hS1.1 k hlt
      have hst := okTo_succ hlt
      have hbad := fun h => okTo_bad (k := k) hlt h
      have e1 := oldN_take ss k hlt
      have e2 := newN_take ss k hlt
      obtain ⟨s, hse⟩ : ∃ s, ss.getD k ByteArray.empty = s := ⟨_, rfl⟩
      rw [hse] at hc hsz hst hbad e1 e2
      have hL := fun w => isMarkedLine s w hsz
      cases ho : okH s with
      | true =>
        have hk1 : Hid (okTo ss (k + 1) = true) := by show _ = _; rw [hst, hok.out, ho]; rfl
        have hp := okH_size ho
        have hM := fun w => countsOf (mark0 s) w
        have c1 := old1_bd (mark0 s)
        have c2 := new1_bd (mark0 s)
        rw [mark0_eq s hp] at hM e1 e2 c1 c2
        obtain ⟨A, hA⟩ : ∃ A, oldN (ss.take k) = A := ⟨_, rfl⟩
        obtain ⟨D, hD⟩ : ∃ D, newN (ss.take k) = D := ⟨_, rfl⟩
        obtain ⟨p, hpp⟩ : ∃ p, old1 (s[0].toNat : Int) = p := ⟨_, rfl⟩
        obtain ⟨r, hrr⟩ : ∃ r, new1 (s[0].toNat : Int) = r := ⟨_, rfl⟩
        rw [hA] at e1 b1 ⊢
        rw [hD] at e2 b2 ⊢
        rw [hpp] at e1 c1 hM
        rw [hrr] at e2 c2 hM
        have E1 : Hid (oldN (ss.take (k + 1)) = A + p) := e1
        have E2 : Hid (newN (ss.take (k + 1)) = D + r) := e2
        have hz : (0 : Int) < (s.size : Int) := by omega
        have u1 : A + p ≤ 2000000 := by omega
        have u2 : D + r ≤ 2000000 := by omega
        have u3 : 0 ≤ A + p := by omega
        have u4 : 0 ≤ D + r := by omega
        rw [ho] at hL
        clear hst hbad hse ho hok e1 e2 hA hD hpp hrr
        go_wp2_with fail
        refine (hL _).mono ?_; rintro e w' ⟨rfl, rfl⟩
        go_wp2_with fail
        refine (hM _).mono ?_; rintro e w' ⟨rfl, rfl⟩
        go_wp2
        go_round
        case rel => exact ⟨k + 1, by omega, by go_num, by rw [E1.out], by rw [E2.out], hk1⟩
        case measure => first | (simp [intOf]; omega) | simp [intOf]
      | false =>
        have hC : Hid (szC ss = 1) := szC_no (hbad ho)
        have hV : Hid (szV ss = []) := szV_no (hbad ho)
        have HB := below_sets hB1 (p := w.heap.size + 1) (by omega) (.int .i64 1) (.slice none 0 0)
        rw [ho] at hL
        clear hst hbad hse ho hok e1 e2
        go_wp2_with fail
        refine (hL _).mono ?_; rintro e w' ⟨rfl, rfl⟩
        go_wp2
        refine bodyPost_ret (v := .agg #[.int .i64 1, .slice none 0 0]) (by simp [results, Tryz.results12, go_sem, k0, k1]) rfl ?_
        rw [hC.out, hV.out]
        exact ⟨_, rfl, ⟨rfl, .inl ⟨rfl, rfl⟩⟩, HB⟩
    · have q : ¬ (k : Int) < (ss.length : Int) := by omega
      have hall : Hid (ss.all okH = true) := by
        have e : k = ss.length := by omega
        have := hok.out
        rw [e, okTo_full] at this
        exact this
      have e : ss.take k = ss := List.take_of_length_le (by omega)
      rw [e]
      have HF : Hid (SzP 0 [oldN ss, newN ss] w _ _) := szEnd (W := W1) (w.heap.size + 1) (oldN ss) (newN ss) hB1 (by omega) (by omega)
      obtain ⟨W4, hW4⟩ : ∃ W, W1.alloc (.cells #[.int .i64 (oldN ss), .int .i64 (newN ss)] 2) = W := ⟨_, rfl⟩
      obtain ⟨l0, l1, f0, f1⟩ : Res2 W4 (w.heap.size + 1) (.int .i64 0) (.slice none 0 0) := Res2.below (w := W1) ⟨k0, k1, g0, g1⟩ (by omega) (by rw [← hW4]; exact allocBelow _ _)
      rw [hW4] at HF
      clear k0 k1 g0 g1
      clear hok e b1 b2 hlk
      go_wp2
      refine bodyPost_ret (v := .agg #[.int .i64 0, .slice (some ⟨W1.heap.size, 0, none⟩) 2 2]) (by simp [results, Tryz.results12, go_sem, l0, l1]) rfl ?_
      rw [szC_ok hall.out, szV_ok hall.out]
      exact HF.out
end Go.Proofs.YtnkbjbbaoddfkaaGreatDoor
