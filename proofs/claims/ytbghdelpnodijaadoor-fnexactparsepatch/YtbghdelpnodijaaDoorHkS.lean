/- The contracts of SizesOf, the program's and the specification's. No statement is proved here. -/
import Derived.Test.YtbghdelpnodijaaDoorRows
import Derived.Test.YtbghdelpnodijaaDoorLem
import Derived.Test.YtbghdelpnodijaaDoorStrs
import Derived.Test.YtbghdelpnodijaaDoorLFLem
import Derived.Test.YtbghdelpnodijaaDoorLF
import Derived.Test.YtbghdelpnodijaaDoorDTab
import Derived.Test.YtbghdelpnodijaaDoorOwn
import Derived.Test.YtbghdelpnodijaaDoorFr
import Derived.Test.YtbghdelpnodijaaDoorHkL
import Derived.Test.YtbghdelpnodijaaDoorHkC
import Derived.WalkKit
import Derived.ProofKit
import Derived.Below
import Derived.WalkSpells
namespace Go.Proofs.YtbghdelpnodijaaDoor
open Go.ChangeShapes Go.WideShapes Go.ChangeAt Go.RowKit

def intCells (l : List Int) : List Value := l.map (Value.int .i64)
/-- The answer with code r and numbers L. -/
def SzP (r : Int) (L : List Int) (w : World) (e : Ending) (w' : World) : Prop := ∃ v, e = .returned (.agg #[.int .i64 r, v]) ∧ w'.ownsRow w.heap.size 2 1 v L.length (intCells L) ∧ Below w.heap.size w w'

/-- How two numbers are told: a new row behind the struct of the answer. -/
theorem szEnd {w W : World} (p : Nat) (x y : Int) (hB : Below w.heap.size w W) (hp : w.heap.size ≤ p) (hpW : p < W.heap.size) :
    SzP 0 [x, y] w (.returned (.agg #[.int .i64 0, .slice (some ⟨W.heap.size, 0, none⟩) 2 2]))
      (((W.alloc (.cells #[.int .i64 x, .int .i64 y] 2)).setCell ⟨p, 0, none⟩ (.int .i64 0)).setCell ⟨p, 1, none⟩ (.slice (some ⟨W.heap.size, 0, none⟩) 2 2)) := by
  have ho : (W.alloc (.cells #[.int .i64 x, .int .i64 y] 2)).ownsRow w.heap.size 2 1 (.slice (some ⟨W.heap.size, 0, none⟩) 2 2) 2 (#[.int .i64 x, .int .i64 y] : Array Value).toList :=
    World.ownsRow_lit W #[.int .i64 x, .int .i64 y] 2 hB.size (by unfold maxLen; omega) rfl
  have hs := grownTrans (grownSet (W.alloc (.cells #[.int .i64 x, .int .i64 y] 2)) p 0 (.int .i64 0)) (grownSet _ p 1 (.slice (some ⟨W.heap.size, 0, none⟩) 2 2))
  refine ⟨_, rfl, ho.kept hs (.inr ?_), below_sets (hB.alloc hB.size _) hp _ _⟩
  intro e
  simp only [Value.ownBlock, Option.some.injEq] at e
  omega

set_option maxHeartbeats 1000000 in
theorem implSizesOf (x0 x1 : Int) (a : Option Addr) (c : Nat) (ss : List ByteArray) (w : World) (hs : SS w a ss) (hn : ss.length ≤ 1048576) :
    Calls Tryd.prog 34 #[.agg #[.int .i64 x0, .int .i64 x1, .slice a ss.length c]] w fun e w' => SzP (szC ss) (szV ss) w e w' := by
  obtain ⟨W0, hW0⟩ : ∃ W, w.alloc (.cells #[.int .i64 x0, .int .i64 x1, .slice a ss.length c] 44) = W := ⟨_, rfl⟩
  have hR0 : Rs W0 w.heap.size [.int .i64 x0, .int .i64 x1, .slice a ss.length c] := by rw [← hW0]; exact Rs.new _ _ _
  have hB0 : Below w.heap.size w W0 := by rw [← hW0]; exact allocBelow _ _
  have z0 : W0.heap.size = w.heap.size + 1 := by rw [← hW0]; simp
  obtain ⟨W1, hW1⟩ : ∃ W, W0.alloc (.cells #[.int .i64 0, .slice none 0 0] 67) = W := ⟨_, rfl⟩
  have r1 : Res2 W1 W0.heap.size (.int .i64 0) (.slice none 0 0) := by rw [← hW1]; exact Res2.new _ _ _ _
  have b1 : Below W0.heap.size W0 W1 := by rw [← hW1]; exact allocBelow _ _
  have z1 : W1.heap.size = W0.heap.size + 1 := by rw [← hW1]; simp
  have hR1 : Rs W1 w.heap.size [.int .i64 x0, .int .i64 x1, .slice a ss.length c] := (Fr.ofBelow (lo := 0) (hi := 0) b1).rs hR0 (.inr (Nat.zero_le _))
  have hB1 : Below w.heap.size w W1 := hB0.trans (b1.mono hB0.size)
  have hS1 : SS W1 a ss := hs.below hB1
  have d2 := hR1 2 _ rfl
  rw [z0] at r1
  obtain ⟨k0, k1, g0, g1⟩ := r1
  go_enter Tryd.func34, Tryd.ntmps34
  go_wp2
  have zz : w.heap.size + 1 < W1.heap.size := by omega
  clear hR1 hR0 hB0 b1 z1 z0
  go_loop [3, 4, 12] (fun p q i => ∃ k : Nat, k ≤ ss.length ∧ i = .int .i64 k ∧ p = .int .i64 (oldN (ss.take k)) ∧ q = .int .i64 (newN (ss.take k)) ∧ Hid (okTo ss k = true)) (fun _ _ i => ss.length - (intOf i).toNat)
  case atStart => exact ⟨0, Nat.zero_le _, rfl, by simp [oldN], by simp [newN], okTo_zero ss⟩
  case round =>
    obtain ⟨k, hk, rfl, rfl, rfl, hok⟩ := hrel
    have b1 := oldN_bd (ss.take k)
    have b2 := newN_bd (ss.take k)
    have hlk : (ss.take k).length ≤ 1048576 := by rw [List.length_take]; omega
    by_cases hlt : k < ss.length
    · have q : (k : Int) < (ss.length : Int) := by omega
      obtain ⟨b, off, rfl, hb, hc⟩ := hS1.2 k hlt
      have hsz := hS1.1 k hlt
      have hst := okTo_succ hlt
      have hbad := fun h => okTo_bad (k := k) hlt h
      have e1 := oldN_take ss k hlt
      have e2 := newN_take ss k hlt
      obtain ⟨s, hse⟩ : ∃ s, ss.getD k ByteArray.empty = s := ⟨_, rfl⟩
      rw [hse] at hc hsz hst hbad e1 e2
      have hL := fun w => isMarkedLine s w hsz
      cases ho : okH s with
      | true =>
        have hk1 : Hid (okTo ss (k + 1) = true) := by show _ = _; rw [hst, hok.out, ho]; rfl
        have hp := okH_size ho
        have hM := fun w => countsOf (mark0 s) w
        have c1 := old1_bd (mark0 s)
        have c2 := new1_bd (mark0 s)
        rw [mark0_eq s hp] at hM e1 e2 c1 c2
        obtain ⟨A, hA⟩ : ∃ A, oldN (ss.take k) = A := ⟨_, rfl⟩
        obtain ⟨D, hD⟩ : ∃ D, newN (ss.take k) = D := ⟨_, rfl⟩
        obtain ⟨p, hpp⟩ : ∃ p, old1 (s[0].toNat : Int) = p := ⟨_, rfl⟩
        obtain ⟨r, hrr⟩ : ∃ r, new1 (s[0].toNat : Int) = r := ⟨_, rfl⟩
        rw [hA] at e1 b1 ⊢
        rw [hD] at e2 b2 ⊢
        rw [hpp] at e1 c1 hM
        rw [hrr] at e2 c2 hM
        have E1 : Hid (oldN (ss.take (k + 1)) = A + p) := e1
        have E2 : Hid (newN (ss.take (k + 1)) = D + r) := e2
        have hz : (0 : Int) < (s.size : Int) := by omega
        have u1 : A + p ≤ 2000000 := by omega
        have u2 : D + r ≤ 2000000 := by omega
        have u3 : 0 ≤ A + p := by omega
        have u4 : 0 ≤ D + r := by omega
        rw [ho] at hL
        clear hst hbad hse ho hok e1 e2 hA hD hpp hrr
        go_wp2_with fail
        refine (hL _).mono ?_; rintro e w' ⟨rfl, rfl⟩
        go_wp2_with fail
        refine (hM _).mono ?_; rintro e w' ⟨rfl, rfl⟩
        go_wp2
        go_round
        case rel => exact ⟨k + 1, by omega, by go_num, by rw [E1.out], by rw [E2.out], hk1⟩
        case measure => first | (simp [intOf]; omega) | simp [intOf]
      | false =>
        have hC : Hid (szC ss = 1) := szC_no (hbad ho)
        have hV : Hid (szV ss = []) := szV_no (hbad ho)
        have HB := below_sets hB1 (p := w.heap.size + 1) (by omega) (.int .i64 1) (.slice none 0 0)
        rw [ho] at hL
        clear hst hbad hse ho hok e1 e2
        go_wp2_with fail
        refine (hL _).mono ?_; rintro e w' ⟨rfl, rfl⟩
        go_wp2
        refine bodyPost_ret (v := .agg #[.int .i64 1, .slice none 0 0]) (by simp [results, Tryd.results34, go_sem, k0, k1]) rfl ?_
        rw [hC.out, hV.out]
        exact ⟨_, rfl, ⟨rfl, .inl ⟨rfl, rfl⟩⟩, HB⟩
    · have q : ¬ (k : Int) < (ss.length : Int) := by omega
      have hall : Hid (ss.all okH = true) := by
        have e : k = ss.length := by omega
        have := hok.out
        rw [e, okTo_full] at this
        exact this
      have e : ss.take k = ss := List.take_of_length_le (by omega)
      rw [e]
      have HF : Hid (SzP 0 [oldN ss, newN ss] w _ _) := szEnd (W := W1) (w.heap.size + 1) (oldN ss) (newN ss) hB1 (by omega) (by omega)
      obtain ⟨W4, hW4⟩ : ∃ W, W1.alloc (.cells #[.int .i64 (oldN ss), .int .i64 (newN ss)] 2) = W := ⟨_, rfl⟩
      obtain ⟨l0, l1, f0, f1⟩ : Res2 W4 (w.heap.size + 1) (.int .i64 0) (.slice none 0 0) := Res2.below (w := W1) ⟨k0, k1, g0, g1⟩ (by omega) (by rw [← hW4]; exact allocBelow _ _)
      rw [hW4] at HF
      clear k0 k1 g0 g1
      clear hok e b1 b2 hlk
      go_wp2
      refine bodyPost_ret (v := .agg #[.int .i64 0, .slice (some ⟨W1.heap.size, 0, none⟩) 2 2]) (by simp [results, Tryd.results34, go_sem, l0, l1]) rfl ?_
      rw [szC_ok hall.out, szV_ok hall.out]
      exact HF.out
end Go.Proofs.YtbghdelpnodijaaDoor
