/- The contracts of CommonOf, the program's and the specification's. No statement is proved here. -/
import Derived.Test.YtginglagekhaaagRows
import Derived.Test.YtginglagekhaaagLem
import Derived.Test.YtginglagekhaaagStrs
import Derived.Test.YtginglagekhaaagLFLem
import Derived.Test.YtginglagekhaaagLF
import Derived.Test.YtginglagekhaaagCom
import Derived.Test.YtginglagekhaaagAsked
import Derived.Test.YtginglagekhaaagDTab
import Derived.Test.YtginglagekhaaagFill
import Derived.Test.YtginglagekhaaagSTab
import Derived.Test.YtginglagekhaaagAlc
import Derived.WalkKit
import Derived.ProofKit
import Derived.Below
namespace Go.Proofs.Ytginglagekhaaag
open Go.ChangeShapes Go.WideShapes Go.ChangeAt Go.RowKit

/-- The value that CommonOf tells. -/
def comV (xs ys : List ByteArray) : Int := if asked xs ys = 0 then (comAt xs ys 0 0 : Int) else 0
theorem comV_ok {xs ys : List ByteArray} (h : asked xs ys = 0) : comV xs ys = (comAt xs ys 0 0 : Int) := if_pos h
theorem comV_no {xs ys : List ByteArray} (h : ¬ asked xs ys = 0) : comV xs ys = 0 := if_neg h
theorem ret_agg2 {a b c d : Value} (h1 : a = c) (h2 : b = d) : Ending.returned (.agg #[a, b]) = .returned (.agg #[c, d]) := by rw [h1, h2]

/-- A struct of two cells that a variable holds. -/
structure Res2 (w : World) (p : Nat) (u v : Value) : Prop where
  c0 : w.cell? ⟨p, 0, none⟩ = some u
  c1 : w.cell? ⟨p, 1, none⟩ = some v
  f0 : w.frozen? ⟨p, 0, none⟩ = false
  f1 : w.frozen? ⟨p, 1, none⟩ = false
theorem Res2.new (w : World) (u v : Value) (t : TypeId) : Res2 (w.alloc (.cells #[u, v] t)) w.heap.size u v := ⟨by simp, by simp, by simp, by simp⟩
theorem Res2.below {w w' : World} {p : Nat} {u v : Value} (h : Res2 w p u v) (hp : p < w.heap.size) (hb : Below w.heap.size w w') : Res2 w' p u v :=
  ⟨(hb.cell (p := ⟨p, 0, none⟩) hp).trans h.c0, (hb.cell (p := ⟨p, 1, none⟩) hp).trans h.c1, (hb.frozen (p := ⟨p, 0, none⟩) hp).trans h.f0, (hb.frozen (p := ⟨p, 1, none⟩) hp).trans h.f1⟩
theorem below_sets {B p : Nat} {a w : World} (h : Below B a w) (hp : B ≤ p) (u v : Value) : Below B a ((w.setCell ⟨p, 0, none⟩ u).setCell ⟨p, 1, none⟩ v) := (h.setCell (p := ⟨p, 0, none⟩) hp u).setCell (p := ⟨p, 1, none⟩) hp v
theorem allocBelow (w : World) (o : Obj) : Below w.heap.size w (w.alloc o) := (Below.refl _ _).alloc (Nat.le_refl _) _

set_option maxHeartbeats 1000000 in
theorem specCommonOf (a1 a2 : Option Addr) (c1 c2 : Nat) (xs ys : List ByteArray) (w : World) (h1 : SS w a1 xs) (h2 : SS w a2 ys) (n1 : xs.length ≤ 1048576) (t1 : tot xs ≤ 1048576) (n2 : ys.length ≤ 1048576) (t2 : tot ys ≤ 1048576) :
    Calls Try.prog 26 #[.slice a1 xs.length c1, .slice a2 ys.length c2] w fun e w' => e = .returned (.agg #[.int .i64 (asked xs ys), .int .i64 (comV xs ys)]) ∧ Below w.heap.size w w' := by
  have hA := fun w h1 h2 => specAsked a1 a2 c1 c2 xs ys w h1 h2 n1 t1 n2 t2
  by_cases h0 : asked xs ys = 0
  · obtain ⟨hx, hy⟩ := asked_zero h0
    have m1 := (lf_zero hx).1
    have m2 := (lf_zero hy).1
    have HV : Hid (comV xs ys = (comAt xs ys 0 0 : Int)) := comV_ok h0
    have HA : Hid (asked xs ys = 0) := h0
    rw [h0] at hA
    clear h0 hx hy
    obtain ⟨V, hV⟩ : ∃ V : Int, (comAt xs ys 0 0 : Int) = V := ⟨_, rfl⟩
    go_enter Try.func26, Try.ntmps26
    go_wp2_with fail
    obtain ⟨W1, hW1⟩ : ∃ W1, w.alloc (.cells #[.int .i64 0, .int .i64 0] 37) = W1 := ⟨_, rfl⟩
    have b1 : Below w.heap.size w W1 := by rw [← hW1]; exact allocBelow _ _
    have z1 : Hid (W1.heap.size = w.heap.size + 1) := by show _ = _; rw [← hW1]; simp
    have r1 : Res2 W1 w.heap.size (.int .i64 0) (.int .i64 0) := by rw [← hW1]; exact Res2.new _ _ _ _
    rw [hW1]
    clear hW1
    have s1 := h1.below b1
    have s2 := h2.below b1
    refine (hA _ s1 s2).mono ?_; rintro e W1 ⟨rfl, rfl⟩
    clear hA
    go_wp2_with fail
    refine (l2Table _ _ _ _ _ _ _ s1 s2 m1 m2).mono ?_; rintro e w2 ⟨g, c, rs, T, rfl, hT, hc, b2⟩
    have d1 := hT.c1 0 (by omega)
    have d2 := hT.c2 0 0 (by omega) (by omega)
    rw [hc 0 0 (by omega) (by omega), hV] at d2
    obtain ⟨q, hq⟩ : ∃ q, rs.getD 0 0 = q := ⟨_, rfl⟩
    rw [hq] at d1 d2
    obtain ⟨k0, k1, g0, g1⟩ := r1.below (by have := z1.out; omega) b2
    have BB := b1.trans (b2.mono b1.size)
    clear hq hc hT b2 s1 s2 r1 z1 h1 h2 b1
    go_wp2
    refine bodyPost_ret (v := .agg #[.int .i64 0, .int .i64 V]) (by simp [results, Try.results26, go_sem, k0, k1]) rfl ⟨?_, below_sets BB (Nat.le_refl _) _ _⟩
    rw [HA.out, HV.out, hV]
  · have hb := ne_beq h0
    have HV : Hid (comV xs ys = 0) := comV_no h0
    have HA : Hid (asked xs ys = asked xs ys) := rfl
    obtain ⟨v, hv⟩ : ∃ v, asked xs ys = v := ⟨_, rfl⟩
    rw [hv] at hA hb
    have HE : Hid (asked xs ys = v) := hv
    clear h0 hv HA
    go_enter Try.func26, Try.ntmps26
    go_wp2_with fail
    refine (hA _ (h1.below (allocBelow _ _)) (h2.below (allocBelow _ _))).mono ?_; rintro e w' ⟨rfl, rfl⟩
    go_wp2
    refine bodyPost_ret (v := .agg #[.int .i64 v, .int .i64 0]) (by simp [results, Try.results26, go_sem]) rfl ⟨?_, allocBelow _ _⟩
    rw [HE.out, HV.out]

set_option maxHeartbeats 1000000 in
theorem implCommonOf (a1 a2 : Option Addr) (c1 c2 : Nat) (xs ys : List ByteArray) (w : World) (h1 : SS w a1 xs) (h2 : SS w a2 ys) (n1 : xs.length ≤ 1048576) (n2 : ys.length ≤ 1048576) :
    Calls Try.prog 27 #[.slice a1 xs.length c1, .slice a2 ys.length c2] w fun e w' => e = .returned (.agg #[.int .i64 (asked xs ys), .int .i64 (comV xs ys)]) ∧ Below w.heap.size w w' := by
  have hA := fun w h1 h2 => implAsked a1 a2 c1 c2 xs ys w h1 h2 n1 n2
  by_cases h0 : asked xs ys = 0
  · obtain ⟨hx, hy⟩ := asked_zero h0
    have m1 := (lf_zero hx).1
    have m2 := (lf_zero hy).1
    have HV : Hid (comV xs ys = (comAt xs ys 0 0 : Int)) := comV_ok h0
    have HA : Hid (asked xs ys = 0) := h0
    rw [h0] at hA
    clear h0 hx hy
    obtain ⟨V, hV⟩ : ∃ V : Int, (comAt xs ys 0 0 : Int) = V := ⟨_, rfl⟩
    go_enter Try.func27, Try.ntmps27
    go_wp2_with fail
    obtain ⟨W1, hW1⟩ : ∃ W1, w.alloc (.cells #[.int .i64 0, .int .i64 0] 37) = W1 := ⟨_, rfl⟩
    have b1 : Below w.heap.size w W1 := by rw [← hW1]; exact allocBelow _ _
    have z1 : Hid (W1.heap.size = w.heap.size + 1) := by show _ = _; rw [← hW1]; simp
    have r1 : Res2 W1 w.heap.size (.int .i64 0) (.int .i64 0) := by rw [← hW1]; exact Res2.new _ _ _ _
    rw [hW1]
    clear hW1
    have s1 := h1.below b1
    have s2 := h2.below b1
    refine (hA _ s1 s2).mono ?_; rintro e W1 ⟨rfl, rfl⟩
    clear hA
    go_wp2_with (first | fail | (refine wpList_table rfl rfl ?_; intro W2 hD b2 z2))
    have t1 := s1.toB.below b2
    have t2 := s2.toB.below b2
    refine (fill _ _ _ _ _ _ _ _ hD t1 t2 m1 m2).mono ?_; rintro e w3 ⟨rfl, _, g3⟩
    rw [hV]
    have r2 := r1.below (by have := z1.out; omega) b2
    have b3 : Below W1.heap.size W1 w3 := b2.grown g3 b2.size (fun k hk => by cases hk; exact Nat.le_refl _)
    obtain ⟨k0, k1, g0, g1⟩ := r1.below (by have := z1.out; omega) b3
    have BB := b1.trans (b3.mono b1.size)
    clear hD t1 t2 g3 r2 b2 b3 s1 s2 r1 z1 z2 h1 h2 b1
    go_wp2
    refine bodyPost_ret (v := .agg #[.int .i64 0, .int .i64 V]) (by simp [results, Try.results27, go_sem, k0, k1]) rfl ⟨?_, below_sets BB (Nat.le_refl _) _ _⟩
    rw [HA.out, HV.out, hV]
  · have hb := ne_beq h0
    have HV : Hid (comV xs ys = 0) := comV_no h0
    have HA : Hid (asked xs ys = asked xs ys) := rfl
    obtain ⟨v, hv⟩ : ∃ v, asked xs ys = v := ⟨_, rfl⟩
    rw [hv] at hA hb
    have HE : Hid (asked xs ys = v) := hv
    clear h0 hv HA
    go_enter Try.func27, Try.ntmps27
    go_wp2_with fail
    refine (hA _ (h1.below (allocBelow _ _)) (h2.below (allocBelow _ _))).mono ?_; rintro e w' ⟨rfl, rfl⟩
    go_wp2
    refine bodyPost_ret (v := .agg #[.int .i64 v, .int .i64 0]) (by simp [results, Try.results27, go_sem]) rfl ⟨?_, allocBelow _ _⟩
    rw [HE.out, HV.out]

set_option maxHeartbeats 400000 in
theorem eqIntResult (c v : Int) (w : World) :
    Calls Try.prog 28 #[.agg #[.int .i64 c, .int .i64 v], .agg #[.int .i64 c, .int .i64 v]] w fun e w' => e = .returned (.bool true) ∧ Below w.heap.size w w' := by
  have hb : (c != c) = false := by simp
  have hb2 : (v != v) = false := by simp
  go_enter Try.func28, Try.ntmps28
  go_wp2
  go_ret
  exact ⟨rfl, ((Below.refl _ _).alloc (Nat.le_refl _) _).alloc (by simp) _⟩
end Go.Proofs.Ytginglagekhaaag
