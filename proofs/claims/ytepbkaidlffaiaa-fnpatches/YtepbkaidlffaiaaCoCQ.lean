/- The contracts of CommonOf, the program's and the specification's. No statement is proved here. -/
import Derived.Test.YtepbkaidlffaiaaRows
import Derived.Test.YtepbkaidlffaiaaLemQ
import Derived.Test.YtepbkaidlffaiaaStrsQ
import Derived.Test.YtepbkaidlffaiaaOwnQ
import Derived.Test.YtepbkaidlffaiaaLFLemQ
import Derived.Test.YtepbkaidlffaiaaLFQ
import Derived.Test.YtepbkaidlffaiaaComQ
import Derived.Test.YtepbkaidlffaiaaAskedQ
import Derived.Test.YtepbkaidlffaiaaDTabQ
import Derived.Test.YtepbkaidlffaiaaFillQ
import Derived.Test.YtepbkaidlffaiaaSTabQ
import Derived.Test.YtepbkaidlffaiaaAlcQ
import Derived.WalkKit
import Derived.ProofKit
import Derived.Below
namespace Go.Proofs.Ytepbkaidlffaiaa
open Go.ChangeShapes Go.WideShapes Go.ChangeAt Go.RowKit

/-- The value that CommonOf tells. -/
def comV (xs ys : List ByteArray) : Int := if asked xs ys = 0 then (comAt xs ys 0 0 : Int) else 0
theorem comV_ok {xs ys : List ByteArray} (h : asked xs ys = 0) : comV xs ys = (comAt xs ys 0 0 : Int) := if_pos h
theorem comV_no {xs ys : List ByteArray} (h : ¬ asked xs ys = 0) : comV xs ys = 0 := if_neg h
set_option maxHeartbeats 1000000 in
theorem implCommonOf (a1 a2 : Option Addr) (c1 c2 : Nat) (xs ys : List ByteArray) (w : World) (h1 : SS w a1 xs) (h2 : SS w a2 ys) (n1 : xs.length ≤ 1048576) (n2 : ys.length ≤ 1048576) :
    Calls Try.prog 22 #[.slice a1 xs.length c1, .slice a2 ys.length c2] w fun e w' => e = .returned (.agg #[.int .i64 (asked xs ys), .int .i64 (comV xs ys)]) ∧ Below w.heap.size w w' := by
  have hA := fun w h1 h2 => implAsked a1 a2 c1 c2 xs ys w h1 h2 n1 n2
  by_cases h0 : asked xs ys = 0
  · obtain ⟨hx, hy⟩ := asked_zero h0
    have m1 := (lf_zero hx).1
    have m2 := (lf_zero hy).1
    have HV : Hid (comV xs ys = (comAt xs ys 0 0 : Int)) := comV_ok h0
    have HA : Hid (asked xs ys = 0) := h0
    rw [h0] at hA
    clear h0 hx hy
    obtain ⟨V, hV⟩ : ∃ V : Int, (comAt xs ys 0 0 : Int) = V := ⟨_, rfl⟩
    go_enter Try.func22, Try.ntmps22
    go_wp2_with fail
    obtain ⟨W1, hW1⟩ : ∃ W1, w.alloc (.cells #[.int .i64 0, .int .i64 0] 43) = W1 := ⟨_, rfl⟩
    have b1 : Below w.heap.size w W1 := by rw [← hW1]; exact allocBelow _ _
    have z1 : Hid (W1.heap.size = w.heap.size + 1) := by show _ = _; rw [← hW1]; simp
    have r1 : Res2 W1 w.heap.size (.int .i64 0) (.int .i64 0) := by rw [← hW1]; exact Res2.new _ _ _ _
    rw [hW1]
    clear hW1
    have s1 := h1.below b1
    have s2 := h2.below b1
    refine (hA _ s1 s2).mono ?_; rintro e W1 ⟨rfl, rfl⟩
    clear hA
    go_wp2_with (first | fail | (refine wpList_table rfl rfl ?_; intro W2 hD b2 z2))
    have t1 := s1.toB.below b2
    have t2 := s2.toB.below b2
    refine (fill _ _ _ _ _ _ _ _ hD t1 t2 m1 m2).mono ?_; rintro e w3 ⟨rfl, _, g3⟩
    rw [hV]
    have r2 := r1.below (by have := z1.out; omega) b2
    have b3 : Below W1.heap.size W1 w3 := b2.grown g3 b2.size (fun k hk => by cases hk; exact Nat.le_refl _)
    obtain ⟨k0, k1, g0, g1⟩ := r1.below (by have := z1.out; omega) b3
    have BB := b1.trans (b3.mono b1.size)
    clear hD t1 t2 g3 r2 b2 b3 s1 s2 r1 z1 z2 h1 h2 b1
    go_wp2
    refine bodyPost_ret (v := .agg #[.int .i64 0, .int .i64 V]) (by simp [results, Try.results22, go_sem, k0, k1]) rfl ⟨?_, below_sets BB (Nat.le_refl _) _ _⟩
    rw [HA.out, HV.out, hV]
  · have hb := ne_beq h0
    have HV : Hid (comV xs ys = 0) := comV_no h0
    have HA : Hid (asked xs ys = asked xs ys) := rfl
    obtain ⟨v, hv⟩ : ∃ v, asked xs ys = v := ⟨_, rfl⟩
    rw [hv] at hA hb
    have HE : Hid (asked xs ys = v) := hv
    clear h0 hv HA
    go_enter Try.func22, Try.ntmps22
    go_wp2_with fail
    refine (hA _ (h1.below (allocBelow _ _)) (h2.below (allocBelow _ _))).mono ?_; rintro e w' ⟨rfl, rfl⟩
    go_wp2
    refine bodyPost_ret (v := .agg #[.int .i64 v, .int .i64 0]) (by simp [results, Try.results22, go_sem]) rfl ⟨?_, allocBelow _ _⟩
    rw [HE.out, HV.out]

end Go.Proofs.Ytepbkaidlffaiaa
