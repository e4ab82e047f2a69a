/- Contracts of eqPairsResult, markPairsResult, heldPairsResult and of MatchLines (the program's and the specification's). No statement is proved here. -/
import Derived.Test.YtbmokagmpdgidaaRows
import Derived.Test.YtbmokagmpdgidaaLem
import Derived.Test.YtbmokagmpdgidaaStrs
import Derived.Test.YtbmokagmpdgidaaLFLem
import Derived.Test.YtbmokagmpdgidaaLF
import Derived.Test.YtbmokagmpdgidaaCom
import Derived.Test.YtbmokagmpdgidaaAsked
import Derived.Test.YtbmokagmpdgidaaDTab
import Derived.Test.YtbmokagmpdgidaaSTab
import Derived.Test.YtbmokagmpdgidaaPairs
import Derived.Test.YtbmokagmpdgidaaIntS
import Derived.Test.YtbmokagmpdgidaaFr
import Derived.WalkKit
import Derived.ProofKit
import Derived.Below
namespace Go.Proofs.Ytbmokagmpdgidaa
open Go.ChangeShapes Go.WideShapes Go.ChangeAt Go.RowKit

theorem newBelow (w : World) (o : Obj) : Below w.heap.size w (w.alloc o) := (Below.refl _ _).alloc (Nat.le_refl _) _
theorem newBelow2 (w : World) (o o' : Obj) : Below w.heap.size w ((w.alloc o).alloc o') := (newBelow w o).alloc (by simp) _

/-- The places that MatchLines tells. -/
def matL (xs ys : List ByteArray) : List (Nat × Nat) := if asked xs ys = 0 then mat xs ys 0 0 else []
theorem matL_ok {xs ys : List ByteArray} (h : asked xs ys = 0) : matL xs ys = mat xs ys 0 0 := if_pos h
theorem matL_no {xs ys : List ByteArray} (h : ¬ asked xs ys = 0) : matL xs ys = [] := if_neg h
def MatchPost (w : World) (xs ys : List ByteArray) (e : Ending) (w' : World) : Prop := ∃ v1 v2, e = .returned (.agg #[.int .i64 (asked xs ys), v1, v2]) ∧ Pr w.heap.size w' v1 v2 (matL xs ys) ∧ Below w.heap.size w w'
theorem matL_length (xs ys : List ByteArray) : (matL xs ys).length ≤ 100 := by
  by_cases h : asked xs ys = 0
  · rw [matL_ok h, mat_length xs ys _ 0 0 (Nat.le_refl _)]
    have h1 := (lf_zero (asked_zero h).1).1
    have h2 := (comAt_le xs ys 0 0).1
    omega
  · rw [matL_no h]; exact Nat.zero_le _
theorem own_shape {w : World} {base : Nat} {e : TypeId} {v : Value} {n : Nat} {xs : List Value} (h : w.ownsRow base e 1 v n xs) : ∃ a c, v = .slice a n c := by
  rcases h.2 with ⟨rfl, rfl⟩ | ⟨g, cap, cur, rfl, _⟩
  · exact ⟨_, _, rfl⟩
  · exact ⟨_, _, rfl⟩
theorem prFrozen {w w' : World} {b : Nat} (hb : Below w.heap.size w w') (hlt : b < w.heap.size) (hf : ∀ o, w.frozen? ⟨b, o, none⟩ = false) : ∀ o, w'.frozen? ⟨b, o, none⟩ = false := fun o => (hb.frozen (p := ⟨b, o, none⟩) hlt).trans (hf o)

set_option maxHeartbeats 1000000 in
theorem specMatchLines (a1 a2 : Option Addr) (c1 c2 : Nat) (xs ys : List ByteArray) (w : World) (h1 : SS w a1 xs) (h2 : SS w a2 ys) (n1 : xs.length ≤ 1048576) (t1 : tot xs ≤ 1048576) (n2 : ys.length ≤ 1048576) (t2 : tot ys ≤ 1048576) :
    Calls Try.prog 21 #[.slice a1 xs.length c1, .slice a2 ys.length c2] w fun e w' => MatchPost w xs ys e w' := by
  have hA := fun w h1 h2 => specAsked a1 a2 c1 c2 xs ys w h1 h2 n1 t1 n2 t2
  by_cases h0 : asked xs ys = 0
  · obtain ⟨hx, hy⟩ := asked_zero h0
    have m1 := (lf_zero hx).1
    have m2 := (lf_zero hy).1
    have HV : Hid (matL xs ys = mat xs ys 0 0) := matL_ok h0
    have HA : Hid (asked xs ys = 0) := h0
    rw [h0] at hA
    clear h0 hx hy
    go_enter Try.func21, Try.ntmps21
    go_wp2_with fail
    obtain ⟨W1, hW1⟩ : ∃ W1, w.alloc (.cells #[.int .i64 0, .slice none 0 0, .slice none 0 0] 40) = W1 := ⟨_, rfl⟩
    have b1 : Below w.heap.size w W1 := by rw [← hW1]; exact newBelow _ _
    have z1 : Hid (W1.heap.size = w.heap.size + 1) := by show _ = _; rw [← hW1]; simp
    have r1 : Rs W1 w.heap.size [.int .i64 0, .slice none 0 0, .slice none 0 0] := by rw [← hW1]; exact Rs.new _ _ _
    have f1 : ∀ o, W1.frozen? ⟨w.heap.size, o, none⟩ = false := fun o => by rw [← hW1]; unfold World.frozen?; rw [heap_alloc_new]; simp
    rw [hW1]
    clear hW1
    have s1 := h1.below b1
    have s2 := h2.below b1
    refine (hA _ s1 s2).mono ?_; rintro e W1 ⟨rfl, rfl⟩
    clear hA
    go_wp2_with fail
    refine (l2Match _ _ _ _ _ _ _ s1 s2 m1 m2).mono ?_; rintro e w2 ⟨v1, v2, rfl, hP, b2⟩
    obtain ⟨y1, l1, hv1⟩ := own_shape hP.o1
    obtain ⟨y2, l2, hv2⟩ := own_shape hP.o2
    obtain ⟨N, hN⟩ : ∃ N, (mat xs ys 0 0).length = N := ⟨_, rfl⟩
    rw [hN] at hv1 hv2
    clear hN
    subst hv1 hv2
    obtain ⟨v1, hv1⟩ : ∃ v, v = Value.slice y1 N l1 := ⟨_, rfl⟩
    obtain ⟨v2, hv2⟩ : ∃ v, v = Value.slice y2 N l2 := ⟨_, rfl⟩
    rw [← hv1, ← hv2] at hP
    have hlt : w.heap.size < W1.heap.size := by have := z1.out; omega
    have hFr : Fr 0 0 W1 w2 := Fr.ofBelow b2
    have k0 := hFr.cell (r1 0 _ rfl) (.inr (Nat.zero_le _))
    have k1 := hFr.cell (r1 1 _ rfl) (.inr (Nat.zero_le _))
    have k2 := hFr.cell (r1 2 _ rfl) (.inr (Nat.zero_le _))
    have g0 := prFrozen b2 hlt f1
    have BB := b1.trans (b2.mono b1.size)
    have HP : Hid (Pr w.heap.size (((w2.setCell ⟨w.heap.size, 0, none⟩ (.int .i64 0)).setCell ⟨w.heap.size, 1, none⟩ v1).setCell ⟨w.heap.size, 2, none⟩ v2) v1 v2 (mat xs ys 0 0)) := by
      have hs := ((grownTrans (grownTrans (grownSet w2 w.heap.size 0 (.int .i64 0)) (grownSet _ w.heap.size 1 v1)) (grownSet _ w.heap.size 2 v2)))
      exact (hP.kept hs (fun j hj => by cases hj; exact hlt)).mono (Nat.le_of_lt hlt)
    have HB : Hid (Below w.heap.size w (((w2.setCell ⟨w.heap.size, 0, none⟩ (.int .i64 0)).setCell ⟨w.heap.size, 1, none⟩ v1).setCell ⟨w.heap.size, 2, none⟩ v2)) :=
      ((BB.setCell (p := ⟨w.heap.size, 0, none⟩) (Nat.le_refl _) _).setCell (p := ⟨w.heap.size, 1, none⟩) (Nat.le_refl _) _).setCell (p := ⟨w.heap.size, 2, none⟩) (Nat.le_refl _) _
    clear hP b2 s1 s2 r1 z1 h1 h2 b1 f1 hFr BB hlt
    rw [hv1, hv2] at HP HB
    clear hv1 hv2
    go_wp2
    refine bodyPost_ret (v := .agg #[.int .i64 0, .slice y1 N l1, .slice y2 N l2]) (by simp [results, Try.results21, go_sem, k0, k1, k2]) rfl ?_
    exact ⟨_, _, by rw [HA.out], by rw [HV.out]; exact HP.out, HB.out⟩
  · have hb := ne_beq h0
    have HV : Hid (matL xs ys = []) := matL_no h0
    obtain ⟨v, hv⟩ : ∃ v, asked xs ys = v := ⟨_, rfl⟩
    rw [hv] at hA hb
    have HE : Hid (asked xs ys = v) := hv
    clear h0 hv
    go_enter Try.func21, Try.ntmps21
    go_wp2_with fail
    refine (hA _ (h1.below (newBelow _ _)) (h2.below (newBelow _ _))).mono ?_; rintro e w' ⟨rfl, rfl⟩
    go_wp2
    refine bodyPost_ret (v := .agg #[.int .i64 v, .slice none 0 0, .slice none 0 0]) (by simp [results, Try.results21, go_sem]) rfl ?_
    exact ⟨_, _, by rw [HE.out], by rw [HV.out]; exact ⟨ownNil _ _, ownNil _ _, fun j e1 _ => by cases e1⟩, newBelow _ _⟩

set_option maxHeartbeats 1000000 in
theorem implMatchLines (a1 a2 : Option Addr) (c1 c2 : Nat) (xs ys : List ByteArray) (w : World) (h1 : SS w a1 xs) (h2 : SS w a2 ys) (n1 : xs.length ≤ 1048576) (n2 : ys.length ≤ 1048576) :
    Calls Try.prog 20 #[.slice a1 xs.length c1, .slice a2 ys.length c2] w fun e w' => MatchPost w xs ys e w' := by
  have hA := fun w h1 h2 => implAsked a1 a2 c1 c2 xs ys w h1 h2 n1 n2
  by_cases h0 : asked xs ys = 0
  · obtain ⟨hx, hy⟩ := asked_zero h0
    have m1 := (lf_zero hx).1
    have m2 := (lf_zero hy).1
    have HV : Hid (matL xs ys = mat xs ys 0 0) := matL_ok h0
    have HA : Hid (asked xs ys = 0) := h0
    rw [h0] at hA
    clear h0 hx hy
    go_enter Try.func20, Try.ntmps20
    go_wp2_with fail
    obtain ⟨W1, hW1⟩ : ∃ W1, w.alloc (.cells #[.int .i64 0, .slice none 0 0, .slice none 0 0] 40) = W1 := ⟨_, rfl⟩
    have b1 : Below w.heap.size w W1 := by rw [← hW1]; exact newBelow _ _
    have z1 : Hid (W1.heap.size = w.heap.size + 1) := by show _ = _; rw [← hW1]; simp
    have r1 : Rs W1 w.heap.size [.int .i64 0, .slice none 0 0, .slice none 0 0] := by rw [← hW1]; exact Rs.new _ _ _
    have f1 : ∀ o, W1.frozen? ⟨w.heap.size, o, none⟩ = false := fun o => by rw [← hW1]; unfold World.frozen?; rw [heap_alloc_new]; simp
    rw [hW1]
    clear hW1
    have s1 := h1.below b1
    have s2 := h2.below b1
    refine (hA _ s1 s2).mono ?_; rintro e W1 ⟨rfl, rfl⟩
    clear hA
    go_wp2_with fail
    refine (matchedPlaces _ _ _ _ _ _ _ s1 s2 m1 m2).mono ?_; rintro e w2 ⟨v1, v2, rfl, hP, b2⟩
    obtain ⟨y1, l1, hv1⟩ := own_shape hP.o1
    obtain ⟨y2, l2, hv2⟩ := own_shape hP.o2
    obtain ⟨N, hN⟩ : ∃ N, (mat xs ys 0 0).length = N := ⟨_, rfl⟩
    rw [hN] at hv1 hv2
    clear hN
    subst hv1 hv2
    obtain ⟨v1, hv1⟩ : ∃ v, v = Value.slice y1 N l1 := ⟨_, rfl⟩
    obtain ⟨v2, hv2⟩ : ∃ v, v = Value.slice y2 N l2 := ⟨_, rfl⟩
    rw [← hv1, ← hv2] at hP
    have hlt : w.heap.size < W1.heap.size := by have := z1.out; omega
    have hFr : Fr 0 0 W1 w2 := Fr.ofBelow b2
    have k0 := hFr.cell (r1 0 _ rfl) (.inr (Nat.zero_le _))
    have k1 := hFr.cell (r1 1 _ rfl) (.inr (Nat.zero_le _))
    have k2 := hFr.cell (r1 2 _ rfl) (.inr (Nat.zero_le _))
    have g0 := prFrozen b2 hlt f1
    have BB := b1.trans (b2.mono b1.size)
    have HP : Hid (Pr w.heap.size (((w2.setCell ⟨w.heap.size, 0, none⟩ (.int .i64 0)).setCell ⟨w.heap.size, 1, none⟩ v1).setCell ⟨w.heap.size, 2, none⟩ v2) v1 v2 (mat xs ys 0 0)) := by
      have hs := ((grownTrans (grownTrans (grownSet w2 w.heap.size 0 (.int .i64 0)) (grownSet _ w.heap.size 1 v1)) (grownSet _ w.heap.size 2 v2)))
      exact (hP.kept hs (fun j hj => by cases hj; exact hlt)).mono (Nat.le_of_lt hlt)
    have HB : Hid (Below w.heap.size w (((w2.setCell ⟨w.heap.size, 0, none⟩ (.int .i64 0)).setCell ⟨w.heap.size, 1, none⟩ v1).setCell ⟨w.heap.size, 2, none⟩ v2)) :=
      ((BB.setCell (p := ⟨w.heap.size, 0, none⟩) (Nat.le_refl _) _).setCell (p := ⟨w.heap.size, 1, none⟩) (Nat.le_refl _) _).setCell (p := ⟨w.heap.size, 2, none⟩) (Nat.le_refl _) _
    clear hP b2 s1 s2 r1 z1 h1 h2 b1 f1 hFr BB hlt
    rw [hv1, hv2] at HP HB
    clear hv1 hv2
    go_wp2
    refine bodyPost_ret (v := .agg #[.int .i64 0, .slice y1 N l1, .slice y2 N l2]) (by simp [results, Try.results20, go_sem, k0, k1, k2]) rfl ?_
    exact ⟨_, _, by rw [HA.out], by rw [HV.out]; exact HP.out, HB.out⟩
  · have hb := ne_beq h0
    have HV : Hid (matL xs ys = []) := matL_no h0
    obtain ⟨v, hv⟩ : ∃ v, asked xs ys = v := ⟨_, rfl⟩
    rw [hv] at hA hb
    have HE : Hid (asked xs ys = v) := hv
    clear h0 hv
    go_enter Try.func20, Try.ntmps20
    go_wp2_with fail
    refine (hA _ (h1.below (newBelow _ _)) (h2.below (newBelow _ _))).mono ?_; rintro e w' ⟨rfl, rfl⟩
    go_wp2
    refine bodyPost_ret (v := .agg #[.int .i64 v, .slice none 0 0, .slice none 0 0]) (by simp [results, Try.results20, go_sem]) rfl ?_
    exact ⟨_, _, by rw [HE.out], by rw [HV.out]; exact ⟨ownNil _ _, ownNil _ _, fun j e1 _ => by cases e1⟩, newBelow _ _⟩
end Go.Proofs.Ytbmokagmpdgidaa
