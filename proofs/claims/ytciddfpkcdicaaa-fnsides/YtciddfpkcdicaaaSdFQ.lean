/- Proved: at every code FnSides returns true (whoever's side is which, as much clashes, and what does not clash is the same). No condition: FnSidesSaid itself. -/
import Derived.Test.YtciddfpkcdicaaaRows
import Derived.Test.YtciddfpkcdicaaaLemQ
import Derived.Test.YtciddfpkcdicaaaMarksQ
import Derived.Test.YtciddfpkcdicaaaDTabQ
import Derived.Test.YtciddfpkcdicaaaHkTQ
import Derived.Test.YtciddfpkcdicaaaTFQ
import Derived.Test.YtciddfpkcdicaaaSplQ
import Derived.Test.YtciddfpkcdicaaaDrawQ
import Derived.Test.YtciddfpkcdicaaaMxJQ
import Derived.Test.YtciddfpkcdicaaaCoTQ
import Derived.Test.YtciddfpkcdicaaaTvMQ
import Derived.Test.YtciddfpkcdicaaaDraw15Q
import Derived.WalkKit
import Derived.ProofKit
import Derived.OpenShut
import Derived.Below
import Derived.WalkSpells
import Derived.Deep.RegionHeld
set_option linter.unusedVariables false
namespace Go.Proofs.Ytciddfpkcdicaaa.SdF
open Go.ChangeShapes Go.WideShapes Go.ChangeAt Go.RowKit

theorem lwBig (a : Option Addr) (n cap : Nat) (w : World) : Calls Try.prog 7 #[.slice a n cap] w fun e w' => e = .returned (.bool (decide ((1048576 : Int) < (n : Int)))) ∧ w' = w := by
  go_enter Try.func7, Try.ntmps7
  go_wp2
  go_ret
  exact ⟨rfl, rfl⟩
theorem zc {w w' : World} {b o : Nat} {v : Value} (h : Below w.heap.size w w') (hc : w.cell? ⟨b, o, none⟩ = some v) : w'.cell? ⟨b, o, none⟩ = some v := (Fr.ofBelow (lo := 0) (hi := 0) h).cell hc (.inr (Nat.zero_le _))
theorem takeD {P : Program} {md : Region.Mode} {ops : Array Oper} {Q : Exit → Act → World → Prop} {S : World → Prop} {i d : Nat} {oi : Oper} {v : Value} {fuel : Nat} {listed listed' : Array Bool} {a : Act} {w : World} (hi : ops[i]? = some oi)
    (hs : Region.noSelect ops = true) (hf : Region.free md ops listed i = true) (hr : (Region.ready md ops listed).contains i = true)
    (hQ : ∀ c a w, Q (.panic c) (a.put oi.dst v) w → Q (.panic c) a w) (hy : YieldsIf P ops S oi v a) (hS : S w) (hd : oi.dst = some d) (hl : listed.setIfInBounds i true = listed')
    (h : wpAnyH P md ops Q S fuel listed' (a.put (some d) v) w) : wpAnyH P md ops Q S (fuel + 1) listed a w := by
  subst hl
  exact wpAnyH_take hi hs hf hr hQ hy hS (by rw [hd]; exact h)
set_option maxRecDepth 20000 in
set_option maxHeartbeats 4000000 in
theorem walk (a : Option Addr) (n cap : Nat) (w : World) (h : Bts w a n) (hm : n ≤ 9223372036854775807) :
    Calls Try.prog 4 #[.slice a n cap] w fun e w' => e = .returned (.bool true) ∧ Below w.heap.size w w' := by
  by_cases hbig : (1048576 : Int) < (n : Int)
  · go_enter Try.func4, Try.ntmps4
    go_wp2_with (go_at_call 7; refine (lwBig _ _ _ _).mono ?_; rintro e w' ⟨rfl, rfl⟩)
    go_ret
    exact ⟨rfl, Below.refl _ _⟩
  have hn : n ≤ 1048576 := by omega
  go_enter Try.func4, Try.ntmps4
  go_wp2_with fail
  refine (lwBig _ _ _ _).mono ?_; rintro e w ⟨rfl, rfl⟩
  go_wp2_with fail
  refine (drawMergeTexts a n cap _ h hn).mono ?_; rintro e w1 ⟨x, y, z, rfl, zx, zy, zz, b1⟩
  have hI := fun W => implMergeTexts x y z W (by omega) (by omega) (by omega)
  have hJ := fun W => implMergeTexts x z y W (by omega) (by omega) (by omega)
  have hS := fun W => specMergeTexts x y z W (by omega) (by omega) (by omega)
  obtain ⟨s1, s2, s3, s4⟩ := mt_sides x y z
  rw [s1, s2] at hJ
  have hNbd : mtR x y z = 0 → 0 ≤ mtN x y z ∧ mtN x y z ≤ 1000000 := fun e => by
    obtain ⟨_, h1, h2, h3⟩ := And.intro e (tx3_zero (a := x) (b := y) (c := z) (by
      by_cases q : tx3 x y z = 0
      · exact q
      · have r : mtR x y z = tx3 x y z := if_neg q
        rw [r] at e; exact e))
    have b1 := cc_bd (ckT (linesOf x) (linesOf y) (linesOf z))
    have b2 := (mxOK (Rm.lf_lines h1) (Rm.lf_lines h2) (Rm.lf_lines h3)).short
    unfold mtN
    rw [if_pos e]
    omega
  have hTz : (mtT x y z).size ≤ 400000000 := by
    unfold mtT
    split
    · rename_i e
      exact (Tx.of (by
        by_cases q : tx3 x y z = 0
        · exact q
        · have r : mtR x y z = tx3 x y z := if_neg q
          rw [r] at e; exact e)).sz
    · exact Nat.zero_le _
  generalize mtR x y z = R at hI hJ hS hNbd
  generalize mtN x y z = K at hI hJ hS s4 hNbd
  generalize mtT x y z = T at hI hJ hS s3 s4 hTz
  generalize mtT x z y = U at hJ s3 s4
  clear s1 s2 h
  go_wp2_with fail
  refine (hI _).mono ?_; rintro e w2 ⟨rfl, b2⟩
  have B2 := b1.trans (b2.mono b1.size)
  obtain ⟨W3, hW3⟩ : ∃ W, w2.alloc (.cells #[.int .i64 R, .int .i64 K, .string T] 28) = W := ⟨_, rfl⟩
  have b3 : Below w2.heap.size w2 W3 := by rw [← hW3]; exact allocBelow _ _
  have u3 : Rf W3 w2.heap.size [.int .i64 R, .int .i64 K, .string T] := by rw [← hW3]; exact Rf.new _ _ _
  have B3 := B2.trans (b3.mono B2.size)
  obtain ⟨p, hp⟩ : ∃ p, w2.heap.size = p := ⟨_, rfl⟩
  rw [hp] at u3
  have c0 := u3.at_ 0 _ rfl
  have c1 := u3.at_ 1 _ rfl
  have c2 := u3.at_ 2 _ rfl
  clear b1 b2 b3 B2 u3 hI
  go_wp2_with fail
  refine (hJ _).mono ?_; rintro e w4 ⟨rfl, b4⟩
  have B4 := B3.trans (b4.mono B3.size)
  have c0 := zc b4 c0
  have c1 := zc b4 c1
  have c2 := zc b4 c2
  obtain ⟨W5, hW5⟩ : ∃ W, w4.alloc (.cells #[.int .i64 R, .int .i64 K, .string U] 28) = W := ⟨_, rfl⟩
  have b5 : Below w4.heap.size w4 W5 := by rw [← hW5]; exact allocBelow _ _
  have u5 : Rf W5 w4.heap.size [.int .i64 R, .int .i64 K, .string U] := by rw [← hW5]; exact Rf.new _ _ _
  have B5 := B4.trans (b5.mono B4.size)
  obtain ⟨p2, hp2⟩ : ∃ p, w4.heap.size = p := ⟨_, rfl⟩
  rw [hp2] at u5
  have d0 := u5.at_ 0 _ rfl
  have d1 := u5.at_ 1 _ rfl
  have d2 := u5.at_ 2 _ rfl
  have c0 := zc b5 c0
  have c1 := zc b5 c1
  have c2 := zc b5 c2
  clear b4 b5 B3 B4 u5 hJ
  have qR : (R == R) = true := by simp
  have qK : (K == K) = true := by simp
  have hf0 : ∀ w, (Instr.field 28 (.agg #[.int .i64 R, .int .i64 K, .string T]) 0).run Try.prog w = .ok (.int .i64 R) w := fun w => by kernel_rfl
  have hf1 : ∀ w, (Instr.field 28 (.agg #[.int .i64 R, .int .i64 K, .string T]) 1).run Try.prog w = .ok (.int .i64 K) w := fun w => by kernel_rfl
  have BD : Below W5.heap.size W5 W5.drew := (Below.refl _ _).drew
  by_cases e0 : R = 0
  · subst e0
    obtain ⟨k0, k1⟩ := hNbd rfl
    have qs : (((T.size : Nat) : Int) == ((U.size : Nat) : Int)) = true := by rw [s3]; simp
    have qt : decide (0 < K) = false → (T.toList == U.toList) = true := fun e => by
      rw [s4 (by have := of_decide_eq_false e; omega)]; simp
    clear hNbd s3 s4 hf0
    go_upto_region 8 with fail
    go_cut [2] from 42 to 82 (fun s wx => s = .bool true ∧ Below W5.heap.size W5 wx)
    case first =>
      clear B5 hbig hW5 hW3 hp hp2
      by_cases hK : K = 0
      · subst hK
        have qt := qt (by decide)
        clear k0 k1
        go_region_held (fun w' => w'.cell? ⟨p, 1, none⟩ = some (.int .i64 0) ∧ w'.cell? ⟨p, 2, none⟩ = some (.string T) ∧ w'.cell? ⟨p2, 0, none⟩ = some (.int .i64 0) ∧ w'.cell? ⟨p2, 1, none⟩ = some (.int .i64 0) ∧ w'.cell? ⟨p2, 2, none⟩ = some (.string U)) (first | with_reducible exact ⟨c1, c2, d0, d1, d2⟩ | with_reducible exact ⟨a1, a2, a3, a4, a5⟩ | exact ⟨c1, c2, d0, d1, d2⟩)
          ((go_at_call 11; refine (hS _).mono ?_; rintro e wa ⟨rfl, ba⟩; have BA := BD.trans ba; have a1 := zc BA c1; have a2 := zc BA c2; have a3 := zc BA d0; have a4 := zc BA d1; have a5 := zc BA d2))
        all_goals (go_wp2_with fail; go_meet; exact ⟨rfl, BA⟩)
      · have hop : ∀ t w, (binOp .gtr t (.int .i64 K) (.int .i64 0)).run Try.prog w = .ok (.bool true) w := fun t w => by
          have e : decide (0 < K) = true := decide_eq_true (by omega)
          show Sem.run _ (pure (Value.bool (decide (K > 0)))) w = _
          rw [show decide (K > 0) = true from e]
          rfl
        have hK : decide (0 < K) = true := decide_eq_true (by omega)
        clear k0 k1 qt
        refine wp_region_held_drew (S := fun w' => w'.cell? ⟨p, 1, none⟩ = some (.int .i64 K) ∧ w'.cell? ⟨p, 2, none⟩ = some (.string T) ∧ w'.cell? ⟨p2, 0, none⟩ = some (.int .i64 0) ∧ w'.cell? ⟨p2, 1, none⟩ = some (.int .i64 K) ∧ w'.cell? ⟨p2, 2, none⟩ = some (.string U)) (by kernel_rfl) ⟨c1, c2, d0, d1, d2⟩ (fun hHeld => ?_)
        refine takeD (i := 0) (d := 42) (oi := _) (v := ?_) (listed' := #[true, false, false, false, false, false, false, false, false, false, false, false, false, false, false, false, false, false, false, false, false, false, false, false, false, false, false, false, false, false, false, false, false, false, false, false, false, false, false, false, false, false]) rfl (by kernel_rfl) (by kernel_rfl) (by kernel_rfl) (fun _ _ _ h => h) (Or.inl ⟨by rfl, ?_⟩) hHeld (by kernel_rfl) (by kernel_rfl) ?_
        rotate_left
        · intro w hSw
          try dsimp only at hSw
          first
            | (go_simp; done)
            | (go_simp; with_reducible rfl)
            | (go_simp; simp [hK])
        simp only [Act.put, List.setIfInBounds_toArray, List.set_cons_zero, List.set_cons_succ]
        refine takeD (i := 1) (d := 43) (oi := _) (v := ?_) (listed' := #[true, true, false, false, false, false, false, false, false, false, false, false, false, false, false, false, false, false, false, false, false, false, false, false, false, false, false, false, false, false, false, false, false, false, false, false, false, false, false, false, false, false]) rfl (by kernel_rfl) (by kernel_rfl) (by kernel_rfl) (fun _ _ _ h => h) (Or.inl ⟨by rfl, ?_⟩) hHeld (by kernel_rfl) (by kernel_rfl) ?_
        rotate_left
        · intro w hSw
          try dsimp only at hSw
          first
            | (go_simp; done)
            | (go_simp; with_reducible rfl)
            | (go_simp; simp [hK])
        simp only [Act.put, List.setIfInBounds_toArray, List.set_cons_zero, List.set_cons_succ]
        refine takeD (i := 2) (d := 44) (oi := _) (v := ?_) (listed' := #[true, true, true, false, false, false, false, false, false, false, false, false, false, false, false, false, false, false, false, false, false, false, false, false, false, false, false, false, false, false, false, false, false, false, false, false, false, false, false, false, false, false]) rfl (by kernel_rfl) (by kernel_rfl) (by kernel_rfl) (fun _ _ _ h => h) (Or.inl ⟨by rfl, ?_⟩) hHeld (by kernel_rfl) (by kernel_rfl) ?_
        rotate_left
        · intro w hSw
          try dsimp only at hSw
          first
            | (go_simp; done)
            | (go_simp; with_reducible rfl)
            | (go_simp; simp [hK])
        simp only [Act.put, List.setIfInBounds_toArray, List.set_cons_zero, List.set_cons_succ]
        refine takeD (i := 3) (d := 45) (oi := _) (v := ?_) (listed' := #[true, true, true, true, false, false, false, false, false, false, false, false, false, false, false, false, false, false, false, false, false, false, false, false, false, false, false, false, false, false, false, false, false, false, false, false, false, false, false, false, false, false]) rfl (by kernel_rfl) (by kernel_rfl) (by kernel_rfl) (fun _ _ _ h => h) (Or.inl ⟨by rfl, ?_⟩) hHeld (by kernel_rfl) (by kernel_rfl) ?_
        rotate_left
        · intro w hSw
          try dsimp only at hSw
          first
            | (go_simp; done)
            | (go_simp; with_reducible rfl)
            | (go_simp; simp [hK])
        simp only [Act.put, List.setIfInBounds_toArray, List.set_cons_zero, List.set_cons_succ]
        refine takeD (i := 4) (d := 46) (oi := _) (v := ?_) (listed' := #[true, true, true, true, true, false, false, false, false, false, false, false, false, false, false, false, false, false, false, false, false, false, false, false, false, false, false, false, false, false, false, false, false, false, false, false, false, false, false, false, false, false]) rfl (by kernel_rfl) (by kernel_rfl) (by kernel_rfl) (fun _ _ _ h => h) (Or.inl ⟨by rfl, ?_⟩) hHeld (by kernel_rfl) (by kernel_rfl) ?_
        rotate_left
        · intro w hSw
          try dsimp only at hSw
          first
            | (go_simp; done)
            | (go_simp; with_reducible rfl)
            | (go_simp; simp [hK])
        simp only [Act.put, List.setIfInBounds_toArray, List.set_cons_zero, List.set_cons_succ]
        refine takeD (i := 5) (d := 47) (oi := _) (v := ?_) (listed' := #[true, true, true, true, true, true, false, false, false, false, false, false, false, false, false, false, false, false, false, false, false, false, false, false, false, false, false, false, false, false, false, false, false, false, false, false, false, false, false, false, false, false]) rfl (by kernel_rfl) (by kernel_rfl) (by kernel_rfl) (fun _ _ _ h => h) (Or.inl ⟨by rfl, ?_⟩) hHeld (by kernel_rfl) (by kernel_rfl) ?_
        rotate_left
        · intro w hSw
          try dsimp only at hSw
          first
            | (go_simp; done)
            | (go_simp; with_reducible rfl)
            | (go_simp; simp [hK])
        simp only [Act.put, List.setIfInBounds_toArray, List.set_cons_zero, List.set_cons_succ]
        refine takeD (i := 6) (d := 48) (oi := _) (v := ?_) (listed' := #[true, true, true, true, true, true, true, false, false, false, false, false, false, false, false, false, false, false, false, false, false, false, false, false, false, false, false, false, false, false, false, false, false, false, false, false, false, false, false, false, false, false]) rfl (by kernel_rfl) (by kernel_rfl) (by kernel_rfl) (fun _ _ _ h => h) (Or.inl ⟨by rfl, ?_⟩) hHeld (by kernel_rfl) (by kernel_rfl) ?_
        rotate_left
        · intro w hSw
          try dsimp only at hSw
          first
            | (go_simp; done)
            | (go_simp; with_reducible rfl)
            | (go_simp; simp [hK])
        simp only [Act.put, List.setIfInBounds_toArray, List.set_cons_zero, List.set_cons_succ]
        refine takeD (i := 7) (d := 49) (oi := _) (v := ?_) (listed' := #[true, true, true, true, true, true, true, true, false, false, false, false, false, false, false, false, false, false, false, false, false, false, false, false, false, false, false, false, false, false, false, false, false, false, false, false, false, false, false, false, false, false]) rfl (by kernel_rfl) (by kernel_rfl) (by kernel_rfl) (fun _ _ _ h => h) (Or.inl ⟨by rfl, ?_⟩) hHeld (by kernel_rfl) (by kernel_rfl) ?_
        rotate_left
        · intro w hSw
          try dsimp only at hSw
          first
            | (go_simp; done)
            | (go_simp; with_reducible rfl)
            | (go_simp; simp [hK])
        simp only [Act.put, List.setIfInBounds_toArray, List.set_cons_zero, List.set_cons_succ]
        refine takeD (i := 8) (d := 50) (oi := _) (v := ?_) (listed' := #[true, true, true, true, true, true, true, true, true, false, false, false, false, false, false, false, false, false, false, false, false, false, false, false, false, false, false, false, false, false, false, false, false, false, false, false, false, false, false, false, false, false]) rfl (by kernel_rfl) (by kernel_rfl) (by kernel_rfl) (fun _ _ _ h => h) (Or.inl ⟨by rfl, ?_⟩) hHeld (by kernel_rfl) (by kernel_rfl) ?_
        rotate_left
        · intro w hSw
          try dsimp only at hSw
          first
            | (go_simp; done)
            | (go_simp; with_reducible rfl)
            | (go_simp; simp [hK])
        simp only [Act.put, List.setIfInBounds_toArray, List.set_cons_zero, List.set_cons_succ]
        refine takeD (i := 9) (d := 51) (oi := _) (v := ?_) (listed' := #[true, true, true, true, true, true, true, true, true, true, false, false, false, false, false, false, false, false, false, false, false, false, false, false, false, false, false, false, false, false, false, false, false, false, false, false, false, false, false, false, false, false]) rfl (by kernel_rfl) (by kernel_rfl) (by kernel_rfl) (fun _ _ _ h => h) (Or.inl ⟨by rfl, ?_⟩) hHeld (by kernel_rfl) (by kernel_rfl) ?_
        rotate_left
        · intro w hSw
          try dsimp only at hSw
          first
            | (go_simp; done)
            | (go_simp; with_reducible rfl)
            | (go_simp; simp [hK])
        simp only [Act.put, List.setIfInBounds_toArray, List.set_cons_zero, List.set_cons_succ]
        refine takeD (i := 10) (d := 52) (oi := _) (v := ?_) (listed' := #[true, true, true, true, true, true, true, true, true, true, true, false, false, false, false, false, false, false, false, false, false, false, false, false, false, false, false, false, false, false, false, false, false, false, false, false, false, false, false, false, false, false]) rfl (by kernel_rfl) (by kernel_rfl) (by kernel_rfl) (fun _ _ _ h => h) (Or.inl ⟨by rfl, ?_⟩) hHeld (by kernel_rfl) (by kernel_rfl) ?_
        rotate_left
        · intro w hSw
          try dsimp only at hSw
          first
            | (go_simp; done)
            | (go_simp; with_reducible rfl)
            | (go_simp; simp [hK])
        simp only [Act.put, List.setIfInBounds_toArray, List.set_cons_zero, List.set_cons_succ]
        refine takeD (i := 11) (d := 53) (oi := _) (v := ?_) (listed' := #[true, true, true, true, true, true, true, true, true, true, true, true, false, false, false, false, false, false, false, false, false, false, false, false, false, false, false, false, false, false, false, false, false, false, false, false, false, false, false, false, false, false]) rfl (by kernel_rfl) (by kernel_rfl) (by kernel_rfl) (fun _ _ _ h => h) (Or.inl ⟨by rfl, ?_⟩) hHeld (by kernel_rfl) (by kernel_rfl) ?_
        rotate_left
        · intro w hSw
          try dsimp only at hSw
          first
            | (go_simp; done)
            | (go_simp; with_reducible rfl)
            | (go_simp; simp [hK])
        simp only [Act.put, List.setIfInBounds_toArray, List.set_cons_zero, List.set_cons_succ]
        refine takeD (i := 12) (d := 54) (oi := _) (v := ?_) (listed' := #[true, true, true, true, true, true, true, true, true, true, true, true, true, false, false, false, false, false, false, false, false, false, false, false, false, false, false, false, false, false, false, false, false, false, false, false, false, false, false, false, false, false]) rfl (by kernel_rfl) (by kernel_rfl) (by kernel_rfl) (fun _ _ _ h => h) (Or.inl ⟨by rfl, ?_⟩) hHeld (by kernel_rfl) (by kernel_rfl) ?_
        rotate_left
        · intro w hSw
          try dsimp only at hSw
          first
            | (go_simp; done)
            | (go_simp; with_reducible rfl)
            | (go_simp; simp [hK])
        simp only [Act.put, List.setIfInBounds_toArray, List.set_cons_zero, List.set_cons_succ]
        refine takeD (i := 13) (d := 55) (oi := _) (v := ?_) (listed' := #[true, true, true, true, true, true, true, true, true, true, true, true, true, true, false, false, false, false, false, false, false, false, false, false, false, false, false, false, false, false, false, false, false, false, false, false, false, false, false, false, false, false]) rfl (by kernel_rfl) (by kernel_rfl) (by kernel_rfl) (fun _ _ _ h => h) (Or.inl ⟨by rfl, ?_⟩) hHeld (by kernel_rfl) (by kernel_rfl) ?_
        rotate_left
        · intro w hSw
          try dsimp only at hSw
          first
            | (go_simp; done)
            | (go_simp; with_reducible rfl)
            | (go_simp; simp [hK])
        simp only [Act.put, List.setIfInBounds_toArray, List.set_cons_zero, List.set_cons_succ]
        refine takeD (i := 14) (d := 56) (oi := _) (v := ?_) (listed' := #[true, true, true, true, true, true, true, true, true, true, true, true, true, true, true, false, false, false, false, false, false, false, false, false, false, false, false, false, false, false, false, false, false, false, false, false, false, false, false, false, false, false]) rfl (by kernel_rfl) (by kernel_rfl) (by kernel_rfl) (fun _ _ _ h => h) (Or.inl ⟨by rfl, ?_⟩) hHeld (by kernel_rfl) (by kernel_rfl) ?_
        rotate_left
        · intro w hSw
          try dsimp only at hSw
          first
            | (go_simp; done)
            | (go_simp; with_reducible rfl)
            | (go_simp; simp [hK])
        simp only [Act.put, List.setIfInBounds_toArray, List.set_cons_zero, List.set_cons_succ]
        refine takeD (i := 15) (d := 57) (oi := _) (v := ?_) (listed' := #[true, true, true, true, true, true, true, true, true, true, true, true, true, true, true, true, false, false, false, false, false, false, false, false, false, false, false, false, false, false, false, false, false, false, false, false, false, false, false, false, false, false]) rfl (by kernel_rfl) (by kernel_rfl) (by kernel_rfl) (fun _ _ _ h => h) (Or.inl ⟨by rfl, ?_⟩) hHeld (by kernel_rfl) (by kernel_rfl) ?_
        rotate_left
        · intro w hSw
          try dsimp only at hSw
          first
            | (go_simp; done)
            | (go_simp; with_reducible rfl)
            | (go_simp; simp [hK])
        simp only [Act.put, List.setIfInBounds_toArray, List.set_cons_zero, List.set_cons_succ]
        refine takeD (i := 16) (d := 58) (oi := _) (v := ?_) (listed' := #[true, true, true, true, true, true, true, true, true, true, true, true, true, true, true, true, true, false, false, false, false, false, false, false, false, false, false, false, false, false, false, false, false, false, false, false, false, false, false, false, false, false]) rfl (by kernel_rfl) (by kernel_rfl) (by kernel_rfl) (fun _ _ _ h => h) (Or.inl ⟨by rfl, ?_⟩) hHeld (by kernel_rfl) (by kernel_rfl) ?_
        rotate_left
        · intro w hSw
          try dsimp only at hSw
          first
            | (go_simp; done)
            | (go_simp; with_reducible rfl)
            | (go_simp; simp [hK])
        simp only [Act.put, List.setIfInBounds_toArray, List.set_cons_zero, List.set_cons_succ]
        refine takeD (i := 17) (d := 59) (oi := _) (v := ?_) (listed' := #[true, true, true, true, true, true, true, true, true, true, true, true, true, true, true, true, true, true, false, false, false, false, false, false, false, false, false, false, false, false, false, false, false, false, false, false, false, false, false, false, false, false]) rfl (by kernel_rfl) (by kernel_rfl) (by kernel_rfl) (fun _ _ _ h => h) (Or.inl ⟨by rfl, ?_⟩) hHeld (by kernel_rfl) (by kernel_rfl) ?_
        rotate_left
        · intro w hSw
          try dsimp only at hSw
          first
            | (go_simp; done)
            | (go_simp; with_reducible rfl)
            | (go_simp; simp [hK])
        simp only [Act.put, List.setIfInBounds_toArray, List.set_cons_zero, List.set_cons_succ]
        refine takeD (i := 18) (d := 60) (oi := _) (v := ?_) (listed' := #[true, true, true, true, true, true, true, true, true, true, true, true, true, true, true, true, true, true, true, false, false, false, false, false, false, false, false, false, false, false, false, false, false, false, false, false, false, false, false, false, false, false]) rfl (by kernel_rfl) (by kernel_rfl) (by kernel_rfl) (fun _ _ _ h => h) (Or.inl ⟨by rfl, ?_⟩) hHeld (by kernel_rfl) (by kernel_rfl) ?_
        rotate_left
        · intro w hSw
          try dsimp only at hSw
          first
            | (go_simp; done)
            | (go_simp; with_reducible rfl)
            | (go_simp; simp [hK])
        simp only [Act.put, List.setIfInBounds_toArray, List.set_cons_zero, List.set_cons_succ]
        refine takeD (i := 19) (d := 61) (oi := _) (v := ?_) (listed' := #[true, true, true, true, true, true, true, true, true, true, true, true, true, true, true, true, true, true, true, true, false, false, false, false, false, false, false, false, false, false, false, false, false, false, false, false, false, false, false, false, false, false]) rfl (by kernel_rfl) (by kernel_rfl) (by kernel_rfl) (fun _ _ _ h => h) (Or.inl ⟨by rfl, ?_⟩) hHeld (by kernel_rfl) (by kernel_rfl) ?_
        rotate_left
        · intro w hSw
          try dsimp only at hSw
          first
            | (go_simp; done)
            | (go_simp; with_reducible rfl)
            | (go_simp; simp [hK])
        simp only [Act.put, List.setIfInBounds_toArray, List.set_cons_zero, List.set_cons_succ]
        refine takeD (i := 20) (d := 62) (oi := _) (v := ?_) (listed' := #[true, true, true, true, true, true, true, true, true, true, true, true, true, true, true, true, true, true, true, true, true, false, false, false, false, false, false, false, false, false, false, false, false, false, false, false, false, false, false, false, false, false]) rfl (by kernel_rfl) (by kernel_rfl) (by kernel_rfl) (fun _ _ _ h => h) (Or.inl ⟨by rfl, ?_⟩) hHeld (by kernel_rfl) (by kernel_rfl) ?_
        rotate_left
        · intro w hSw
          try dsimp only at hSw
          first
            | (go_simp; done)
            | (go_simp; with_reducible rfl)
            | (go_simp; simp [hK])
        simp only [Act.put, List.setIfInBounds_toArray, List.set_cons_zero, List.set_cons_succ]
        refine takeD (i := 21) (d := 63) (oi := _) (v := ?_) (listed' := #[true, true, true, true, true, true, true, true, true, true, true, true, true, true, true, true, true, true, true, true, true, true, false, false, false, false, false, false, false, false, false, false, false, false, false, false, false, false, false, false, false, false]) rfl (by kernel_rfl) (by kernel_rfl) (by kernel_rfl) (fun _ _ _ h => h) (Or.inl ⟨by rfl, ?_⟩) hHeld (by kernel_rfl) (by kernel_rfl) ?_
        rotate_left
        · intro w hSw
          try dsimp only at hSw
          first
            | (go_simp; done)
            | (go_simp; with_reducible rfl)
            | (go_simp; simp [hK])
        simp only [Act.put, List.setIfInBounds_toArray, List.set_cons_zero, List.set_cons_succ]
        refine takeD (i := 22) (d := 64) (oi := _) (v := .bool true) (listed' := #[true, true, true, true, true, true, true, true, true, true, true, true, true, true, true, true, true, true, true, true, true, true, true, false, false, false, false, false, false, false, false, false, false, false, false, false, false, false, false, false, false, false]) rfl (by kernel_rfl) (by kernel_rfl) (by kernel_rfl) (fun _ _ _ h => h) (Or.inl ⟨by rfl, ?_⟩) hHeld (by kernel_rfl) (by kernel_rfl) ?_
        · intro w hSw
          try dsimp only at hSw
          first
            | (go_simp; done)
            | (go_simp; with_reducible rfl)
            | (go_simp; simp [hK])
        simp only [Act.put, List.setIfInBounds_toArray, List.set_cons_zero, List.set_cons_succ]
        refine takeD (i := 23) (d := 65) (oi := _) (v := .bool true) (listed' := #[true, true, true, true, true, true, true, true, true, true, true, true, true, true, true, true, true, true, true, true, true, true, true, true, false, false, false, false, false, false, false, false, false, false, false, false, false, false, false, false, false, false]) rfl (by kernel_rfl) (by kernel_rfl) (by kernel_rfl) (fun _ _ _ h => h) (Or.inl ⟨by rfl, ?_⟩) hHeld (by kernel_rfl) (by kernel_rfl) ?_
        · intro w hSw
          try dsimp only at hSw
          first
            | (go_simp; done)
            | (go_simp; with_reducible rfl)
            | (go_simp; simp [hK])
        simp only [Act.put, List.setIfInBounds_toArray, List.set_cons_zero, List.set_cons_succ]
        refine takeD (i := 24) (d := 66) (oi := _) (v := undef) (listed' := #[true, true, true, true, true, true, true, true, true, true, true, true, true, true, true, true, true, true, true, true, true, true, true, true, true, false, false, false, false, false, false, false, false, false, false, false, false, false, false, false, false, false]) rfl (by kernel_rfl) (by kernel_rfl) (by kernel_rfl) (fun _ _ _ h => h) (Or.inr ⟨by rfl, rfl⟩) hHeld (by kernel_rfl) (by kernel_rfl) ?_
        simp only [Act.put, List.setIfInBounds_toArray, List.set_cons_zero, List.set_cons_succ]
        refine takeD (i := 25) (d := 67) (oi := _) (v := undef) (listed' := #[true, true, true, true, true, true, true, true, true, true, true, true, true, true, true, true, true, true, true, true, true, true, true, true, true, true, false, false, false, false, false, false, false, false, false, false, false, false, false, false, false, false]) rfl (by kernel_rfl) (by kernel_rfl) (by kernel_rfl) (fun _ _ _ h => h) (Or.inr ⟨by rfl, rfl⟩) hHeld (by kernel_rfl) (by kernel_rfl) ?_
        simp only [Act.put, List.setIfInBounds_toArray, List.set_cons_zero, List.set_cons_succ]
        refine takeD (i := 26) (d := 68) (oi := _) (v := undef) (listed' := #[true, true, true, true, true, true, true, true, true, true, true, true, true, true, true, true, true, true, true, true, true, true, true, true, true, true, true, false, false, false, false, false, false, false, false, false, false, false, false, false, false, false]) rfl (by kernel_rfl) (by kernel_rfl) (by kernel_rfl) (fun _ _ _ h => h) (Or.inr ⟨by rfl, rfl⟩) hHeld (by kernel_rfl) (by kernel_rfl) ?_
        simp only [Act.put, List.setIfInBounds_toArray, List.set_cons_zero, List.set_cons_succ]
        refine takeD (i := 27) (d := 69) (oi := _) (v := undef) (listed' := #[true, true, true, true, true, true, true, true, true, true, true, true, true, true, true, true, true, true, true, true, true, true, true, true, true, true, true, true, false, false, false, false, false, false, false, false, false, false, false, false, false, false]) rfl (by kernel_rfl) (by kernel_rfl) (by kernel_rfl) (fun _ _ _ h => h) (Or.inr ⟨by rfl, rfl⟩) hHeld (by kernel_rfl) (by kernel_rfl) ?_
        simp only [Act.put, List.setIfInBounds_toArray, List.set_cons_zero, List.set_cons_succ]
        refine takeD (i := 28) (d := 70) (oi := _) (v := undef) (listed' := #[true, true, true, true, true, true, true, true, true, true, true, true, true, true, true, true, true, true, true, true, true, true, true, true, true, true, true, true, true, false, false, false, false, false, false, false, false, false, false, false, false, false]) rfl (by kernel_rfl) (by kernel_rfl) (by kernel_rfl) (fun _ _ _ h => h) (Or.inr ⟨by rfl, rfl⟩) hHeld (by kernel_rfl) (by kernel_rfl) ?_
        simp only [Act.put, List.setIfInBounds_toArray, List.set_cons_zero, List.set_cons_succ]
        refine takeD (i := 29) (d := 71) (oi := _) (v := ?_) (listed' := #[true, true, true, true, true, true, true, true, true, true, true, true, true, true, true, true, true, true, true, true, true, true, true, true, true, true, true, true, true, true, false, false, false, false, false, false, false, false, false, false, false, false]) rfl (by kernel_rfl) (by kernel_rfl) (by kernel_rfl) (fun _ _ _ h => h) (Or.inl ⟨by rfl, ?_⟩) hHeld (by kernel_rfl) (by kernel_rfl) ?_
        rotate_left
        · intro w hSw
          try dsimp only at hSw
          first
            | (go_simp; done)
            | (go_simp; with_reducible rfl)
            | (go_simp; simp [hK])
        simp only [Act.put, List.setIfInBounds_toArray, List.set_cons_zero, List.set_cons_succ]
        refine takeD (i := 30) (d := 72) (oi := _) (v := ?_) (listed' := #[true, true, true, true, true, true, true, true, true, true, true, true, true, true, true, true, true, true, true, true, true, true, true, true, true, true, true, true, true, true, true, false, false, false, false, false, false, false, false, false, false, false]) rfl (by kernel_rfl) (by kernel_rfl) (by kernel_rfl) (fun _ _ _ h => h) (Or.inl ⟨by rfl, ?_⟩) hHeld (by kernel_rfl) (by kernel_rfl) ?_
        rotate_left
        · intro w hSw
          try dsimp only at hSw
          first
            | (go_simp; done)
            | (go_simp; with_reducible rfl)
            | (go_simp; simp [hK])
        simp only [Act.put, List.setIfInBounds_toArray, List.set_cons_zero, List.set_cons_succ]
        refine takeD (i := 31) (d := 73) (oi := _) (v := ?_) (listed' := #[true, true, true, true, true, true, true, true, true, true, true, true, true, true, true, true, true, true, true, true, true, true, true, true, true, true, true, true, true, true, true, true, false, false, false, false, false, false, false, false, false, false]) rfl (by kernel_rfl) (by kernel_rfl) (by kernel_rfl) (fun _ _ _ h => h) (Or.inl ⟨by rfl, ?_⟩) hHeld (by kernel_rfl) (by kernel_rfl) ?_
        rotate_left
        · intro w hSw
          try dsimp only at hSw
          first
            | (go_simp; done)
            | (go_simp; with_reducible rfl)
            | (go_simp; simp [hK])
        simp only [Act.put, List.setIfInBounds_toArray, List.set_cons_zero, List.set_cons_succ]
        refine takeD (i := 32) (d := 74) (oi := _) (v := ?_) (listed' := #[true, true, true, true, true, true, true, true, true, true, true, true, true, true, true, true, true, true, true, true, true, true, true, true, true, true, true, true, true, true, true, true, true, false, false, false, false, false, false, false, false, false]) rfl (by kernel_rfl) (by kernel_rfl) (by kernel_rfl) (fun _ _ _ h => h) (Or.inl ⟨by rfl, ?_⟩) hHeld (by kernel_rfl) (by kernel_rfl) ?_
        rotate_left
        · intro w hSw
          try dsimp only at hSw
          first
            | (go_simp; done)
            | (go_simp; with_reducible rfl)
            | (go_simp; simp [hK])
        simp only [Act.put, List.setIfInBounds_toArray, List.set_cons_zero, List.set_cons_succ]
        refine takeD (i := 33) (d := 75) (oi := _) (v := ?_) (listed' := #[true, true, true, true, true, true, true, true, true, true, true, true, true, true, true, true, true, true, true, true, true, true, true, true, true, true, true, true, true, true, true, true, true, true, false, false, false, false, false, false, false, false]) rfl (by kernel_rfl) (by kernel_rfl) (by kernel_rfl) (fun _ _ _ h => h) (Or.inl ⟨by rfl, ?_⟩) hHeld (by kernel_rfl) (by kernel_rfl) ?_
        rotate_left
        · intro w hSw
          try dsimp only at hSw
          first
            | (go_simp; done)
            | (go_simp; with_reducible rfl)
            | (go_simp; simp [hK])
        simp only [Act.put, List.setIfInBounds_toArray, List.set_cons_zero, List.set_cons_succ]
        refine takeD (i := 34) (d := 76) (oi := _) (v := ?_) (listed' := #[true, true, true, true, true, true, true, true, true, true, true, true, true, true, true, true, true, true, true, true, true, true, true, true, true, true, true, true, true, true, true, true, true, true, true, false, false, false, false, false, false, false]) rfl (by kernel_rfl) (by kernel_rfl) (by kernel_rfl) (fun _ _ _ h => h) (Or.inl ⟨by rfl, ?_⟩) hHeld (by kernel_rfl) (by kernel_rfl) ?_
        rotate_left
        · intro w hSw
          try dsimp only at hSw
          first
            | (go_simp; done)
            | (go_simp; with_reducible rfl)
            | (go_simp; simp [hK])
        simp only [Act.put, List.setIfInBounds_toArray, List.set_cons_zero, List.set_cons_succ]
        refine takeD (i := 35) (d := 77) (oi := _) (v := ?_) (listed' := #[true, true, true, true, true, true, true, true, true, true, true, true, true, true, true, true, true, true, true, true, true, true, true, true, true, true, true, true, true, true, true, true, true, true, true, true, false, false, false, false, false, false]) rfl (by kernel_rfl) (by kernel_rfl) (by kernel_rfl) (fun _ _ _ h => h) (Or.inl ⟨by rfl, ?_⟩) hHeld (by kernel_rfl) (by kernel_rfl) ?_
        rotate_left
        · intro w hSw
          try dsimp only at hSw
          first
            | (go_simp; done)
            | (go_simp; with_reducible rfl)
            | (go_simp; simp [hK])
        simp only [Act.put, List.setIfInBounds_toArray, List.set_cons_zero, List.set_cons_succ]
        refine takeD (i := 36) (d := 78) (oi := _) (v := ?_) (listed' := #[true, true, true, true, true, true, true, true, true, true, true, true, true, true, true, true, true, true, true, true, true, true, true, true, true, true, true, true, true, true, true, true, true, true, true, true, true, false, false, false, false, false]) rfl (by kernel_rfl) (by kernel_rfl) (by kernel_rfl) (fun _ _ _ h => h) (Or.inl ⟨by rfl, ?_⟩) hHeld (by kernel_rfl) (by kernel_rfl) ?_
        rotate_left
        · intro w hSw
          try dsimp only at hSw
          first
            | (go_simp; done)
            | (go_simp; with_reducible rfl)
            | (go_simp; simp [hK])
        simp only [Act.put, List.setIfInBounds_toArray, List.set_cons_zero, List.set_cons_succ]
        refine wpAnyH_ready (rs := [37]) (by kernel_rfl) (by simp) ?_
        refine AllReadyH.cons (o := _) rfl (fun K' hK' => ?_) AllReadyH.nil
        go_simp
        refine (hS _).mono ?_
        rintro e wa ⟨rfl, ba⟩
        have BA := BD.trans ba
        have a1 := zc BA c1
        have a2 := zc BA c2
        have a3 := zc BA d0
        have a4 := zc BA d1
        have a5 := zc BA d2
        refine hK'.out _ _ ⟨a1, a2, a3, a4, a5⟩ (fun hS4 => ?_)
        clear hK' K'
        simp only [List.setIfInBounds_toArray, List.set_cons_zero, List.set_cons_succ]
        refine takeD (i := 38) (d := 80) (oi := _) (v := ?_) (listed' := #[true, true, true, true, true, true, true, true, true, true, true, true, true, true, true, true, true, true, true, true, true, true, true, true, true, true, true, true, true, true, true, true, true, true, true, true, true, true, true, false, false, false]) rfl (by kernel_rfl) (by kernel_rfl) (by kernel_rfl) (fun _ _ _ h => h) (Or.inl ⟨by rfl, ?_⟩) hS4 (by kernel_rfl) (by kernel_rfl) ?_
        rotate_left
        · intro w hSw
          try dsimp only at hSw
          first
            | (go_simp; done)
            | (go_simp; with_reducible rfl)
            | (go_simp; simp [hK])
        simp only [Act.put, List.setIfInBounds_toArray, List.set_cons_zero, List.set_cons_succ]
        refine takeD (i := 39) (d := 81) (oi := _) (v := ?_) (listed' := #[true, true, true, true, true, true, true, true, true, true, true, true, true, true, true, true, true, true, true, true, true, true, true, true, true, true, true, true, true, true, true, true, true, true, true, true, true, true, true, true, false, false]) rfl (by kernel_rfl) (by kernel_rfl) (by kernel_rfl) (fun _ _ _ h => h) (Or.inl ⟨by rfl, ?_⟩) hS4 (by kernel_rfl) (by kernel_rfl) ?_
        rotate_left
        · intro w hSw
          try dsimp only at hSw
          first
            | (go_simp; done)
            | (go_simp; with_reducible rfl)
            | (go_simp; simp [hK])
        simp only [Act.put, List.setIfInBounds_toArray, List.set_cons_zero, List.set_cons_succ]
        refine takeD (i := 40) (d := 82) (oi := _) (v := ?_) (listed' := #[true, true, true, true, true, true, true, true, true, true, true, true, true, true, true, true, true, true, true, true, true, true, true, true, true, true, true, true, true, true, true, true, true, true, true, true, true, true, true, true, true, false]) rfl (by kernel_rfl) (by kernel_rfl) (by kernel_rfl) (fun _ _ _ h => h) (Or.inl ⟨by rfl, ?_⟩) hS4 (by kernel_rfl) (by kernel_rfl) ?_
        rotate_left
        · intro w hSw
          try dsimp only at hSw
          first
            | (go_simp; done)
            | (go_simp; with_reducible rfl)
            | (go_simp; simp [hK])
        simp only [Act.put, List.setIfInBounds_toArray, List.set_cons_zero, List.set_cons_succ]
        refine takeD (i := 41) (d := 2) (oi := _) (v := ?_) (listed' := #[true, true, true, true, true, true, true, true, true, true, true, true, true, true, true, true, true, true, true, true, true, true, true, true, true, true, true, true, true, true, true, true, true, true, true, true, true, true, true, true, true, true]) rfl (by kernel_rfl) (by kernel_rfl) (by kernel_rfl) (fun _ _ _ h => h) (Or.inl ⟨by rfl, ?_⟩) hS4 (by kernel_rfl) (by kernel_rfl) ?_
        rotate_left
        · intro w hSw
          try dsimp only at hSw
          first
            | (go_simp; done)
            | (go_simp; with_reducible rfl)
            | (go_simp; simp [hK])
        simp only [Act.put, List.setIfInBounds_toArray, List.set_cons_zero, List.set_cons_succ]
        refine wpAnyH_done (by kernel_rfl) ?_ _
        go_wp2_with fail
        go_meet
        exact ⟨rfl, BA⟩
    case rest =>
    obtain ⟨rfl, b⟩ := hcut
    have BE := B5.trans (b.mono B5.size)
    clear b
    go_wp2_with fail
    go_ret
    exact ⟨rfl, BE⟩
  · have q0 : (R != 0) = true := by simp [e0]
    clear hNbd s3 s4 hf1 qK c1 c2 d1 d2
    go_upto_region 7 with fail
    go_cut [2] from 27 to 41 (fun s wx => s = .bool true ∧ Below W5.heap.size W5 wx)
    case first =>
      clear B5 hbig hW5 hW3 hp hp2
      go_region_held (fun w' => w'.cell? ⟨p, 0, none⟩ = some (.int .i64 R) ∧ w'.cell? ⟨p2, 0, none⟩ = some (.int .i64 R)) (first | with_reducible exact ⟨c0, d0⟩ | with_reducible exact ⟨a1, a2⟩ | exact ⟨c0, d0⟩)
        ((go_at_call 11; refine (hS _).mono ?_; rintro e wa ⟨rfl, ba⟩; have BA := BD.trans ba; have a1 := zc BA c0; have a2 := zc BA d0))
      all_goals (go_wp2_with fail; go_meet; exact ⟨rfl, BA⟩)
    case rest =>
    obtain ⟨rfl, b⟩ := hcut
    have BE := B5.trans (b.mono B5.size)
    clear b
    go_wp2_with fail
    go_ret
    exact ⟨rfl, BE⟩

set_option linter.unusedVariables false
theorem laidOut : laidOutB Try.prog = true := by kernel_rfl
theorem own : ownKnob Try.prog.godebug = none := by kernel_rfl
set_option maxRecDepth 100000 in
theorem lifted (os : Os) (started : os.Started) (H : Type) (enc : TypeId × Value → H) :
    ReturnsInHanded {} Try.checked os 4 .any (Rows.fnSidesSpec.pre6 enc Try.prog Try.f4 Rows.fnSidesRow.domain false) (Rows.fnSidesSpec.post enc Try.prog Try.f4 false true false false) := by
  refine returnsInHanded_of_change (C := Try.checked) own started (by kernel_rfl) Try.func4
    (ChangeSpec.witness6 (enc := enc) (C := Try.checked) false ⟨#[], #[.slice none 0 0], []⟩ 8 (by kernel_rfl) (by kernel_rfl) (by kernel_rfl) (by kernel_rfl)) ?_
  intro W base args ds gs before hval0 hW hcnd _
  have hval : ∀ (j : Nat) t v, Try.f4.params[j]? = some t → args[j]? = some v → Value.okWide Try.prog W .any base t v := hval0
  have hW' := hW
  obtain ⟨p, q, hA0, hV, rfl, hfz, hnd⟩ := hW
  have hA : DataW.TrodAll enc Try.prog W 0 (fun _ => true) true Try.f4.params.toList args.toList ds p := hA0
  rw [Try.params4] at hA hval
  obtain ⟨v0, vs0, d0, ds0, p0, q0, hargs, rfl, rfl, h0, r0⟩ := trodAll_cons hA
  obtain ⟨rfl, rfl, rfl⟩ := trodAll_nil r0
  obtain rfl : args = #[v0] := by cases args; simp_all
  obtain ⟨rfl, rfl⟩ := trodVars_none hV
  obtain ⟨a0, len0, cap0, rfl⟩ := okWide_slice Try.underlying22 (hval 0 22 v0 rfl rfl)
  have k0 := h0
  have lt0 : ∀ x ∈ p0, x.block < W.heap.size := by obtain ⟨m, hm⟩ := k0; exact DataW.trod_lt m _ _ _ hm
  obtain ⟨w0, n0⟩ := openBts h0 lt0
  clear hA0 hval0
  refine (walk a0 len0 cap0 W w0 n0).mono fun e W' ⟨he, bel⟩ => ?_
  subst he
  exact ⟨_, rfl, _, _, _, [], _, [], hW', trodAll_mk1 (shut_bool Try.underlying4 _), (trodAll_cons_mk (Below.trod laidOut (by kernel_rfl) (of_decide_eq_true (by kernel_rfl)) k0 bel lt0) trodAll_mk0), rfl, bel.frame _, fun h => by cases h⟩

theorem over : Rows.fnSidesRow.holds Try.pinned (OpenSpec.ofChange Rows.fnSidesSpec) :=
  OpenClaim.holds_of_wide 4 Try.f4 rfl rfl rfl rfl rfl rfl rfl ⟨rfl, rfl, rfl, rfl, rfl⟩ rfl rfl rfl rfl rfl (by kernel_rfl) Try.func4 (by kernel_rfl)
    (of_decide_eq_true (by kernel_rfl)) (by unfold Func.isWrapper; first | (rw [if_pos (by decide +kernel)]; kernel_rfl) | (rw [if_neg (by decide +kernel)]; exact ⟨rfl, rfl⟩))
    (fun os started H enc _ => lifted os started H enc)

theorem proved : Rows.FnSidesSaid := over
end Go.Proofs.Ytciddfpkcdicaaa.SdF
namespace Go.Proofs.Ytciddfpkcdicaaa
theorem fnSides_proved : Rows.FnSidesSaid := SdF.proved
end Go.Proofs.Ytciddfpkcdicaaa
