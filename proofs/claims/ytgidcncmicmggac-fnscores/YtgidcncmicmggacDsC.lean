/- The contract of spec.DrawScoreTexts: two texts that are not too long. No statement is proved here. -/
import Derived.Test.YtgidcncmicmggacRows
import Derived.Test.YtgidcncmicmggacLem
import Derived.Test.YtgidcncmicmggacStrs
import Derived.Test.YtgidcncmicmggacMarks
import Derived.Test.YtgidcncmicmggacDTab
import Derived.Test.YtgidcncmicmggacOwn
import Derived.Test.YtgidcncmicmggacDraw
import Derived.Test.YtgidcncmicmggacDraw2
import Derived.Test.YtgidcncmicmggacJoinC
import Derived.Test.YtgidcncmicmggacDraw3S
import Derived.Test.YtgidcncmicmggacDraw5
import Derived.Test.YtgidcncmicmggacDraw6
import Derived.Test.YtgidcncmicmggacDraw7
import Derived.WalkKit
import Derived.ProofKit
import Derived.Below
import Derived.WalkSpells
set_option linter.unusedVariables false
namespace Go.Proofs.Ytgidcncmicmggac.Sc
open Go.ChangeShapes Go.WideShapes Go.ChangeAt Go.RowKit

set_option maxRecDepth 20000 in
set_option maxHeartbeats 4000000 in
theorem drawScoreTexts (a : Option Addr) (n cap : Nat) (w : World) (h : Bts w a n) (hn : n ≤ 1048576) :
    Calls Try.prog 5 #[.slice a n cap] w fun e w' => ∃ x y : ByteArray, e = .returned (.tuple #[.string x, .string y]) ∧ x.size ≤ 10000 ∧ y.size ≤ 10000 ∧ Below w.heap.size w w' := by
  go_enter Try.func5, Try.ntmps5
  go_wp2_with fail
  refine (l1Source a n cap _ h (by omega)).mono ?_; rintro e w1 ⟨rfl, h1, b1⟩
  obtain ⟨b, hb⟩ : ∃ b, w.heap.size = b := ⟨_, rfl⟩
  rw [hb] at h1 b1 ⊢
  have hl1 := h1.lt
  go_wp2_with fail
  refine (l1Next b b a n cap 0 8 _ h1 (by omega)).mono ?_; rintro e w2 ⟨r, rfl, hd, h2, g2⟩
  have hd0 := hd.1
  have hd1 : r < 8 := hd.2.1 (by omega)
  obtain ⟨j, rfl⟩ := Int.eq_ofNat_of_zero_le hd0
  have gg2 := g2
  clear hd h1
  go_wp2_with fail
  refine (l1LinesF b b a n cap (0 + 1) j _ h2 (by omega) (by omega)).mono ?_; rintro e w3 ⟨ss, g, c, k3, rfl, hl, hsm, own3, h3, hk3, g3⟩
  have gg3 := grown_trans gg2 g3
  have hl2 := h2.lt
  clear h2 g2 gg2
  go_wp2_with fail
  refine (l1Near b b w2.heap.size a n cap k3 ss g c _ h3 (by omega) (by omega) (by omega) hsm own3).mono ?_; rintro e w4 ⟨ts, gt, ct, k4, rfl, hlt, htm, own4, h4, hk4, g4⟩
  have gg4 := grown_trans gg3 g4
  have hgb : ¬ g = b := by
    have := (own3.lt g rfl).1
    omega
  have own3' := own3.kept g4 (.inr (by simp [Value.ownBlock]; exact hgb))
  have S3 := SS_ownN own3' (hsm.small.sizesN (by omega))
  have S4 := SS_ownN own4 (htm.sizesN (by omega))
  have t3 := hsm.small.totN
  have t4 := htm.totN
  have z3 := catB_size ss
  have z4 := catB_size ts
  clear own3 own3' own4 g3 g4 gg3 h3
  go_wp2_with fail
  refine (l1Join _ _ _ _ S3 (by omega) (by omega)).mono ?_; rintro e w5 ⟨rfl, rfl⟩
  go_wp2_with fail
  refine (l1Join _ _ _ _ S4 (by omega) (by omega)).mono ?_; rintro e w6 ⟨rfl, rfl⟩
  obtain ⟨X, hX⟩ : ∃ x, catB ss = x := ⟨_, rfl⟩
  obtain ⟨Y, hY⟩ : ∃ x, catB ts = x := ⟨_, rfl⟩
  rw [hX] at z3 ⊢
  rw [hY] at z4 ⊢
  have zX : X.size ≤ 10000 := by omega
  have zY : Y.size ≤ 10000 := by omega
  clear S3 S4 t3 t4 z3 z4 hX hY hsm htm
  go_wp2_with fail
  refine (l1Chance b b a n cap k4 12 _ h4 (by omega)).mono ?_; rintro e wa ⟨ra, rfl, ha, ga⟩
  have gga := grown_trans gg4 ga
  cases ra with
  | false =>
    go_wp2_with fail
    refine (l1Chance b b a n cap (k4 + 1) 12 _ ha (by omega)).mono ?_; rintro e wb1 ⟨rb1, rfl, hb1, gb1⟩
    have ggb1 := grown_trans gga gb1
    cases rb1 with
    | false =>
      go_wp2_with fail
      refine bodyPost_ret (v := .tuple #[.string X, .string Y]) (by simp [results, Try.results5, go_sem]) rfl ?_
      rw [hb]
      exact ⟨X, Y, rfl, by omega, by omega, b1.grown ggb1 (Nat.le_of_lt hl1) (fun j hj => by cases hj; exact Nat.le_refl _)⟩
    | true =>
      go_wp2_with fail
      refine (l1TextS b b a n cap (k4 + 1 + 1) _ hb1 (by omega)).mono ?_; rintro e wc1 ⟨yc, kc, rfl, hyc, hc1, hkc, gc1⟩
      have ggc1 := grown_trans ggb1 gc1
      go_wp2_with fail
      refine bodyPost_ret (v := .tuple #[.string X, .string yc]) (by simp [results, Try.results5, go_sem]) rfl ?_
      rw [hb]
      exact ⟨X, yc, rfl, by omega, by omega, b1.grown ggc1 (Nat.le_of_lt hl1) (fun j hj => by cases hj; exact Nat.le_refl _)⟩
  | true =>
    go_wp2_with fail
    refine (l1TextS b b a n cap (k4 + 1) _ ha (by omega)).mono ?_; rintro e wd ⟨xd, kd, rfl, hxd, hd', hkd, gd⟩
    have ggd := grown_trans gga gd
    go_wp2_with fail
    refine (l1Chance b b a n cap (kd) 12 _ hd' (by omega)).mono ?_; rintro e wb2 ⟨rb2, rfl, hb2, gb2⟩
    have ggb2 := grown_trans ggd gb2
    cases rb2 with
    | false =>
      go_wp2_with fail
      refine bodyPost_ret (v := .tuple #[.string xd, .string Y]) (by simp [results, Try.results5, go_sem]) rfl ?_
      rw [hb]
      exact ⟨xd, Y, rfl, by omega, by omega, b1.grown ggb2 (Nat.le_of_lt hl1) (fun j hj => by cases hj; exact Nat.le_refl _)⟩
    | true =>
      go_wp2_with fail
      refine (l1TextS b b a n cap (kd + 1) _ hb2 (by omega)).mono ?_; rintro e wc2 ⟨yc, kc, rfl, hyc, hc2, hkc, gc2⟩
      have ggc2 := grown_trans ggb2 gc2
      go_wp2_with fail
      refine bodyPost_ret (v := .tuple #[.string xd, .string yc]) (by simp [results, Try.results5, go_sem]) rfl ?_
      rw [hb]
      exact ⟨xd, yc, rfl, by omega, by omega, b1.grown ggc2 (Nat.le_of_lt hl1) (fun j hj => by cases hj; exact Nat.le_refl _)⟩
end Go.Proofs.Ytgidcncmicmggac.Sc
