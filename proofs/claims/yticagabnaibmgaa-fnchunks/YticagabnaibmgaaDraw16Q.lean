/- The contract of the specification's DrawChunksOf: three lists of lines. No statement is proved here. -/
import Derived.Test.YticagabnaibmgaaRows
import Derived.Test.YticagabnaibmgaaLemQ
import Derived.Test.YticagabnaibmgaaMarksQ
import Derived.Test.YticagabnaibmgaaDTabQ
import Derived.Test.YticagabnaibmgaaDrawQ
import Derived.Test.YticagabnaibmgaaDraw5Q
import Derived.Test.YticagabnaibmgaaDraw7Q
import Derived.Test.YticagabnaibmgaaDraw8Q
import Derived.Test.YticagabnaibmgaaDraw15Q
import Derived.WalkKit
import Derived.ProofKit
import Derived.Below
import Derived.WalkSpells
set_option linter.unusedVariables false
namespace Go.Proofs.Yticagabnaibmgaa
open Go.ChangeShapes Go.WideShapes Go.ChangeAt Go.RowKit

/-- Lines at the head of a block, with room for all of them. -/
structure Ln (w : World) (g c : Nat) (ss : List ByteArray) : Prop where
  s : SS w (some ⟨g, 0, none⟩) ss
  c : ss.length ≤ c
  n : ss.length ≤ 1000
  m : Small 9 ss
theorem Ln.of {base g c : Nat} {w : World} {ss : List ByteArray} (h : Lr base w g c ss) (hn : ss.length ≤ 20) (hm : Small 9 ss) : Ln w g c ss := ⟨SS_ownN h (hm.sizesN (by omega)), ownCap h, by omega, hm⟩
def ChunksPost (w : World) (e : Ending) (w' : World) : Prop :=
  ∃ (xs ys zs : List ByteArray) (gx cx gy cy gz cz : Nat), e = .returned (.tuple #[.slice (some ⟨gx, 0, none⟩) xs.length cx, .slice (some ⟨gy, 0, none⟩) ys.length cy, .slice (some ⟨gz, 0, none⟩) zs.length cz]) ∧
    Ln w' gx cx xs ∧ Ln w' gy cy ys ∧ Ln w' gz cz zs ∧ Below w.heap.size w w'
set_option maxRecDepth 20000 in
set_option maxHeartbeats 4000000 in
theorem drawChunksOf (a : Option Addr) (n cap : Nat) (w : World) (h : Bts w a n) (hn : n ≤ 1048576) :
    Calls Try.prog 8 #[.slice a n cap] w fun e w' => ChunksPost w e w' := by
  go_enter Try.func8, Try.ntmps8
  go_wp2_with fail
  refine (l1Source a n cap _ h (by omega)).mono ?_; rintro e w1 ⟨rfl, h1, b1⟩
  obtain ⟨b, hb⟩ : ∃ b, w.heap.size = b := ⟨_, rfl⟩
  rw [hb] at h1 b1 ⊢
  have hl1 := h1.lt
  go_wp2_with fail
  refine (l4Three b b a n cap 0 _ h1 (by omega)).mono ?_; rintro e w2 ⟨xs, ys, zs, gx, cx, gy, cy, gz, cz, k2, rfl, lx, ly, lz, mx, my, mz, ox, oy, oz, s2, hk2, g2⟩
  clear h1
  go_wp2_with fail
  refine (l1Next b b a n cap k2 20 _ s2 (by omega)).mono ?_; rintro e w6 ⟨r, rfl, hd, s6, g6⟩
  have G6 := grown_trans g2 g6
  have hgx := (ox.lt gx rfl).1
  have hgy := (oy.lt gy rfl).1
  have hgz := (oz.lt gz rfl).1
  replace ox := ox.kept g6 (.inr (by rw [ownBlock_slice]; simp; omega))
  replace oy := oy.kept g6 (.inr (by rw [ownBlock_slice]; simp; omega))
  replace oz := oz.kept g6 (.inr (by rw [ownBlock_slice]; simp; omega))
  have hd0 := hd.1
  have hd1 : r < 20 := hd.2.1 (by omega)
  clear hd s2 g2 g6
  by_cases r0 : r = 0
  · subst r0
    go_wp2_with fail
    refine (l1BentD b b w1.heap.size a n cap (k2 + 1) xs gx cx _ s6 (by omega) hl1 (by omega) mx ox).mono ?_; rintro e w7 ⟨xa, xc, us, rfl, Sx, lu, mu, lc, g7, ⟨gu, rfl⟩, k7, s7, hk7⟩
    have G7 := grown_trans G6 g7
    have HB : Hid (Below b w w7) := b1.grown G7 (Nat.le_of_lt hl1) (fun j hj => by cases hj; exact Nat.le_refl _)
    have Y := Ln.of (oy.kept g7 (.inr (by rw [ownBlock_slice]; simp; omega))) ly my
    have Z := Ln.of (oz.kept g7 (.inr (by rw [ownBlock_slice]; simp; omega))) lz mz
    clear ox oy oz s6 g7 G6 G7 b1
    go_wp2_with fail
    refine bodyPost_ret (v := .tuple #[.slice (some ⟨gu, 0, none⟩) us.length xc, .slice (some ⟨gy, 0, none⟩) ys.length cy, .slice (some ⟨gz, 0, none⟩) zs.length cz]) (by simp [results, Try.results8, go_sem]) rfl ?_
    exact ⟨us, ys, zs, gu, xc, gy, cy, gz, cz, rfl, ⟨Sx, lc, lu, mu⟩, Y, Z, by rw [hb]; exact HB.out⟩
  by_cases r1 : r = 1
  · subst r1
    go_wp2_with fail
    refine (l1BentD b b w1.heap.size a n cap (k2 + 1) ys gy cy _ s6 (by omega) hl1 (by omega) my oy).mono ?_; rintro e w7 ⟨xa, xc, us, rfl, Sx, lu, mu, lc, g7, ⟨gu, rfl⟩, k7, s7, hk7⟩
    have G7 := grown_trans G6 g7
    have HB : Hid (Below b w w7) := b1.grown G7 (Nat.le_of_lt hl1) (fun j hj => by cases hj; exact Nat.le_refl _)
    have X := Ln.of (ox.kept g7 (.inr (by rw [ownBlock_slice]; simp; omega))) lx mx
    have Z := Ln.of (oz.kept g7 (.inr (by rw [ownBlock_slice]; simp; omega))) lz mz
    clear ox oy oz s6 g7 G6 G7 b1
    go_wp2_with fail
    refine bodyPost_ret (v := .tuple #[.slice (some ⟨gx, 0, none⟩) xs.length cx, .slice (some ⟨gu, 0, none⟩) us.length xc, .slice (some ⟨gz, 0, none⟩) zs.length cz]) (by simp [results, Try.results8, go_sem]) rfl ?_
    exact ⟨xs, us, zs, gx, cx, gu, xc, gz, cz, rfl, X, ⟨Sx, lc, lu, mu⟩, Z, by rw [hb]; exact HB.out⟩
  by_cases r2 : r = 2
  · subst r2
    go_wp2_with fail
    refine (l1BentD b b w1.heap.size a n cap (k2 + 1) zs gz cz _ s6 (by omega) hl1 (by omega) mz oz).mono ?_; rintro e w7 ⟨xa, xc, us, rfl, Sx, lu, mu, lc, g7, ⟨gu, rfl⟩, k7, s7, hk7⟩
    have G7 := grown_trans G6 g7
    have HB : Hid (Below b w w7) := b1.grown G7 (Nat.le_of_lt hl1) (fun j hj => by cases hj; exact Nat.le_refl _)
    have X := Ln.of (ox.kept g7 (.inr (by rw [ownBlock_slice]; simp; omega))) lx mx
    have Y := Ln.of (oy.kept g7 (.inr (by rw [ownBlock_slice]; simp; omega))) ly my
    clear ox oy oz s6 g7 G6 G7 b1
    go_wp2_with fail
    refine bodyPost_ret (v := .tuple #[.slice (some ⟨gx, 0, none⟩) xs.length cx, .slice (some ⟨gy, 0, none⟩) ys.length cy, .slice (some ⟨gu, 0, none⟩) us.length xc]) (by simp [results, Try.results8, go_sem]) rfl ?_
    exact ⟨xs, ys, us, gx, cx, gy, cy, gu, xc, rfl, X, Y, ⟨Sx, lc, lu, mu⟩, by rw [hb]; exact HB.out⟩
  have q0 : (r == 0) = false := by simp [r0]
  have q1 : (r == 1) = false := by simp [r1]
  have q2 : (r == 2) = false := by simp [r2]
  have HB : Hid (Below b w w6) := b1.grown G6 (Nat.le_of_lt hl1) (fun j hj => by cases hj; exact Nat.le_refl _)
  have X := Ln.of ox lx mx
  have Y := Ln.of oy ly my
  have Z := Ln.of oz lz mz
  clear r0 r1 r2 ox oy oz s6 G6 b1
  go_wp2_with fail
  refine bodyPost_ret (v := .tuple #[.slice (some ⟨gx, 0, none⟩) xs.length cx, .slice (some ⟨gy, 0, none⟩) ys.length cy, .slice (some ⟨gz, 0, none⟩) zs.length cz]) (by simp [results, Try.results8, go_sem]) rfl ?_
  exact ⟨xs, ys, zs, gx, cx, gy, cy, gz, cz, rfl, X, Y, Z, by rw [hb]; exact HB.out⟩
end Go.Proofs.Yticagabnaibmgaa
