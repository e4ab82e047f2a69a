/- The contracts of the specification's l4Three and DrawMergeTexts: three lists of lines, three texts. No statement is proved here. -/
import Derived.Test.YtkeinpobngfioaaRows
import Derived.Test.YtkeinpobngfioaaLemQ
import Derived.Test.YtkeinpobngfioaaMarksQ
import Derived.Test.YtkeinpobngfioaaDTabQ
import Derived.Test.YtkeinpobngfioaaCkLQ
import Derived.Test.YtkeinpobngfioaaCkBQ
import Derived.Test.YtkeinpobngfioaaDrawQ
import Derived.Test.YtkeinpobngfioaaFpSQ
import Derived.Test.YtkeinpobngfioaaDraw3SQ
import Derived.Test.YtkeinpobngfioaaDraw5Q
import Derived.Test.YtkeinpobngfioaaDraw7Q
import Derived.WalkKit
import Derived.ProofKit
import Derived.Below
import Derived.WalkSpells
import Derived.Maps.AppendAt
import Derived.Deep.Onto
set_option linter.unusedVariables false
namespace Go.Proofs.Ytkeinpobngfioaa
open Go.ChangeShapes Go.WideShapes Go.ChangeAt Go.RowKit

abbrev Lr (base : Nat) (w : World) (g c : Nat) (ss : List ByteArray) : Prop := w.ownsRow base 9 1 (.slice (some ⟨g, 0, none⟩) ss.length c) ss.length (ss.map Value.string)
theorem Lr.ssn {base g c : Nat} {w : World} {ss : List ByteArray} (h : Lr base w g c ss) (hz : ∀ x ∈ ss, x.size ≤ 1000000) : SSN w.heap.size w (some ⟨g, 0, none⟩) c ss := by
  refine ⟨⟨fun k hk => ?_, fun j hj => ?_⟩, fun e => by cases e⟩
  · rw [getD_at _ k hk]
    have := hz _ (List.getElem_mem hk)
    omega
  · have hg := h.lt g rfl
    refine ⟨g, 0, rfl, hg.2, ?_⟩
    have := h.cellAt j (by omega)
    rw [Nat.zero_add, this]
    simp [List.getD, hj]
def CopyS (ss : List ByteArray) (w : World) (e : Ending) (w' : World) : Prop := ∃ g c, e = .returned (.slice (some ⟨g, 0, none⟩) ss.length c) ∧ Lr w.heap.size w' g c ss ∧ Below w.heap.size w w'
theorem shapeSome {w : World} {base n : Nat} {v : Value} {xs : List Value} {k : Nat} (h : w.ownsRow base 9 1 v n xs) (hk : v.ownBlock = some k) : ∃ g c, v = .slice (some ⟨g, 0, none⟩) n c := by
  rcases h.2 with ⟨rfl, rfl⟩ | ⟨g, cap, cur, rfl, _⟩
  · cases hk
  · exact ⟨_, _, rfl⟩
theorem l4CopyS (ss : List ByteArray) (a : Option Addr) (c : Nat) (w : World) (h : SSN w.heap.size w a c ss) (hn : ss.length ≤ 1048576) :
    Calls Try.prog 41 #[.slice a ss.length c] w fun e w' => CopyS ss w e w' := by
  go_enter Try.func41, Try.ntmps41
  have o1 : (w.alloc (.cells #[] 9)).ownsRow w.heap.size 9 1 (.slice (some ⟨w.heap.size, 0, none⟩) 0 0) ([] : List ByteArray).length (([] : List ByteArray).map Value.string) := World.ownsRow_lit w #[] 0 (Nat.le_refl _) (Nat.zero_le _) rfl
  have s1 := h.below (allocBelow w (.cells #[] 9))
  go_wp2_with (at_builtin; refine wpList_appN rfl (.tmp 3) (.tmp 4) rfl w.heap.size w.heap.size _ _ rfl o1 _ _ _ rfl s1 (by simp; omega) (by simp) ?_; intro v3 w3 o3 g3 hs3)
  have hB3 : Below w.heap.size w w3 := (allocBelow w _).grown g3 (by simp) (fun j hj => (o1.lt j hj).1)
  simp only [List.nil_append] at o3
  obtain ⟨k, hk⟩ : ∃ k, v3.ownBlock = some k := by
    rcases hs3 with e | e
    · exact ⟨_, e.trans rfl⟩
    · exact ⟨_, e⟩
  obtain ⟨g, cc, rfl⟩ := shapeSome o3 hk
  clear o1 s1 g3 h hs3 hk
  go_ret
  exact ⟨g, cc, rfl, o3, hB3⟩
def ThreePost (N b : Nat) (a : Option Addr) (n cap : Nat) (k : Int) (w : World) (e : Ending) (w' : World) : Prop :=
  ∃ (xs ys zs : List ByteArray) (gx cx gy cy gz cz : Nat) (k' : Int), e = .returned (.tuple #[.slice (some ⟨gx, 0, none⟩) xs.length cx, .slice (some ⟨gy, 0, none⟩) ys.length cy, .slice (some ⟨gz, 0, none⟩) zs.length cz]) ∧
    xs.length ≤ 8 ∧ ys.length ≤ 11 ∧ zs.length ≤ 11 ∧ Small 9 xs ∧ Small 9 ys ∧ Small 9 zs ∧ Lr w.heap.size w' gx cx xs ∧ Lr w.heap.size w' gy cy ys ∧ Lr w.heap.size w' gz cz zs ∧ Src N w' b a n cap k' ∧ k' ≤ k + 100 ∧ w.grownBy w' (some b)
theorem grownB {w w' : World} (h : Below w.heap.size w w') (row : Option Nat) : w.grownBy w' row := ⟨h.os, h.tape, h.output, h.size, fun j hj _ => h.block j hj⟩
set_option maxRecDepth 20000 in
set_option maxHeartbeats 4000000 in
theorem l4Three (N b : Nat) (a : Option Addr) (n cap : Nat) (k : Int) (w : World) (h : Src N w b a n cap k) (hk : k ≤ 10) :
    Calls Try.prog 28 #[.pointer (some ⟨b, 0, none⟩)] w fun e w' => ThreePost N b a n cap k w e w' := by
  have hlt := h.lt
  go_enter Try.func28, Try.ntmps28
  go_wp2_with fail
  refine (l1Next N b a n cap k 9 _ h (by omega)).mono ?_; rintro e w1 ⟨r, rfl, hd, s1, g1⟩
  have hd0 := hd.1
  have hd1 : r < 9 := hd.2.1 (by omega)
  obtain ⟨j, rfl⟩ := Int.eq_ofNat_of_zero_le hd0
  have lt1 := s1.lt
  have z1 := g1.size
  clear hd hd0
  go_wp2_with fail
  refine (l1LinesF N b a n cap (k + 1) j _ s1 (by omega) (by omega)).mono ?_; rintro e w2 ⟨xs, gx, cx, k2, rfl, lx, mx, ox, s2, hk2, g2⟩
  have G2 := grown_trans g1 g2
  have z2 := g2.size
  have hgx := (ox.lt gx rfl).1
  have mx9 : Small 9 xs := fun x hx => Nat.le_trans (mx.small x hx) (by omega)
  go_wp2_with fail
  refine (l1NearM 8 (by omega) N b w1.heap.size a n cap k2 xs gx cx _ s2 (by omega) lt1 (by omega) mx ox).mono ?_; rintro e w3 ⟨ys, gy, cy, k3, rfl, ly, my, oy, s3, hk3, g3⟩
  have G3 := grown_trans G2 g3
  have z3 := g3.size
  have hgy := (oy.lt gy rfl).1
  have ox3 := ox.kept g3 (.inr (by rw [ownBlock_slice]; simp; omega))
  clear ox s1 s2 g1 g2 g3 G2
  go_wp2_with fail
  refine (l1NearM 8 (by omega) N b w1.heap.size a n cap k3 xs gx cx _ s3 (by omega) lt1 (by omega) mx ox3).mono ?_; rintro e w4 ⟨zs, gz, cz, k4, rfl, lz, mz, oz, s4, hk4, g4⟩
  have G4 := grown_trans G3 g4
  have z4 := g4.size
  have hgz := (oz.lt gz rfl).1
  have ox4 := ox3.kept g4 (.inr (by rw [ownBlock_slice]; simp; omega))
  have oy4 := oy.kept g4 (.inr (by rw [ownBlock_slice]; simp; omega))
  clear ox3 oy s3 g4 G3
  go_wp2_with fail
  refine (l1Next N b a n cap k4 8 _ s4 (by omega)).mono ?_; rintro e w5 ⟨r, rfl, hd, s5, g5⟩
  have G5 := grown_trans G4 g5
  have z5 := g5.size
  have ox5 := ox4.kept g5 (.inr (by rw [ownBlock_slice]; simp; omega))
  have oy5 := oy4.kept g5 (.inr (by rw [ownBlock_slice]; simp; omega))
  have oz5 := oz.kept g5 (.inr (by rw [ownBlock_slice]; simp; omega))
  have hd0 := hd.1
  have hd1 : r < 8 := hd.2.1 (by omega)
  clear ox4 oy4 oz s4 g5 G4 hd
  have SX := Lr.ssn ox5 (fun x hx => Nat.le_trans (mx9 x hx) (by omega))
  have SY := Lr.ssn oy5 (fun x hx => Nat.le_trans (my x hx) (by omega))
  have b5 : b < w5.heap.size := s5.lt
  have gxl := (ox5.lt gx rfl).2
  have gyl := (oy5.lt gy rfl).2
  have gzl := (oz5.lt gz rfl).2
  by_cases r0 : r = 0
  · subst r0
    go_wp2_with fail
    refine (l4CopyS xs _ cx _ SX (by omega)).mono ?_; rintro e w6 ⟨g6, c6, rfl, o6, b6⟩
    have gg := grownB b6 (some b)
    have G6 := grown_trans G5 gg
    have s6 := s5.below b6
    have ox6 := ox5.kept (grownB b6 none) (.inr (by rw [ownBlock_slice]; simp))
    have oz6 := oz5.kept (grownB b6 none) (.inr (by rw [ownBlock_slice]; simp))
    clear SX SY ox5 oy5 oz5 s5 gg G5 b6
    go_wp2_with fail
    refine bodyPost_ret (v := .tuple #[.slice (some ⟨gx, 0, none⟩) xs.length cx, .slice (some ⟨g6, 0, none⟩) xs.length c6, .slice (some ⟨gz, 0, none⟩) zs.length cz]) (by simp [results, Try.results28, go_sem]) rfl ?_
    exact ⟨xs, xs, zs, gx, cx, g6, c6, gz, cz, k4 + 1, rfl, by omega, by omega, by omega, mx9, mx9, mz, (ox6).mono z1, (o6).mono (by omega), (oz6).mono (by omega), s6, by omega, G6⟩
  by_cases r1 : r = 1
  · subst r1
    go_wp2_with fail
    refine (l4CopyS xs _ cx _ SX (by omega)).mono ?_; rintro e w6 ⟨g6, c6, rfl, o6, b6⟩
    have gg := grownB b6 (some b)
    have G6 := grown_trans G5 gg
    have s6 := s5.below b6
    have ox6 := ox5.kept (grownB b6 none) (.inr (by rw [ownBlock_slice]; simp))
    have oy6 := oy5.kept (grownB b6 none) (.inr (by rw [ownBlock_slice]; simp))
    clear SX SY ox5 oy5 oz5 s5 gg G5 b6
    go_wp2_with fail
    refine bodyPost_ret (v := .tuple #[.slice (some ⟨gx, 0, none⟩) xs.length cx, .slice (some ⟨gy, 0, none⟩) ys.length cy, .slice (some ⟨g6, 0, none⟩) xs.length c6]) (by simp [results, Try.results28, go_sem]) rfl ?_
    exact ⟨xs, ys, xs, gx, cx, gy, cy, g6, c6, k4 + 1, rfl, by omega, by omega, by omega, mx9, my, mx9, (ox6).mono z1, (oy6).mono (by omega), (o6).mono (by omega), s6, by omega, G6⟩
  by_cases r2 : r = 2
  · subst r2
    go_wp2_with fail
    refine (l4CopyS ys _ cy _ SY (by omega)).mono ?_; rintro e w6 ⟨g6, c6, rfl, o6, b6⟩
    have gg := grownB b6 (some b)
    have G6 := grown_trans G5 gg
    have s6 := s5.below b6
    have ox6 := ox5.kept (grownB b6 none) (.inr (by rw [ownBlock_slice]; simp))
    have oy6 := oy5.kept (grownB b6 none) (.inr (by rw [ownBlock_slice]; simp))
    clear SX SY ox5 oy5 oz5 s5 gg G5 b6
    go_wp2_with fail
    refine bodyPost_ret (v := .tuple #[.slice (some ⟨gx, 0, none⟩) xs.length cx, .slice (some ⟨gy, 0, none⟩) ys.length cy, .slice (some ⟨g6, 0, none⟩) ys.length c6]) (by simp [results, Try.results28, go_sem]) rfl ?_
    exact ⟨xs, ys, ys, gx, cx, gy, cy, g6, c6, k4 + 1, rfl, by omega, by omega, by omega, mx9, my, my, (ox6).mono z1, (oy6).mono (by omega), (o6).mono (by omega), s6, by omega, G6⟩
  have q0 : (r == 0) = false := by simp [r0]
  have q1 : (r == 1) = false := by simp [r1]
  have q2 : (r == 2) = false := by simp [r2]
  clear SX SY r0 r1 r2
  go_wp2_with fail
  refine bodyPost_ret (v := .tuple #[.slice (some ⟨gx, 0, none⟩) xs.length cx, .slice (some ⟨gy, 0, none⟩) ys.length cy, .slice (some ⟨gz, 0, none⟩) zs.length cz]) (by simp [results, Try.results28, go_sem]) rfl ?_
  exact ⟨xs, ys, zs, gx, cx, gy, cy, gz, cz, k4 + 1, rfl, by omega, by omega, by omega, mx9, my, mz, (ox5).mono z1, (oy5).mono (by omega), (oz5).mono (by omega), s5, by omega, G5⟩
end Go.Proofs.Ytkeinpobngfioaa
