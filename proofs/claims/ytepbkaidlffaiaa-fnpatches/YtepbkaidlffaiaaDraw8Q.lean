/- The contracts of the specification's l2Two and DrawEditCount over this seat's program. No statement is proved here. -/
import Derived.Test.YtepbkaidlffaiaaRows
import Derived.Test.YtepbkaidlffaiaaLemQ
import Derived.Test.YtepbkaidlffaiaaStrsQ
import Derived.Test.YtepbkaidlffaiaaMarksQ
import Derived.Test.YtepbkaidlffaiaaDrawQ
import Derived.Test.YtepbkaidlffaiaaDraw5Q
import Derived.Test.YtepbkaidlffaiaaDraw7Q
import Derived.WalkKit
import Derived.ProofKit
import Derived.Below
import Derived.WalkSpells
namespace Go.Proofs.Ytepbkaidlffaiaa
open Go.ChangeShapes Go.WideShapes Go.ChangeAt Go.RowKit

/-- Lines are never read from the source's own block. -/
theorem SS.src {N : Nat} {w w' : World} {b : Nat} {a : Option Addr} {n cap : Nat} {k : Int} {x : Option Addr} {ss : List ByteArray} (h : SS w x ss) (hs : Src N w b a n cap k) (hg : w.grownBy w' (some b)) : SS w' x ss :=
  ⟨h.1, fun i hi => by
    obtain ⟨b', off, e, hb, hc⟩ := h.2 i hi
    refine ⟨b', off, e, Nat.lt_of_lt_of_le hb hg.size, hg.cell hc (fun e' => ?_)⟩
    simp only [Option.some.injEq] at e'
    subst e'
    have : w.cell? ⟨b', off + i, none⟩ = (#[Value.slice a n cap, Value.int .i64 k] : Array Value)[off + i]? := cell_of_row w b' (off + i) _ _ _ hs.blk
    rw [this] at hc
    have h3 : off + i = 0 ∨ off + i = 1 ∨ 2 ≤ off + i := by omega
    rcases h3 with h3 | h3 | h3
    · rw [h3] at hc; simp at hc
    · rw [h3] at hc; simp at hc
    · rw [Array.getElem?_eq_none (by simp; omega)] at hc; cases hc⟩
theorem Small.mono {z z' : Nat} {ss : List ByteArray} (h : Small z ss) (hz : z ≤ z') : Small z' ss := fun x hx => Nat.le_trans (h x hx) hz
def TwoPost (b : Nat) (w : World) (e : Ending) (w' : World) : Prop := ∃ (a1 : Option Addr) (c1 : Nat) (xs : List ByteArray) (a2 : Option Addr) (c2 : Nat) (ys : List ByteArray), e = .returned (.tuple #[.slice a1 xs.length c1, .slice a2 ys.length c2]) ∧ SS w' a1 xs ∧ SS w' a2 ys ∧ xs.length ≤ 1000 ∧ ys.length ≤ 1000 ∧ Small 9 xs ∧ Small 9 ys ∧ w.grownBy w' (some b)

set_option maxRecDepth 20000 in
set_option maxHeartbeats 4000000 in
theorem l2Two (N b : Nat) (a : Option Addr) (n cap : Nat) (k : Int) (w : World) (h : Src N w b a n cap k) (hk : k ≤ 10) :
    Calls Try.prog 52 #[.pointer (some ⟨b, 0, none⟩)] w fun e w' => TwoPost b w e w' := by
  have hlt := h.lt
  go_enter Try.func52, Try.ntmps52
  go_wp2_with fail
  refine (l1Next N b a n cap k 9 _ h (by omega)).mono ?_; rintro e w1 ⟨r, rfl, hd, s1, g1⟩
  have hd0 := hd.1
  have hd1 : r < 9 := hd.2.1 (by omega)
  obtain ⟨j, rfl⟩ := Int.eq_ofNat_of_zero_le hd0
  have lt1 := s1.lt
  clear hd hd0
  go_wp2_with fail
  refine (l1LinesF N b a n cap (k + 1) j _ s1 (by omega) (by omega)).mono ?_; rintro e w2 ⟨xs, ga, ca, k2, rfl, lx, mx, ox, s2, hk2, g2⟩
  have G2 := grown_trans g1 g2
  have z2 := g2.size
  have hga := (ox.lt ga rfl).1
  go_wp2_with fail
  refine (l1Near N b w1.heap.size a n cap k2 xs ga ca _ s2 (by omega) lt1 (by omega) mx ox).mono ?_; rintro e w3 ⟨ys, gb, cb, k3, rfl, ly, my, oy, s3, hk3, g3⟩
  have G3 := grown_trans G2 g3
  have z3 := g3.size
  have hgb := (oy.lt gb rfl).1
  have ox3 := ox.kept g3 (.inr (by rw [ownBlock_slice]; simp; omega))
  have mx9 : Small 9 xs := mx.small.mono (by omega)
  clear ox s1 s2 g1 g2 g3 G2 mx
  go_wp2_with fail
  refine (l1Chance N b a n cap k3 6 _ s3 (by omega)).mono ?_; rintro e w4 ⟨r4, rfl, s4, g4⟩
  have G4 := grown_trans G3 g4
  have z4 := g4.size
  have ox4 := ox3.kept g4 (.inr (by rw [ownBlock_slice]; simp; omega))
  have oy4 := oy.kept g4 (.inr (by rw [ownBlock_slice]; simp; omega))
  clear ox3 oy s3 g4 G3
  cases r4 with
  | true =>
    go_wp2_with fail
    refine (l1Next N b a n cap (k3 + 1) 9 _ s4 (by omega)).mono ?_; rintro e w4a ⟨r, rfl, hd, s4a, g4a⟩
    have hd0 := hd.1
    have hd2 : r < 9 := hd.2.1 (by omega)
    obtain ⟨j2, rfl⟩ := Int.eq_ofNat_of_zero_le hd0
    have G4a := grown_trans G4 g4a
    have z4a := g4a.size
    have ox4a := ox4.kept g4a (.inr (by rw [ownBlock_slice]; simp; omega))
    have lt4a := s4a.lt
    clear hd hd0 ox4 oy4 s4 g4a G4
    go_wp2_with fail
    refine (l1LinesF N b a n cap (k3 + 1 + 1) j2 _ s4a (by omega) (by omega)).mono ?_; rintro e w4b ⟨y2, gb2, cb2, k4b, rfl, ly2, my2, oy4b, s4b, hk4b, g4b⟩
    have G4b := grown_trans G4a g4b
    have z4b := g4b.size
    have ox4b := ox4a.kept g4b (.inr (by rw [ownBlock_slice]; simp; omega))
    have hgb2 := (oy4b.lt gb2 rfl).1
    have my9 : Small 9 y2 := my2.small.mono (by omega)
    clear ox4a s4a g4b G4a
    go_wp2_with fail
    refine (l1Chance N b a n cap (k4b) 10 _ s4b (by omega)).mono ?_; rintro e w5 ⟨r5, rfl, s5, g5⟩
    have G5 := grown_trans G4b g5
    have z5 := g5.size
    have ox5 := ox4b.kept g5 (.inr (by rw [ownBlock_slice]; simp; omega))
    have oy5 := oy4b.kept g5 (.inr (by rw [ownBlock_slice]; simp; omega))
    clear ox4b oy4b s4b g5 G4b
    cases r5 with
    | true =>
      go_wp2_with fail
      refine (l1Bent9 N b w1.heap.size a n cap (k4b + 1) xs ga ca _ s5 (by omega) lt1 (by omega) mx9 ox5).mono ?_; rintro e w6 ⟨xa, xc, us, rfl, Sx, lu, mu, g6, k6, s6, hk6⟩
      have G6 := grown_trans G5 g6
      have z6 := g6.size
      have oy6 := oy5.kept g6 (.inr (by rw [ownBlock_slice]; simp; omega))
      clear ox5 oy5 s5 g6 G5
      go_wp2_with fail
      refine (l1Chance N b a n cap k6 10 _ s6 (by omega)).mono ?_; rintro e w7 ⟨r7, rfl, s7, g7⟩
      have G7 := grown_trans G6 g7
      have z7 := g7.size
      have oy7 := oy6.kept g7 (.inr (by rw [ownBlock_slice]; simp; omega))
      have Sx7 := Sx.src s6 g7
      clear Sx oy6 s6 g7 G6
      cases r7 with
      | true =>
        go_wp2_with fail
        refine (l1Bent9 N b w4a.heap.size a n cap (k6 + 1) y2 gb2 cb2 _ s7 (by omega) (by omega) (by omega) my9 oy7).mono ?_; rintro e w8 ⟨ya, yc, vs, rfl, Sy, lv, mv, g8, k8, s8, hk8⟩
        have G8 := grown_trans G7 g8
        have Sx8 := Sx7.src s7 g8
        clear Sx7 oy7 s7 g8 G7
        go_wp2_with fail
        refine bodyPost_ret (v := .tuple #[.slice xa us.length xc, .slice ya vs.length yc]) (by simp [results, Try.results52, go_sem]) rfl ?_
        exact ⟨xa, xc, us, ya, yc, vs, rfl, Sx8, Sy, lu, lv, mu, mv, G8⟩
      | false =>
        go_wp2_with fail
        refine bodyPost_ret (v := .tuple #[.slice xa us.length xc, .slice (some ⟨gb2, 0, none⟩) y2.length cb2]) (by simp [results, Try.results52, go_sem]) rfl ?_
        exact ⟨xa, xc, us, _, _, y2, rfl, Sx7, SS_ownN oy7 (my9.sizesN (by omega)), lu, by omega, mu, my9, G7⟩
    | false =>
      go_wp2_with fail
      refine (l1Chance N b a n cap (k4b + 1) 10 _ s5 (by omega)).mono ?_; rintro e w7 ⟨r7, rfl, s7, g7⟩
      have G7 := grown_trans G5 g7
      have z7 := g7.size
      have oy7 := oy5.kept g7 (.inr (by rw [ownBlock_slice]; simp; omega))
      have ox7 := ox5.kept g7 (.inr (by rw [ownBlock_slice]; simp; omega))
      have Sx7 := SS_ownN ox7 (mx9.sizesN (by omega))
      clear oy5 ox5 ox7 s5 g7 G5
      cases r7 with
      | true =>
        go_wp2_with fail
        refine (l1Bent9 N b w4a.heap.size a n cap (k4b + 1 + 1) y2 gb2 cb2 _ s7 (by omega) (by omega) (by omega) my9 oy7).mono ?_; rintro e w8 ⟨ya, yc, vs, rfl, Sy, lv, mv, g8, k8, s8, hk8⟩
        have G8 := grown_trans G7 g8
        have Sx8 := Sx7.src s7 g8
        clear Sx7 oy7 s7 g8 G7
        go_wp2_with fail
        refine bodyPost_ret (v := .tuple #[.slice (some ⟨ga, 0, none⟩) xs.length ca, .slice ya vs.length yc]) (by simp [results, Try.results52, go_sem]) rfl ?_
        exact ⟨_, _, xs, ya, yc, vs, rfl, Sx8, Sy, by omega, lv, mx9, mv, G8⟩
      | false =>
        go_wp2_with fail
        refine bodyPost_ret (v := .tuple #[.slice (some ⟨ga, 0, none⟩) xs.length ca, .slice (some ⟨gb2, 0, none⟩) y2.length cb2]) (by simp [results, Try.results52, go_sem]) rfl ?_
        exact ⟨_, _, xs, _, _, y2, rfl, Sx7, SS_ownN oy7 (my9.sizesN (by omega)), by omega, by omega, mx9, my9, G7⟩
  | false =>
    go_wp2_with fail
    refine (l1Chance N b a n cap ((k3 + 1)) 10 _ s4 (by omega)).mono ?_; rintro e w5 ⟨r5, rfl, s5, g5⟩
    have G5 := grown_trans G4 g5
    have z5 := g5.size
    have ox5 := ox4.kept g5 (.inr (by rw [ownBlock_slice]; simp; omega))
    have oy5 := oy4.kept g5 (.inr (by rw [ownBlock_slice]; simp; omega))
    clear ox4 oy4 s4 g5 G4
    cases r5 with
    | true =>
      go_wp2_with fail
      refine (l1Bent9 N b w1.heap.size a n cap ((k3 + 1) + 1) xs ga ca _ s5 (by omega) lt1 (by omega) mx9 ox5).mono ?_; rintro e w6 ⟨xa, xc, us, rfl, Sx, lu, mu, g6, k6, s6, hk6⟩
      have G6 := grown_trans G5 g6
      have z6 := g6.size
      have oy6 := oy5.kept g6 (.inr (by rw [ownBlock_slice]; simp; omega))
      clear ox5 oy5 s5 g6 G5
      go_wp2_with fail
      refine (l1Chance N b a n cap k6 10 _ s6 (by omega)).mono ?_; rintro e w7 ⟨r7, rfl, s7, g7⟩
      have G7 := grown_trans G6 g7
      have z7 := g7.size
      have oy7 := oy6.kept g7 (.inr (by rw [ownBlock_slice]; simp; omega))
      have Sx7 := Sx.src s6 g7
      clear Sx oy6 s6 g7 G6
      cases r7 with
      | true =>
        go_wp2_with fail
        refine (l1Bent9 N b w2.heap.size a n cap (k6 + 1) ys gb cb _ s7 (by omega) (by omega) (by omega) my oy7).mono ?_; rintro e w8 ⟨ya, yc, vs, rfl, Sy, lv, mv, g8, k8, s8, hk8⟩
        have G8 := grown_trans G7 g8
        have Sx8 := Sx7.src s7 g8
        clear Sx7 oy7 s7 g8 G7
        go_wp2_with fail
        refine bodyPost_ret (v := .tuple #[.slice xa us.length xc, .slice ya vs.length yc]) (by simp [results, Try.results52, go_sem]) rfl ?_
        exact ⟨xa, xc, us, ya, yc, vs, rfl, Sx8, Sy, lu, lv, mu, mv, G8⟩
      | false =>
        go_wp2_with fail
        refine bodyPost_ret (v := .tuple #[.slice xa us.length xc, .slice (some ⟨gb, 0, none⟩) ys.length cb]) (by simp [results, Try.results52, go_sem]) rfl ?_
        exact ⟨xa, xc, us, _, _, ys, rfl, Sx7, SS_ownN oy7 (my.sizesN (by omega)), lu, by omega, mu, my, G7⟩
    | false =>
      go_wp2_with fail
      refine (l1Chance N b a n cap ((k3 + 1) + 1) 10 _ s5 (by omega)).mono ?_; rintro e w7 ⟨r7, rfl, s7, g7⟩
      have G7 := grown_trans G5 g7
      have z7 := g7.size
      have oy7 := oy5.kept g7 (.inr (by rw [ownBlock_slice]; simp; omega))
      have ox7 := ox5.kept g7 (.inr (by rw [ownBlock_slice]; simp; omega))
      have Sx7 := SS_ownN ox7 (mx9.sizesN (by omega))
      clear oy5 ox5 ox7 s5 g7 G5
      cases r7 with
      | true =>
        go_wp2_with fail
        refine (l1Bent9 N b w2.heap.size a n cap ((k3 + 1) + 1 + 1) ys gb cb _ s7 (by omega) (by omega) (by omega) my oy7).mono ?_; rintro e w8 ⟨ya, yc, vs, rfl, Sy, lv, mv, g8, k8, s8, hk8⟩
        have G8 := grown_trans G7 g8
        have Sx8 := Sx7.src s7 g8
        clear Sx7 oy7 s7 g8 G7
        go_wp2_with fail
        refine bodyPost_ret (v := .tuple #[.slice (some ⟨ga, 0, none⟩) xs.length ca, .slice ya vs.length yc]) (by simp [results, Try.results52, go_sem]) rfl ?_
        exact ⟨_, _, xs, ya, yc, vs, rfl, Sx8, Sy, by omega, lv, mx9, mv, G8⟩
      | false =>
        go_wp2_with fail
        refine bodyPost_ret (v := .tuple #[.slice (some ⟨ga, 0, none⟩) xs.length ca, .slice (some ⟨gb, 0, none⟩) ys.length cb]) (by simp [results, Try.results52, go_sem]) rfl ?_
        exact ⟨_, _, xs, _, _, ys, rfl, Sx7, SS_ownN oy7 (my.sizesN (by omega)), by omega, by omega, mx9, my, G7⟩

set_option maxHeartbeats 800000 in
theorem drawEditCount (a : Option Addr) (n cap : Nat) (w : World) (h : Bts w a n) (hn : n ≤ 2097152) :
    Calls Try.prog 29 #[.slice a n cap] w fun e w' => ∃ (a1 : Option Addr) (c1 : Nat) (xs : List ByteArray) (a2 : Option Addr) (c2 : Nat) (ys : List ByteArray), e = .returned (.tuple #[.slice a1 xs.length c1, .slice a2 ys.length c2]) ∧ SS w' a1 xs ∧ SS w' a2 ys ∧ xs.length ≤ 1000 ∧ ys.length ≤ 1000 ∧ tot xs ≤ 9000 ∧ tot ys ≤ 9000 ∧ Below w.heap.size w w' := by
  go_enter Try.func29, Try.ntmps29
  go_wp2_with fail
  refine (l1Source a n cap _ h (by omega)).mono ?_; rintro e w1 ⟨rfl, hs1, hb1⟩
  go_wp2_with fail
  refine (l2Two _ _ a n cap 0 _ hs1 (by omega)).mono ?_; rintro e w2 ⟨a1, c1, xs, a2, c2, ys, rfl, S1, S2, l1, l2, m1, m2, g⟩
  have t1 := m1.totN
  have t2 := m2.totN
  have HB : Hid (Below w.heap.size w w2) := hb1.grown g hb1.size (fun j hj => by cases hj; exact Nat.le_refl _)
  clear hb1 g hs1
  go_wp2_with fail
  refine bodyPost_ret (v := .tuple #[.slice a1 xs.length c1, .slice a2 ys.length c2]) (by simp [results, Try.results29, go_sem]) rfl ?_
  exact ⟨a1, c1, xs, a2, c2, ys, rfl, S1, S2, l1, l2, by omega, by omega, HB.out⟩
end Go.Proofs.Ytepbkaidlffaiaa
