/- The contracts of the specification's l2Two and DrawHunksOf (with capacities, whose rows are whole, and the source behind them) over this seat's program. No statement is proved here. -/
import Derived.Test.YtepbkaidlffaiaaRows
import Derived.Test.YtepbkaidlffaiaaLemQ
import Derived.Test.YtepbkaidlffaiaaStrsQ
import Derived.Test.YtepbkaidlffaiaaMarksQ
import Derived.Test.YtepbkaidlffaiaaDrawQ
import Derived.Test.YtepbkaidlffaiaaDraw5Q
import Derived.Test.YtepbkaidlffaiaaDraw7Q
import Derived.Test.YtepbkaidlffaiaaDraw8Q
import Derived.WalkKit
import Derived.ProofKit
import Derived.Below
import Derived.WalkSpells
namespace Go.Proofs.Ytepbkaidlffaiaa
open Go.ChangeShapes Go.WideShapes Go.ChangeAt Go.RowKit

def BentPostD (N b : Nat) (a : Option Addr) (n cap : Nat) (k : Int) (w : World) (e : Ending) (w' : World) : Prop := ∃ (x : Option Addr) (c : Nat) (ss : List ByteArray), e = .returned (.slice x ss.length c) ∧ SS w' x ss ∧ ss.length ≤ 1000 ∧ Small 9 ss ∧ ss.length ≤ c ∧ w.grownBy w' (some b) ∧ (∃ g, x = some ⟨g, 0, none⟩) ∧ ∃ k', Src N w' b a n cap k' ∧ k' ≤ k + 200

set_option maxRecDepth 20000 in
set_option maxHeartbeats 4000000 in
theorem l1BentD (N b base : Nat) (a : Option Addr) (n cap : Nat) (k : Int) (ss : List ByteArray) (g c : Nat) (w : World) (h : Src N w b a n cap k) (hk : k ≤ 1000000) (hb : b < base) (hl : ss.length ≤ 1000) (hsm : Small 9 ss)
    (ho : w.ownsRow base 9 1 (.slice (some ⟨g, 0, none⟩) ss.length c) ss.length (ss.map Value.string)) :
    Calls Try.prog 45 #[.pointer (some ⟨b, 0, none⟩), .slice (some ⟨g, 0, none⟩) ss.length c] w fun e w' => BentPostD N b a n cap k w e w' := by
  obtain ⟨i0, hi, hz0, hz1, hz2⟩ := info_parts infoString
  have hlt := h.lt
  have hge := h.ge
  have hgg := ho.lt g rfl
  by_cases h0 : ((ss.length : Int) == 0) = true
  · have hS := SS_ownN ho (hsm.sizesN (by omega))
    go_enter Try.func45, Try.ntmps45
    go_wp2_with fail
    go_ret
    exact ⟨some ⟨g, 0, none⟩, c, ss, rfl, hS, hl, hsm, ownCap ho, World.grownBy.refl _ _, ⟨_, rfl⟩, k, h, by omega⟩
  have h0' : ((ss.length : Int) == 0) = false := by simpa using h0
  have hpos : 0 < ss.length := by have : ¬ (ss.length : Int) = 0 := by simpa using h0
                                  omega
  have hcells : ∀ (o : Obj) (j : Nat) (u : Value), (ss.map Value.string)[j]? = some u → (w.alloc o).cell? ((⟨g, 0, none⟩ : Addr).add j) = some u := by
    intro o j u hj
    have hjl : j < ss.length := by have := (List.getElem?_eq_some_iff.1 hj).1; simpa using this
    rw [add_plain, Nat.zero_add, World.cell?_alloc_past _ _ _ hgg.2, ho.cellAt j (by omega)]
    exact hj
  go_enter Try.func45, Try.ntmps45
  go_wp2_with (at_builtin; refine wpList_append_own _ rfl (.tmp 12) (.tmp 13) 25 rfl w.heap.size 9 i0 (.string ByteArray.empty) 1 16 Try.underlying25 hi hz0 hz1 hz2 rfl (by decide) (.slice (some ⟨w.heap.size, 0, none⟩) 0 0) 0 [] rfl (World.ownsRow_lit w #[] 0 (Nat.le_refl _) (Nat.zero_le _) rfl) ⟨g, 0, none⟩ ss.length c (ss.map Value.string) rfl (by simp) (hcells _) (by simp [Value.oneCell']) (by unfold maxLen; omega) (by omega) (by simp) ?_; intro v1 w1 hown1 hg1 _; simp only [Nat.zero_add, List.nil_append] at hown1; obtain ⟨g1, c1, rfl⟩ := own_posN hown1 hpos)
  have hB : ∀ o, Below w.heap.size w (w.alloc o) := fun o => (Below.refl _ _).alloc (Nat.le_refl _) _
  have hgg1 := hown1.lt g1 rfl
  have S1 := hg1.size
  simp only [World.size_alloc] at S1
  have hsrc1 : Src N w1 b a n cap k := (h.below (hB _)).kept hg1 (by rw [ownBlock_slice]; simp; omega) (fun j hj => by rw [ownBlock_slice] at hj; cases hj; omega)
  have gr1 : w.grownBy w1 (some b) := grown_new (World.grownBy_alloc w _ (some b)) hg1 (fun j hj => by rw [ownBlock_slice] at hj; cases hj; omega)
  clear hg1 hcells
  refine (l1Next N b a n cap k _ _ hsrc1 (by omega)).mono ?_; rintro e w2 ⟨r, rfl, hd, hsrc2, g2⟩
  have hd0 := hd.1
  have hd1 : r < ss.length := hd.2.1 (by omega)
  obtain ⟨j, rfl⟩ := Int.eq_ofNat_of_zero_le hd0
  have hown2 := hown1.kept g2 (.inr (by rw [ownBlock_slice]; simp; omega))
  have gr2 := grown_trans gr1 g2
  have S2 := g2.size
  clear hown1 gr1 g2 hd hsrc1
  go_wp2_with fail
  refine (l1Next N b a n cap (k + 1) 24 _ hsrc2 (by omega)).mono ?_; rintro e w3 ⟨r2, rfl, _, hsrc3, g3⟩
  have hown3 := hown2.kept g3 (.inr (by rw [ownBlock_slice]; simp; omega))
  have gr3 := grown_trans gr2 g3
  have S3 := g3.size
  clear hown2 gr2 g3 hsrc2
  have hjl : j < ss.length := by omega
  have hfz := hown3.frozenAt j
  have hold := hown3.cellAt j (by omega)
  rw [List.getElem?_eq_getElem (by simp; omega)] at hold
  have fin : Hid (∀ x : ByteArray, x.size ≤ 9 → BentPostD N b a n cap k w (.returned (.slice (some ⟨g1, 0, none⟩) ss.length c1)) (w3.setCell ⟨g1, j, none⟩ (.string x))) := by
    intro x hx
    obtain ⟨hs1, hs2⟩ := hown3.stored j (.string x)
    rw [map_set] at hs1
    have hs3 : (w3.setCell ⟨g1, j, none⟩ (.string x)).ownsRow w.heap.size 9 1 (.slice (some ⟨g1, 0, none⟩) (ss.set j x).length c1) (ss.set j x).length ((ss.set j x).map Value.string) := by simpa using hs1
    exact ⟨some ⟨g1, 0, none⟩, c1, ss.set j x, by simp, SS_ownN hs3 ((hsm.set hx j).sizesN (by omega)), by simpa using hl, hsm.set hx j, ownCap hs3, grown_new gr3 hs2 (fun i hi => by cases hi; omega), ⟨_, rfl⟩, k + 1 + 1, hsrc3.kept hs2 (by simp; omega) (fun i hi => by cases hi; omega), by omega⟩
  by_cases q0 : (r2 == 0) = true
  · go_wp2_with fail
    go_ret
    exact fin.out ⟨#[]⟩ (by decide)
  have q0' : (r2 == 0) = false := by simpa using q0
  by_cases q1 : (r2 == 1) = true
  · go_wp2_with fail
    go_ret
    exact fin.out ⟨#[97, 10, 98, 10]⟩ (by decide)
  have q1' : (r2 == 1) = false := by simpa using q1
  by_cases q2 : (r2 == 2) = true
  · go_wp2_with fail
    go_ret
    exact fin.out ⟨#[113]⟩ (by decide)
  have q2' : (r2 == 2) = false := by simpa using q2
  by_cases q3 : (r2 == 3) = true
  · clear fin hold hfz
    go_wp2_with (at_make; refine wpList_make_full _ rfl _ _ 25 rfl w3.heap.size 9 i0 (.string ByteArray.empty) 1 Try.underlying25 hi hz0 hz1 .i64 .i64 101 101 101 rfl rfl rfl rfl (by rw [hz2]; omega) (by unfold maxLen; omega) (Nat.le_refl _) ?_; intro w4 hown4 hg4)
    have hsrc4 : Src N w4 b a n cap (k + 1 + 1) := hsrc3.kept hg4 (by simp) (fun j hj => by cases hj)
    have gr4 : w.grownBy w4 (some b) := grown_new gr3 hg4 (fun j hj => by cases hj)
    have hown5 : w4.ownsRow w3.heap.size 9 1 (.slice (some ⟨w3.heap.size, 0, none⟩) 101 101) 101 ((List.replicate 101 ByteArray.empty).map Value.string) := by
      have e : (madeCells (Value.string ByteArray.empty).cells (101 * 1)).toList = (List.replicate 101 ByteArray.empty).map Value.string := by
        rw [List.map_replicate]; exact toList_madeCells_one _ _
      rwa [e] at hown4
    clear hown4 hown3 gr3 hsrc3 hg4
    go_loopw [7] (fun i wr => ∃ (q : Nat) (ts : List ByteArray) (m : Int), i = .int .i64 q ∧ q ≤ 101 ∧ ts.length = 101 ∧ Small 9 ts ∧ wr.ownsRow w3.heap.size 9 1 (.slice (some ⟨w3.heap.size, 0, none⟩) 101 101) 101 (ts.map Value.string) ∧ Src N wr b a n cap m ∧ m ≤ k + 2 + q ∧ w.grownBy wr (some b)) (fun i _ => 101 - (intOf i).toNat)
    case atStart => exact ⟨0, List.replicate 101 ByteArray.empty, k + 1 + 1, rfl, by omega, by simp, Small.replicateN _ _, hown5, hsrc4, by omega, gr4⟩
    case round =>
      obtain ⟨q, ts, m, rfl, hq, hts, hst, hor, hsr, hm, hgr⟩ := hrel
      go_wp2_with fail
      refine (l1Next N b a n cap m 2 _ hsr (by omega)).mono ?_; rintro e w6 ⟨r5, rfl, hd, hsr6, g6⟩
      have hd0' := hd.1
      have hd1' : r5 < 2 := hd.2.1 (by omega)
      have hor6 := hor.kept g6 (.inr (by rw [ownBlock_slice]; simp; omega))
      have gr6 := grown_trans hgr g6
      have S6 := g6.size
      clear hor hsr hgr g6 hd
      by_cases hc : (q : Int) < 101 - r5
      · have hfz := hor6.frozenAt q
        obtain ⟨u, hold⟩ : ∃ u, w6.cell? ⟨w3.heap.size, q, none⟩ = some u := ⟨_, (hor6.cellAt q (by omega)).trans (List.getElem?_eq_getElem (by simp; omega))⟩
        obtain ⟨hs1, hs2⟩ := hor6.stored q (.string ⟨#[10]⟩)
        rw [map_set] at hs1
        have gr7 := grown_new gr6 hs2 (fun i hi => by cases hi; omega)
        have hsr7 : Src N (w6.setCell ⟨w3.heap.size, q, none⟩ (.string ⟨#[10]⟩)) b a n cap (m + 1) := hsr6.kept hs2 (by simp; omega) (fun i hi => by cases hi; omega)
        have hq101 : (q : Int) < 101 := by omega
        have hq101' : q < 101 := by omega
        have HL : Hid ((ts.set q ⟨#[10]⟩).length = 101) := by show _ = _; rw [List.length_set]; exact hts
        clear hor6 gr6 hsr6 hs2 hts
        go_wp2_with fail
        go_roundw
        case rel => exact ⟨q + 1, ts.set q ⟨#[10]⟩, m + 1, by go_num, by omega, HL.out, hst.set (by decide) q, hs1, hsr7, by omega, gr7⟩
        case measure => simp [intOf]; omega
      · have HF : Hid (BentPostD N b a n cap k w (.returned (.slice (some ⟨w3.heap.size, 0, none⟩) 101 101)) w6) := by
          have hor7 : w6.ownsRow w3.heap.size 9 1 (.slice (some ⟨w3.heap.size, 0, none⟩) ts.length 101) ts.length (ts.map Value.string) := by rw [hts]; exact hor6
          exact ⟨some ⟨w3.heap.size, 0, none⟩, 101, ts, by rw [hts], SS_ownN hor7 (hst.sizesN (by omega)), by omega, hst, ownCap hor7, gr6, ⟨_, rfl⟩, m + 1, hsr6, by omega⟩
        clear hts hor6 gr6 hsr6
        go_wp2_with fail
        go_ret
        exact HF.out
  have q3' : (r2 == 3) = false := by simpa using q3
  go_wp2_with fail
  go_ret
  exact ⟨some ⟨g1, 0, none⟩, c1, ss, rfl, SS_ownN hown3 (hsm.sizesN (by omega)), hl, hsm, ownCap hown3, gr3, ⟨_, rfl⟩, k + 1 + 1, hsrc3, by omega⟩

def TwoPostD (N b : Nat) (a : Option Addr) (n cap : Nat) (w : World) (e : Ending) (w' : World) : Prop := ∃ (a1 : Option Addr) (c1 : Nat) (xs : List ByteArray) (a2 : Option Addr) (c2 : Nat) (ys : List ByteArray), e = .returned (.tuple #[.slice a1 xs.length c1, .slice a2 ys.length c2]) ∧ SS w' a1 xs ∧ SS w' a2 ys ∧ xs.length ≤ 1000 ∧ ys.length ≤ 1000 ∧ Small 9 xs ∧ Small 9 ys ∧ xs.length ≤ c1 ∧ ys.length ≤ c2 ∧ w.grownBy w' (some b) ∧ (∃ g, a1 = some ⟨g, 0, none⟩) ∧ (∃ g, a2 = some ⟨g, 0, none⟩) ∧ ∃ k', Src N w' b a n cap k' ∧ k' ≤ 1000000

set_option maxRecDepth 20000 in
set_option maxHeartbeats 4000000 in
theorem l2TwoD (N b : Nat) (a : Option Addr) (n cap : Nat) (k : Int) (w : World) (h : Src N w b a n cap k) (hk : k ≤ 10) :
    Calls Try.prog 52 #[.pointer (some ⟨b, 0, none⟩)] w fun e w' => TwoPostD N b a n cap w e w' := by
  have hlt := h.lt
  go_enter Try.func52, Try.ntmps52
  go_wp2_with fail
  refine (l1Next N b a n cap k 9 _ h (by omega)).mono ?_; rintro e w1 ⟨r, rfl, hd, s1, g1⟩
  have hd0 := hd.1
  have hd1 : r < 9 := hd.2.1 (by omega)
  obtain ⟨j, rfl⟩ := Int.eq_ofNat_of_zero_le hd0
  have lt1 := s1.lt
  clear hd hd0
  go_wp2_with fail
  refine (l1LinesF N b a n cap (k + 1) j _ s1 (by omega) (by omega)).mono ?_; rintro e w2 ⟨xs, ga, ca, k2, rfl, lx, mx, ox, s2, hk2, g2⟩
  have G2 := grown_trans g1 g2
  have z2 := g2.size
  have hga := (ox.lt ga rfl).1
  have cX := ownCap ox
  go_wp2_with fail
  refine (l1Near N b w1.heap.size a n cap k2 xs ga ca _ s2 (by omega) lt1 (by omega) mx ox).mono ?_; rintro e w3 ⟨ys, gb, cb, k3, rfl, ly, my, oy, s3, hk3, g3⟩
  have G3 := grown_trans G2 g3
  have z3 := g3.size
  have hgb := (oy.lt gb rfl).1
  have ox3 := ox.kept g3 (.inr (by rw [ownBlock_slice]; simp; omega))
  have mx9 : Small 9 xs := mx.small.mono (by omega)
  clear ox s1 s2 g1 g2 g3 G2 mx
  go_wp2_with fail
  refine (l1Chance N b a n cap k3 6 _ s3 (by omega)).mono ?_; rintro e w4 ⟨r4, rfl, s4, g4⟩
  have G4 := grown_trans G3 g4
  have z4 := g4.size
  have ox4 := ox3.kept g4 (.inr (by rw [ownBlock_slice]; simp; omega))
  have oy4 := oy.kept g4 (.inr (by rw [ownBlock_slice]; simp; omega))
  clear ox3 oy s3 g4 G3
  cases r4 with
  | true =>
    go_wp2_with fail
    refine (l1Next N b a n cap (k3 + 1) 9 _ s4 (by omega)).mono ?_; rintro e w4a ⟨r, rfl, hd, s4a, g4a⟩
    have hd0 := hd.1
    have hd2 : r < 9 := hd.2.1 (by omega)
    obtain ⟨j2, rfl⟩ := Int.eq_ofNat_of_zero_le hd0
    have G4a := grown_trans G4 g4a
    have z4a := g4a.size
    have ox4a := ox4.kept g4a (.inr (by rw [ownBlock_slice]; simp; omega))
    have lt4a := s4a.lt
    clear hd hd0 ox4 oy4 s4 g4a G4
    go_wp2_with fail
    refine (l1LinesF N b a n cap (k3 + 1 + 1) j2 _ s4a (by omega) (by omega)).mono ?_; rintro e w4b ⟨y2, gb2, cb2, k4b, rfl, ly2, my2, oy4b, s4b, hk4b, g4b⟩
    have G4b := grown_trans G4a g4b
    have z4b := g4b.size
    have ox4b := ox4a.kept g4b (.inr (by rw [ownBlock_slice]; simp; omega))
    have hgb2 := (oy4b.lt gb2 rfl).1
    have my9 : Small 9 y2 := my2.small.mono (by omega)
    clear ox4a s4a g4b G4a
    go_wp2_with fail
    refine (l1Chance N b a n cap (k4b) 10 _ s4b (by omega)).mono ?_; rintro e w5 ⟨r5, rfl, s5, g5⟩
    have G5 := grown_trans G4b g5
    have z5 := g5.size
    have ox5 := ox4b.kept g5 (.inr (by rw [ownBlock_slice]; simp; omega))
    have oy5 := oy4b.kept g5 (.inr (by rw [ownBlock_slice]; simp; omega))
    clear ox4b oy4b s4b g5 G4b
    cases r5 with
    | true =>
      go_wp2_with fail
      refine (l1BentD N b w1.heap.size a n cap (k4b + 1) xs ga ca _ s5 (by omega) lt1 (by omega) mx9 ox5).mono ?_; rintro e w6 ⟨xa, xc, us, rfl, Sx, lu, mu, cu, g6, ⟨xg, rfl⟩, k6, s6, hk6⟩
      have G6 := grown_trans G5 g6
      have z6 := g6.size
      have oy6 := oy5.kept g6 (.inr (by rw [ownBlock_slice]; simp; omega))
      clear ox5 oy5 s5 g6 G5
      go_wp2_with fail
      refine (l1Chance N b a n cap k6 10 _ s6 (by omega)).mono ?_; rintro e w7 ⟨r7, rfl, s7, g7⟩
      have G7 := grown_trans G6 g7
      have z7 := g7.size
      have oy7 := oy6.kept g7 (.inr (by rw [ownBlock_slice]; simp; omega))
      have Sx7 := Sx.src s6 g7
      clear Sx oy6 s6 g7 G6
      cases r7 with
      | true =>
        go_wp2_with fail
        refine (l1BentD N b w4a.heap.size a n cap (k6 + 1) y2 gb2 cb2 _ s7 (by omega) (by omega) (by omega) my9 oy7).mono ?_; rintro e w8 ⟨ya, yc, vs, rfl, Sy, lv, mv, cv, g8, ⟨yg, rfl⟩, k8, s8, hk8⟩
        have G8 := grown_trans G7 g8
        have Sx8 := Sx7.src s7 g8
        clear Sx7 oy7 s7 g8 G7
        go_wp2_with fail
        refine bodyPost_ret (v := .tuple #[.slice (some ⟨xg, 0, none⟩) us.length xc, .slice (some ⟨yg, 0, none⟩) vs.length yc]) (by simp [results, Try.results52, go_sem]) rfl ?_
        exact ⟨_, xc, us, _, yc, vs, rfl, Sx8, Sy, lu, lv, mu, mv, cu, cv, G8, ⟨_, rfl⟩, ⟨_, rfl⟩, _, s8, by omega⟩
      | false =>
        go_wp2_with fail
        refine bodyPost_ret (v := .tuple #[.slice (some ⟨xg, 0, none⟩) us.length xc, .slice (some ⟨gb2, 0, none⟩) y2.length cb2]) (by simp [results, Try.results52, go_sem]) rfl ?_
        exact ⟨_, xc, us, _, _, y2, rfl, Sx7, SS_ownN oy7 (my9.sizesN (by omega)), lu, by omega, mu, my9, cu, ownCap oy7, G7, ⟨_, rfl⟩, ⟨_, rfl⟩, _, s7, by omega⟩
    | false =>
      go_wp2_with fail
      refine (l1Chance N b a n cap (k4b + 1) 10 _ s5 (by omega)).mono ?_; rintro e w7 ⟨r7, rfl, s7, g7⟩
      have G7 := grown_trans G5 g7
      have z7 := g7.size
      have oy7 := oy5.kept g7 (.inr (by rw [ownBlock_slice]; simp; omega))
      have ox7 := ox5.kept g7 (.inr (by rw [ownBlock_slice]; simp; omega))
      have Sx7 := SS_ownN ox7 (mx9.sizesN (by omega))
      clear oy5 ox5 ox7 s5 g7 G5
      cases r7 with
      | true =>
        go_wp2_with fail
        refine (l1BentD N b w4a.heap.size a n cap (k4b + 1 + 1) y2 gb2 cb2 _ s7 (by omega) (by omega) (by omega) my9 oy7).mono ?_; rintro e w8 ⟨ya, yc, vs, rfl, Sy, lv, mv, cv, g8, ⟨yg, rfl⟩, k8, s8, hk8⟩
        have G8 := grown_trans G7 g8
        have Sx8 := Sx7.src s7 g8
        clear Sx7 oy7 s7 g8 G7
        go_wp2_with fail
        refine bodyPost_ret (v := .tuple #[.slice (some ⟨ga, 0, none⟩) xs.length ca, .slice (some ⟨yg, 0, none⟩) vs.length yc]) (by simp [results, Try.results52, go_sem]) rfl ?_
        exact ⟨_, _, xs, _, yc, vs, rfl, Sx8, Sy, by omega, lv, mx9, mv, cX, cv, G8, ⟨_, rfl⟩, ⟨_, rfl⟩, _, s8, by omega⟩
      | false =>
        go_wp2_with fail
        refine bodyPost_ret (v := .tuple #[.slice (some ⟨ga, 0, none⟩) xs.length ca, .slice (some ⟨gb2, 0, none⟩) y2.length cb2]) (by simp [results, Try.results52, go_sem]) rfl ?_
        exact ⟨_, _, xs, _, _, y2, rfl, Sx7, SS_ownN oy7 (my9.sizesN (by omega)), by omega, by omega, mx9, my9, cX, ownCap oy7, G7, ⟨_, rfl⟩, ⟨_, rfl⟩, _, s7, by omega⟩
  | false =>
    go_wp2_with fail
    refine (l1Chance N b a n cap ((k3 + 1)) 10 _ s4 (by omega)).mono ?_; rintro e w5 ⟨r5, rfl, s5, g5⟩
    have G5 := grown_trans G4 g5
    have z5 := g5.size
    have ox5 := ox4.kept g5 (.inr (by rw [ownBlock_slice]; simp; omega))
    have oy5 := oy4.kept g5 (.inr (by rw [ownBlock_slice]; simp; omega))
    clear ox4 oy4 s4 g5 G4
    cases r5 with
    | true =>
      go_wp2_with fail
      refine (l1BentD N b w1.heap.size a n cap ((k3 + 1) + 1) xs ga ca _ s5 (by omega) lt1 (by omega) mx9 ox5).mono ?_; rintro e w6 ⟨xa, xc, us, rfl, Sx, lu, mu, cu, g6, ⟨xg, rfl⟩, k6, s6, hk6⟩
      have G6 := grown_trans G5 g6
      have z6 := g6.size
      have oy6 := oy5.kept g6 (.inr (by rw [ownBlock_slice]; simp; omega))
      clear ox5 oy5 s5 g6 G5
      go_wp2_with fail
      refine (l1Chance N b a n cap k6 10 _ s6 (by omega)).mono ?_; rintro e w7 ⟨r7, rfl, s7, g7⟩
      have G7 := grown_trans G6 g7
      have z7 := g7.size
      have oy7 := oy6.kept g7 (.inr (by rw [ownBlock_slice]; simp; omega))
      have Sx7 := Sx.src s6 g7
      clear Sx oy6 s6 g7 G6
      cases r7 with
      | true =>
        go_wp2_with fail
        refine (l1BentD N b w2.heap.size a n cap (k6 + 1) ys gb cb _ s7 (by omega) (by omega) (by omega) my oy7).mono ?_; rintro e w8 ⟨ya, yc, vs, rfl, Sy, lv, mv, cv, g8, ⟨yg, rfl⟩, k8, s8, hk8⟩
        have G8 := grown_trans G7 g8
        have Sx8 := Sx7.src s7 g8
        clear Sx7 oy7 s7 g8 G7
        go_wp2_with fail
        refine bodyPost_ret (v := .tuple #[.slice (some ⟨xg, 0, none⟩) us.length xc, .slice (some ⟨yg, 0, none⟩) vs.length yc]) (by simp [results, Try.results52, go_sem]) rfl ?_
        exact ⟨_, xc, us, _, yc, vs, rfl, Sx8, Sy, lu, lv, mu, mv, cu, cv, G8, ⟨_, rfl⟩, ⟨_, rfl⟩, _, s8, by omega⟩
      | false =>
        go_wp2_with fail
        refine bodyPost_ret (v := .tuple #[.slice (some ⟨xg, 0, none⟩) us.length xc, .slice (some ⟨gb, 0, none⟩) ys.length cb]) (by simp [results, Try.results52, go_sem]) rfl ?_
        exact ⟨_, xc, us, _, _, ys, rfl, Sx7, SS_ownN oy7 (my.sizesN (by omega)), lu, by omega, mu, my, cu, ownCap oy7, G7, ⟨_, rfl⟩, ⟨_, rfl⟩, _, s7, by omega⟩
    | false =>
      go_wp2_with fail
      refine (l1Chance N b a n cap ((k3 + 1) + 1) 10 _ s5 (by omega)).mono ?_; rintro e w7 ⟨r7, rfl, s7, g7⟩
      have G7 := grown_trans G5 g7
      have z7 := g7.size
      have oy7 := oy5.kept g7 (.inr (by rw [ownBlock_slice]; simp; omega))
      have ox7 := ox5.kept g7 (.inr (by rw [ownBlock_slice]; simp; omega))
      have Sx7 := SS_ownN ox7 (mx9.sizesN (by omega))
      clear oy5 ox5 ox7 s5 g7 G5
      cases r7 with
      | true =>
        go_wp2_with fail
        refine (l1BentD N b w2.heap.size a n cap ((k3 + 1) + 1 + 1) ys gb cb _ s7 (by omega) (by omega) (by omega) my oy7).mono ?_; rintro e w8 ⟨ya, yc, vs, rfl, Sy, lv, mv, cv, g8, ⟨yg, rfl⟩, k8, s8, hk8⟩
        have G8 := grown_trans G7 g8
        have Sx8 := Sx7.src s7 g8
        clear Sx7 oy7 s7 g8 G7
        go_wp2_with fail
        refine bodyPost_ret (v := .tuple #[.slice (some ⟨ga, 0, none⟩) xs.length ca, .slice (some ⟨yg, 0, none⟩) vs.length yc]) (by simp [results, Try.results52, go_sem]) rfl ?_
        exact ⟨_, _, xs, _, yc, vs, rfl, Sx8, Sy, by omega, lv, mx9, mv, cX, cv, G8, ⟨_, rfl⟩, ⟨_, rfl⟩, _, s8, by omega⟩
      | false =>
        go_wp2_with fail
        refine bodyPost_ret (v := .tuple #[.slice (some ⟨ga, 0, none⟩) xs.length ca, .slice (some ⟨gb, 0, none⟩) ys.length cb]) (by simp [results, Try.results52, go_sem]) rfl ?_
        exact ⟨_, _, xs, _, _, ys, rfl, Sx7, SS_ownN oy7 (my.sizesN (by omega)), by omega, by omega, mx9, my, cX, ownCap oy7, G7, ⟨_, rfl⟩, ⟨_, rfl⟩, _, s7, by omega⟩

set_option maxHeartbeats 800000 in
theorem l1Pick (N b : Nat) (a : Option Addr) (n cap : Nat) (k : Int) (g m c : Nat) (P : Int → Prop) (w : World) (h : Src N w b a n cap k) (hk : k ≤ 4294967296) (hm : 0 < m) (hm2 : m ≤ 1000) (hg : g ≠ b) (_ : g < w.heap.size)
    (hl : ∀ j, j < m → ∃ v, w.cell? ⟨g, j, none⟩ = some (.int .i64 v) ∧ P v) :
    Calls Try.prog 64 #[.pointer (some ⟨b, 0, none⟩), .slice (some ⟨g, 0, none⟩) m c] w fun e w' => ∃ v, e = .returned (.int .i64 v) ∧ P v ∧ Src N w' b a n cap (k + 1) ∧ w.grownBy w' (some b) := by
  have hlt := h.lt
  go_enter Try.func64, Try.ntmps64
  go_wp2_with fail
  refine (l1Next N b a n cap k m _ h hk).mono ?_; rintro e w2 ⟨r, rfl, hd, hs, gg⟩
  have hd0 := hd.1
  have hd1 : r < m := hd.2.1 (by omega)
  obtain ⟨j, rfl⟩ := Int.eq_ofNat_of_zero_le hd0
  have hj : j < m := by omega
  obtain ⟨v, hv, hP⟩ := hl j hj
  have hv2 : w2.cell? ⟨g, j, none⟩ = some (.int .i64 v) := gg.cell hv (by simp; exact hg)
  clear hd hd0 hl hv
  go_wp2_with fail
  go_ret
  exact ⟨v, rfl, hP, hs, gg⟩
def HoPost (w : World) (e : Ending) (w' : World) : Prop := ∃ (g1 : Nat) (c1 : Nat) (xs : List ByteArray) (g2 : Nat) (c2 : Nat) (ys : List ByteArray) (cx : Int), e = .returned (.tuple #[.slice (some ⟨g1, 0, none⟩) xs.length c1, .slice (some ⟨g2, 0, none⟩) ys.length c2, .int .i64 cx]) ∧ SS w' (some ⟨g1, 0, none⟩) xs ∧ SS w' (some ⟨g2, 0, none⟩) ys ∧ xs.length ≤ 1000 ∧ ys.length ≤ 1000 ∧ tot xs ≤ 9000 ∧ tot ys ≤ 9000 ∧ xs.length ≤ c1 ∧ ys.length ≤ c2 ∧ Below w.heap.size w w'
set_option maxRecDepth 20000 in
set_option maxHeartbeats 1600000 in
theorem drawHunksOf (a : Option Addr) (n cap : Nat) (w : World) (h : Bts w a n) (hn : n ≤ 2097152) :
    Calls Try.prog 31 #[.slice a n cap] w fun e w' => HoPost w e w' := by
  go_enter Try.func31, Try.ntmps31
  go_wp2_with fail
  refine (l1Source a n cap _ h (by omega)).mono ?_; rintro e w1 ⟨rfl, hs1, hb1⟩
  go_wp2_with fail
  refine (l2TwoD _ _ a n cap 0 _ hs1 (by omega)).mono ?_; rintro e w2 ⟨a1, c1, xs, a2, c2, ys, rfl, S1, S2, l1, l2, m1, m2, q1, q2, gr, ⟨g1, rfl⟩, ⟨g2, rfl⟩, k2, hs2, hk2⟩
  have t1 := m1.totN
  have t2 := m2.totN
  have HB : Below w.heap.size w w2 := hb1.grown gr hb1.size (fun j hj => by cases hj; exact Nat.le_refl _)
  have z2 := HB.size
  have lt2 := hs2.lt
  clear hb1 gr hs1 m1 m2
  obtain ⟨W3, hW3⟩ : ∃ W, w2.alloc (.cells #[.int .i64 1, .int .i64 2, .int .i64 0, .int .i64 3, .int .i64 5, .int .i64 6, .int .i64 (-1)] 2) = W := ⟨_, rfl⟩
  have b3 : Below w2.heap.size w2 W3 := by rw [← hW3]; exact allocBelow _ _
  have zW : w2.heap.size < W3.heap.size := by rw [← hW3]; simp
  have hcs : ∀ j, j < 7 → ∃ v, W3.cell? ⟨w2.heap.size, j, none⟩ = some (.int .i64 v) ∧ True := by
    intro j hj
    have hc : ∀ i, W3.cell? ⟨w2.heap.size, i, none⟩ = _ := fun i => cell_of_row W3 w2.heap.size i _ _ _ (by rw [← hW3]; exact heap_alloc_new w2 _)
    rw [hc]
    have : j = 0 ∨ j = 1 ∨ j = 2 ∨ j = 3 ∨ j = 4 ∨ j = 5 ∨ j = 6 := by omega
    rcases this with rfl | rfl | rfl | rfl | rfl | rfl | rfl <;> exact ⟨_, rfl, trivial⟩
  have hP := l1Pick w.heap.size w.heap.size a n cap k2 w2.heap.size 7 7 (fun _ => True) W3 (hs2.below b3) (by omega) (by omega) (by omega) (by omega) zW hcs
  go_wp2_with fail
  refine hP.mono ?_; rintro e w4 ⟨cx, rfl, _, hs4, g4⟩
  have HB4 : Hid (Below w.heap.size w w4) := (HB.trans (b3.mono z2)).grown g4 (by omega) (fun j hj => by cases hj; exact Nat.le_refl _)
  have S14 := (S1.below b3).src (hs2.below b3) g4
  have S24 := (S2.below b3).src (hs2.below b3) g4
  clear hP hW3 hcs b3 S1 S2 HB g4
  go_wp2_with fail
  refine bodyPost_ret (v := .tuple #[.slice (some ⟨g1, 0, none⟩) xs.length c1, .slice (some ⟨g2, 0, none⟩) ys.length c2, .int .i64 cx]) (by simp [results, Try.results31, go_sem]) rfl ?_
  exact ⟨g1, c1, xs, g2, c2, ys, cx, rfl, S14, S24, l1, l2, by omega, by omega, q1, q2, HB4.out⟩
end Go.Proofs.Ytepbkaidlffaiaa
