/- The contract of the specification's l5Store: a store that is drawn. No statement is proved here. -/
import Derived.Test.YtnififnogdekiaaRows
import Derived.Test.YtnififnogdekiaaLemQ
import Derived.Test.YtnififnogdekiaaMarksQ
import Derived.Test.YtnififnogdekiaaLFLemQ
import Derived.Test.YtnififnogdekiaaDTabQ
import Derived.Test.YtnififnogdekiaaInQ
import Derived.Test.YtnififnogdekiaaHkTQ
import Derived.Test.YtnififnogdekiaaIdMQ
import Derived.Test.YtnififnogdekiaaObLQ
import Derived.Test.YtnififnogdekiaaGtSQ
import Derived.Test.YtnififnogdekiaaShMQ
import Derived.Test.YtnififnogdekiaaShQQ
import Derived.Test.YtnififnogdekiaaPuLQ
import Derived.Test.YtnififnogdekiaaOcAQ
import Derived.Test.YtnififnogdekiaaPuSQ
import Derived.Test.YtnififnogdekiaaJoinCQ
import Derived.Test.YtnififnogdekiaaDrawQ
import Derived.Test.YtnififnogdekiaaDraw5Q
import Derived.Test.YtnififnogdekiaaDraw7Q
import Derived.Test.YtnififnogdekiaaDraw8Q
import Derived.Test.YtnififnogdekiaaDraw10Q
import Derived.WalkKit
import Derived.ProofKit
import Derived.Below
import Derived.WalkSpells
import Derived.Maps.AppendAt
namespace Go.Proofs.Ytnififnogdekiaa
open Go.ChangeShapes Go.WideShapes Go.ChangeAt Go.RowKit

/-- Objects that are not long. -/
def SmZ (z : Nat) (l : List Ob) : Prop := l.length ≤ 201 ∧ ∀ o ∈ l, o.1.size ≤ 10 ∧ o.2.2.size ≤ z
abbrev SmO (l : List Ob) : Prop := SmZ 101 l
theorem SmZ.up {z y : Nat} {l : List Ob} (h : SmZ z l) (hz : z ≤ y) : SmZ y l := ⟨h.1, fun o ho => ⟨(h.2 o ho).1, Nat.le_trans (h.2 o ho).2 hz⟩⟩
theorem setO_same (l : List Ob) (i : Nat) (X : Ob) (h : i < l.length) : (l.set i X).getD i onil = X := by simp [List.getD, h]
theorem setO_other (l : List Ob) (i j : Nat) (X : Ob) (h : ¬ j = i) : (l.set i X).getD j onil = l.getD j onil := by
  rw [List.getD, List.getD, List.getElem?_set_ne (by omega)]
theorem ocells_data (l : List Ob) (i : Nat) (d : ByteArray) (hi : i < l.length) : (ocells l).set (i * 3 + 2) (.string d) = ocells (l.set i ((l.getD i onil).1, (l.getD i onil).2.1, d)) := by
  unfold ocells
  rw [rowG_set, List.length_set]
  refine rowG_congr fun j _ => ?_
  by_cases h0 : j = i * 3 + 2
  · subst h0
    rw [if_pos rfl, ocell2, setO_same l i _ hi]
  · rw [if_neg h0]
    unfold ocell
    by_cases e : j / 3 = i
    · rw [e, setO_same l i _ hi]
      by_cases h1 : j % 3 = 0
      · rw [if_pos h1, if_pos h1]
      · rw [if_neg h1, if_neg h1, if_pos (by omega), if_pos (by omega)]
    · rw [setO_other l i (j / 3) _ e]
theorem ocells_kind (l : List Ob) (i : Nat) (x : Int) (hi : i < l.length) : (ocells l).set (i * 3 + 1) (.int .i64 x) = ocells (l.set i ((l.getD i onil).1, x, (l.getD i onil).2.2)) := by
  unfold ocells
  rw [rowG_set, List.length_set]
  refine rowG_congr fun j _ => ?_
  by_cases h0 : j = i * 3 + 1
  · subst h0
    rw [if_pos rfl, ocell1, setO_same l i _ hi]
  · rw [if_neg h0]
    unfold ocell
    by_cases e : j / 3 = i
    · rw [e, setO_same l i _ hi]
      by_cases h1 : j % 3 = 0
      · rw [if_pos h1, if_pos h1]
      · rw [if_neg h1, if_neg h1, if_neg (by omega), if_neg (by omega)]
    · rw [setO_other l i (j / 3) _ e]
theorem SmZ.set {z : Nat} {l : List Ob} (h : SmZ z l) (i : Nat) {X : Ob} (hX : X.1.size ≤ 10 ∧ X.2.2.size ≤ z) : SmZ z (l.set i X) := by
  refine ⟨by rw [List.length_set]; exact h.1, fun x hx => ?_⟩
  rcases List.mem_or_eq_of_mem_set hx with hx | rfl
  · exact h.2 x hx
  · exact hX
theorem idN_small (k : Int) (d : ByteArray) : (idN k d).size ≤ 10 := by
  have := idB_size (idB_idN k d)
  omega
theorem pL_sm {l : List Ob} {k : Int} {d : ByteArray} (h : SmZ 100 l) (hl : l.length ≤ 199) (hd : d.size ≤ 90) (hc : pC l k d = 0) : SmZ 100 (pL l k d) ∧ (pL l k d).length ≤ l.length + 1 ∧ (∀ o ∈ pL l k d, o ∈ l ∨ o = (idN k d, k, d)) := by
  unfold pL
  rw [if_pos hc]
  split
  · exact ⟨h, by omega, fun o ho => .inl ho⟩
  · have hp := insO_perm l (idN k d, k, d)
    have hm : ∀ o ∈ insO l (idN k d, k, d), o ∈ l ∨ o = (idN k d, k, d) := fun o ho => by
      rcases List.mem_append.1 (hp.mem_iff.1 ho) with h1 | h1
      · exact .inl h1
      · exact .inr (List.mem_singleton.1 h1)
    have hlen : (insO l (idN k d, k, d)).length = l.length + 1 := by rw [hp.length_eq]; simp
    refine ⟨⟨by omega, fun o ho => ?_⟩, by omega, hm⟩
    rcases hm o ho with h1 | rfl
    · exact h.2 o h1
    · exact ⟨idN_small k d, by show d.size ≤ 100; omega⟩
theorem ownNil' {w : World} {base : Nat} {e : TypeId} {s : Nat} {a : Option Addr} {n c : Nat} {xs : List Value} (h : w.ownsRow base e s (.slice a n c) n xs) : n ≤ c := by
  rcases h.2 with ⟨h', h0⟩ | ⟨g, cc, cur, h', _, _, hn, _⟩
  · simp only [Value.slice.injEq] at h'; omega
  · simp only [Value.slice.injEq] at h'
    obtain ⟨rfl, _, rfl⟩ := h'
    exact hn
theorem shapeO5 {w : World} {base : Nat} {e : TypeId} {s : Nat} {v : Value} {n : Nat} {xs : List Value} (h : w.ownsRow base e s v n xs) : ∃ a c, v = .slice a n c := by
  rcases h.2 with ⟨h', h0'⟩ | ⟨g, c, cur, h', _⟩
  · exact ⟨none, 0, by rw [h', h0']⟩
  · exact ⟨_, _, h'⟩
theorem ownDn {w : World} {base b : Nat} {e : TypeId} {s : Nat} {v : Value} {n : Nat} {xs : List Value} (h : w.ownsRow base e s v n xs) (hb : b ≤ base) : w.ownsRow b e s v n xs := by
  refine ⟨h.1, ?_⟩
  rcases h.2 with h' | ⟨g, cap, cur, h1, h2, h3⟩
  · exact .inl h'
  · exact .inr ⟨g, cap, cur, h1, by omega, h3⟩
def StPost (N b : Nat) (a : Option Addr) (n cap : Nat) (k : Int) (w : World) (e : Ending) (w' : World) : Prop := ∃ (g c : Nat) (l : List Ob), e = .returned (.slice (some ⟨g, 0, none⟩) l.length c) ∧ w'.ownsRow w.heap.size 31 3 (.slice (some ⟨g, 0, none⟩) l.length c) l.length (ocells l) ∧ SmO l ∧ w.grownBy w' (some b) ∧ ∃ k', Src N w' b a n cap k' ∧ k' ≤ k + 200
theorem smallTot {l : List ByteArray} {m : Nat} (h : SmL 8 l) (hl : l.length ≤ m) : tot l ≤ m * 8 := by
  have := h.small.totN
  have h2 : l.length * 8 ≤ m * 8 := Nat.mul_le_mul_right _ hl
  omega

theorem pick3' {w W : World} {x0 x1 x2 : Int} {t : TypeId} (h : w.alloc (.cells #[.int .i64 x0, .int .i64 x1, .int .i64 x2] t) = W) : ∀ j, j < 3 → ∃ v, W.cell? ⟨w.heap.size, j, none⟩ = some (.int .i64 v) ∧ True := by
  intro j hj
  have hc : ∀ i, W.cell? ⟨w.heap.size, i, none⟩ = _ := fun i => cell_of_row W w.heap.size i _ _ _ (by rw [← h]; exact heap_alloc_new w _)
  rw [hc]
  have : j = 0 ∨ j = 1 ∨ j = 2 := by omega
  rcases this with rfl | rfl | rfl <;> exact ⟨_, rfl, trivial⟩
theorem ocells_at {w : World} {base g c : Nat} {l : List Ob} (o3 : w.ownsRow base 31 3 (.slice (some ⟨g, 0, none⟩) l.length c) l.length (ocells l)) {i : Nat} (hi : i < l.length) :
    w.cell? ⟨g, i * 3, none⟩ = some (.string (l.getD i onil).1) ∧ w.cell? ⟨g, i * 3 + 1, none⟩ = some (.int .i64 (l.getD i onil).2.1) ∧ w.cell? ⟨g, i * 3 + 2, none⟩ = some (.string (l.getD i onil).2.2) := by
  refine ⟨?_, ?_, ?_⟩
  · rw [o3.cellAt (i * 3) (by omega)]; unfold ocells; rw [rowG_at _ _ _ (by omega), ocell0]
  · rw [o3.cellAt (i * 3 + 1) (by omega)]; unfold ocells; rw [rowG_at _ _ _ (by omega), ocell1]
  · rw [o3.cellAt (i * 3 + 2) (by omega)]; unfold ocells; rw [rowG_at _ _ _ (by omega), ocell2]
set_option maxRecDepth 20000 in
set_option maxHeartbeats 8000000 in
theorem l5Store (N b : Nat) (a : Option Addr) (n cap : Nat) (k : Int) (w : World) (h : Src N w b a n cap k) (hk : k ≤ 100000) :
    Calls Try.prog 16 #[.pointer (some ⟨b, 0, none⟩)] w fun e w' => StPost N b a n cap k w e w' := by
  have hlt := h.lt
  have W0 : ∀ o, Below w.heap.size w (w.alloc o) := fun o => allocBelow w o
  have o0 : (w.alloc (.cells #[] 31)).ownsRow w.heap.size 31 3 (.slice (some ⟨w.heap.size, 0, none⟩) 0 0) ([] : List Ob).length (ocells []) := World.ownsRow_lit w #[] 0 (Nat.le_refl _) (Nat.zero_le _) rfl
  go_enter Try.func16, Try.ntmps16
  go_wp2_with fail
  refine (l1Next N b a n cap k 6 _ (h.below (W0 _)) (by omega)).mono ?_; rintro e w1 ⟨r, rfl, hd, s1, g1⟩
  have hd0 := hd.1
  have hd1 : r < 6 := hd.2.1 (by omega)
  obtain ⟨j0, rfl⟩ := Int.eq_ofNat_of_zero_le hd0
  have o1 := o0.kept g1 (.inr (by rw [ownBlock_slice]; simp; omega))
  have G1 : w.grownBy w1 (some b) := grown_trans (World.grownBy_alloc w _ (some b)) g1
  clear hd hd0 o0 g1 W0 h
  go_wp2
  go_loopw [3, 4, 5, 6, 7] (fun v i _x _y _z wr => ∃ (m g c : Nat) (l : List Ob) (k' : Int), i = .int .i64 m ∧ v = .slice (some ⟨g, 0, none⟩) l.length c ∧ l.length + m ≤ 6 ∧ SmZ 100 l ∧
      wr.ownsRow w.heap.size 31 3 (.slice (some ⟨g, 0, none⟩) l.length c) l.length (ocells l) ∧ Src N wr b a n cap k' ∧ k' + 10 * m ≤ k + 100 ∧ w.grownBy wr (some b)) (fun _ i _ _ _ _ => (intOf i).toNat)
  case atStart => exact ⟨j0, w.heap.size, 0, [], k + 1, rfl, rfl, by simp; omega, ⟨by simp, fun o ho => by cases ho⟩, o1, s1, by omega, G1⟩
  case round =>
    clear o1 s1 G1
    obtain ⟨m, g, c, l, k', rfl, rfl, hm, hsm, hown, hsrc, hkm, hgr⟩ := hrel
    by_cases hpos : 0 < m
    · have hp : (0 : Int) < (m : Int) := by omega
      go_wp2_with fail
      refine (l1Next N b a n cap k' 3 _ hsrc (by omega)).mono ?_; rintro e w2 ⟨kd, rfl, hd, s2, g2⟩
      have hk0 := hd.1
      have hk3 : kd < 3 := hd.2.1 (by omega)
      have o2 := hown.kept g2 (.inr (by rw [ownBlock_slice]; have := (hown.lt g rfl).1; simp; omega))
      have G2 := grown_trans hgr g2
      clear hd hown hsrc hgr g2
      go_wp2_with fail
      refine (l1Next N b a n cap (k' + 1) 4 _ s2 (by omega)).mono ?_; rintro e w3 ⟨r3, rfl, hd, s3, g3⟩
      have h30 := hd.1
      have h34 : r3 < 4 := hd.2.1 (by omega)
      obtain ⟨j3, rfl⟩ := Int.eq_ofNat_of_zero_le h30
      have o3 := o2.kept g3 (.inr (by rw [ownBlock_slice]; have := (o2.lt g rfl).1; simp; omega))
      have G3 := grown_trans G2 g3
      clear hd o2 s2 G2 g3 h30
      go_wp2_with fail
      refine (l1LinesF N b a n cap (k' + 1 + 1) j3 _ s3 (by omega) (by omega)).mono ?_; rintro e w4 ⟨ss, ga, ca, k4, rfl, lx, mx, ox, s4, hk4, g4⟩
      have o4 := o3.kept g4 (.inr (by rw [ownBlock_slice]; have := (o3.lt g rfl).1; simp; omega))
      have G4 := grown_trans G3 g4
      have ht := smallTot mx lx
      have hS := SS_ownN ox (mx.small.sizesN (by omega))
      clear o3 s3 G3 g4 ox
      go_wp2_with fail
      refine (l1Join (some ⟨ga, 0, none⟩) ca ss _ hS (by omega) (by omega)).mono ?_; rintro e w4 ⟨rfl, rfl⟩
      have hz := catB_size ss
      obtain ⟨D, hD⟩ : ∃ D, catB ss = D := ⟨_, rfl⟩
      rw [hD] at hz ⊢
      have hdz : D.size ≤ 90 := by omega
      have hin : inB (1 + kd) 1 3 = true := decide_eq_true (p := 1 ≤ 1 + kd ∧ 1 + kd ≤ 3) ⟨by omega, by omega⟩
      have hPu := l5Put g 0 c l (1 + kd) D w4 (OB.of o4) (ownNil' o4) (by omega) hin (by omega)
      have hsL := fun (hc : pC l (1 + kd) D = 0) => pL_sm (l := l) (k := 1 + kd) (d := D) hsm (by omega) hdz hc
      clear hD hS hz mx lx ht
      go_wp2_with fail
      refine hPu.mono ?_; rintro e w5 ⟨v5, rfl, hn5, o5, b5⟩
      have o45 := o4.kept (grown_of_below b5 none) (.inr (by rw [ownBlock_slice]; simp))
      have s5 := s4.below b5
      have G5 : w.grownBy w5 (some b) := grown_new G4 (grown_of_below b5 none) (fun j hj => by cases hj)
      have zz := G4.size
      obtain ⟨va, vc, ev⟩ := shapeO5 o5
      subst ev
      by_cases hc : pC l (1 + kd) D = 0
      · obtain ⟨q1, q2, _⟩ := hsL hc
        have q0 : (pC l (1 + kd) D == 0) = true := by rw [hc]; rfl
        obtain ⟨g', rfl⟩ : ∃ g', va = some ⟨g', 0, none⟩ := by
          rcases o5.2 with ⟨e, _⟩ | ⟨g', c', cur, e, _⟩
          · exact absurd e (hn5 hc)
          · simp only [Value.slice.injEq] at e; exact ⟨g', e.1⟩
        have o5' := ownDn o5 zz
        obtain ⟨L5, hL5⟩ : ∃ L, pL l (1 + kd) D = L := ⟨_, rfl⟩
        rw [hL5] at q1 q2 o5' ⊢
        clear hPu o4 s4 G4 o45 b5 hsL hL5 hn5 hc o5
        go_wp2
        go_roundw
        case rel => exact ⟨m - 1, g', vc, L5, k4, by go_num, rfl, by omega, q1, o5', s5, by omega, G5⟩
        case measure => simp [intOf]; omega
      · have q0 : (pC l (1 + kd) D == 0) = false := by simpa using hc
        clear hPu o4 s4 G4 b5 hsL hn5 hc o5
        go_wp2
        go_roundw
        case rel => exact ⟨m - 1, g, c, l, k4, by go_num, rfl, by omega, hsm, o45, s5, by omega, G5⟩
        case measure => simp [intOf]; omega
    · have hp : ¬ (0 : Int) < (m : Int) := by omega
      have hl6 : l.length ≤ 6 := by omega
      have hgg := hown.lt g rfl
      by_cases hL0 : l.length = 0
      · have q : ((l.length : Int) == 0) = true := by rw [hL0]; rfl
        have HF : Hid (StPost N b a n cap k w (.returned (.slice (some ⟨g, 0, none⟩) l.length c)) wr) := ⟨g, c, l, rfl, hown, hsm.up (by omega), hgr, k', hsrc, by omega⟩
        clear hL0 hown hsrc hgr hsm
        go_wp2_with fail
        go_ret
        exact HF.out
      have hlp : 0 < l.length := by omega
      have q : ((l.length : Int) == 0) = false := by simpa using hL0
      clear hL0
      go_wp2_with fail
      refine (l1Next N b a n cap k' _ _ hsrc (by omega)).mono ?_; rintro e w2 ⟨r, rfl, hd, s2, g2⟩
      have hd0 := hd.1
      have hd1 : r < l.length := hd.2.1 (by omega)
      obtain ⟨i, rfl⟩ := Int.eq_ofNat_of_zero_le hd0
      have hi : i < l.length := by omega
      have o2 := hown.kept g2 (.inr (by rw [ownBlock_slice]; simp; omega))
      have G2 := grown_trans hgr g2
      clear hd hd0 hown hsrc hgr g2
      go_wp2_with fail
      refine (l1Next N b a n cap (k' + 1) 24 _ s2 (by omega)).mono ?_; rintro e w3 ⟨r2, rfl, _, s3, g3⟩
      have o3 := o2.kept g3 (.inr (by rw [ownBlock_slice]; simp; omega))
      have G3 := grown_trans G2 g3
      clear o2 s2 G2 g3
      have hX := hsm.2 (l.getD i onil) (ob_mem l i hi)
      have E1 := ocells_kind l i
      have E2 := ocells_data l i
      have C0 : w3.cell? ⟨g, i * 3, none⟩ = some (.string (l.getD i onil).1) := by rw [o3.cellAt (i * 3) (by omega)]; unfold ocells; rw [rowG_at _ _ _ (by omega), ocell0]
      have C1 : w3.cell? ⟨g, i * 3 + 1, none⟩ = some (.int .i64 (l.getD i onil).2.1) := by rw [o3.cellAt (i * 3 + 1) (by omega)]; unfold ocells; rw [rowG_at _ _ _ (by omega), ocell1]
      have C2 : w3.cell? ⟨g, i * 3 + 2, none⟩ = some (.string (l.getD i onil).2.2) := by rw [o3.cellAt (i * 3 + 2) (by omega)]; unfold ocells; rw [rowG_at _ _ _ (by omega), ocell2]
      have hiI : (i : Int) < (l.length : Int) := by omega
      obtain ⟨⟨x0, x1, x2⟩, hCe⟩ : ∃ C, l.getD i onil = C := ⟨_, rfl⟩
      have hOne : Hid (l.getD i onil = (x0, x1, x2)) := hCe
      rw [hCe] at hX C0 C1 C2
      simp only [hCe] at E1 E2
      simp only [] at hX C0 C1 C2 E1 E2
      clear hCe
      have F1 := o3.frozenAt (i * 3 + 1)
      have F2 := o3.frozenAt (i * 3 + 2)
      by_cases q0 : (r2 == 0) = true
      · obtain ⟨Y, hY⟩ : ∃ Y : ByteArray, x2 ++ ⟨#[120]⟩ = Y := ⟨_, rfl⟩
        have hYz : Y.size ≤ 101 := by rw [← hY, ByteArray.size_append]; have := hX.2; have e : (⟨#[120]⟩ : ByteArray).size = 1 := rfl; omega
        have HF : Hid (StPost N b a n cap k w (.returned (.slice (some ⟨g, 0, none⟩) l.length c)) (w3.setCell ⟨g, i * 3 + 2, none⟩ (.string Y))) := by
          obtain ⟨t1, t2⟩ := o3.stored (i * 3 + 2) (.string Y)
          rw [E2 Y hi] at t1
          exact ⟨g, c, l.set i (x0, x1, Y), by rw [List.length_set], by rw [List.length_set]; exact t1, (hsm.up (by omega)).set i ⟨hX.1, hYz⟩, grown_new G3 t2 (fun j hj => by cases hj; omega), _, s3.kept t2 (by simp; omega) (fun j hj => by cases hj; have := s3.ge; omega), by omega⟩
        have hxz : x2.size ≤ 101 := Nat.le_trans hX.2 (by omega)
        clear C0 C1 F1 E1 E2 hX hOne o3 s3 G3
        go_wp2_with fail
        go_ret
        exact HF.out
      have q0' : (r2 == 0) = false := by simpa using q0
      by_cases q1 : (r2 == 1) = true
      · go_wp2_with fail
        refine (l1Next N b a n cap (k' + 1 + 1) 3 _ s3 (by omega)).mono ?_; rintro e w4 ⟨kd, rfl, _, s4, g4⟩
        have o4 := o3.kept g4 (.inr (by rw [ownBlock_slice]; simp; omega))
        have G4 := grown_trans G3 g4
        have hb4 := s4.lt
        have hPk := fun X => l1Pick N b a n cap (k' + 1 + 1 + 1) w4.heap.size 3 3 (fun _ => True) (w4.alloc (.cells #[.int .i64 0, .int .i64 4, .int .i64 X] 2)) (s4.below (allocBelow _ _)) (by omega) (by omega) (by omega) (by omega) (by simp) (pick3' rfl)
        clear o3 s3 G3 g4 C0 C1 C2
        go_wp2_with fail
        refine (hPk _).mono ?_; rintro e w5 ⟨x, rfl, _, s5, g5⟩
        have o5 := (o4.alloc _).kept g5 (.inr (by rw [ownBlock_slice]; simp; omega))
        have G5 := grown_trans (grown_trans G4 (World.grownBy_alloc w4 _ (some b))) g5
        have C5 : w5.cell? ⟨g, i * 3 + 1, none⟩ = some (.int .i64 x1) := by
          have := ocells_at o5 hi
          rw [hOne.out] at this
          exact this.2.1
        have F5 := o5.frozenAt (i * 3 + 1)
        have HF : Hid (StPost N b a n cap k w (.returned (.slice (some ⟨g, 0, none⟩) l.length c)) (w5.setCell ⟨g, i * 3 + 1, none⟩ (.int .i64 x))) := by
          obtain ⟨t1, t2⟩ := o5.stored (i * 3 + 1) (.int .i64 x)
          rw [E1 x hi] at t1
          exact ⟨g, c, l.set i (x0, x, x2), by rw [List.length_set], by rw [List.length_set]; exact t1, (hsm.up (by omega)).set i ⟨hX.1, Nat.le_trans hX.2 (by omega)⟩, grown_new G5 t2 (fun j hj => by cases hj; omega), _, s5.kept t2 (by simp; omega) (fun j hj => by cases hj; have := s5.ge; omega), by omega⟩
        clear E1 E2 hX hOne o4 o5 s4 s5 G4 G5 g5 hPk F1 F2
        go_wp2_with fail
        go_ret
        exact HF.out
      have q1' : (r2 == 1) = false := by simpa using q1
      by_cases q2 : (r2 == 2) = true
      · have hnw : ∀ j u, (ocells [(x0, x1, x2)])[j]? = some u → (w3.alloc (.cells #[.string x0, .int .i64 x1, .string x2] 31)).cell? ((⟨w3.heap.size, 0, none⟩ : Addr).add j) = some u := by
          rw [ocells_one]
          exact newsCells w3 #[.string x0, .int .i64 x1, .string x2] 31
        have o4 := fun o => o3.alloc o
        have z3 := G3.size
        clear E1 E2 F1 F2
        go_wp2_with ((at_builtin; refine wpList_appO rfl (.tmp 69) (.tmp 74) rfl w.heap.size (.slice (some ⟨g, 0, none⟩) l.length c) l rfl (o4 _) ⟨w3.heap.size, 0, none⟩ 1 [(x0, x1, x2)] rfl hnw (by simp; omega) (by simp; omega) ?_; intro v4 w4 p4 g4 n4 k4))
        obtain ⟨va, vc, ev⟩ := shapeO5 p4
        subst ev
        obtain ⟨g', rfl⟩ : ∃ g', va = some ⟨g', 0, none⟩ := by
          rcases p4.2 with ⟨_, h0⟩ | ⟨g', c', cur, e, _⟩
          · simp at h0
          · simp only [Value.slice.injEq] at e; exact ⟨g', e.1⟩
        have HF : Hid (StPost N b a n cap k w (.returned (.slice (some ⟨g', 0, none⟩) (l ++ [(x0, x1, x2)]).length vc)) w4) := by
          refine ⟨g', vc, l ++ [(x0, x1, x2)], rfl, p4, ⟨by rw [List.length_append]; simp; omega, fun o ho => ?_⟩, grown_new (grown_trans G3 (World.grownBy_alloc w3 _ (some b))) g4 (fun j hj => by rw [ownBlock_slice] at hj; cases hj; omega), _, (s3.below (allocBelow w3 _)).kept g4 (by rw [ownBlock_slice]; simp; omega) (fun j hj => by rw [ownBlock_slice] at hj; cases hj; have := s3.ge; omega), by omega⟩
          rcases List.mem_append.1 ho with h1 | h1
          · exact (hsm.up (show 100 ≤ 101 by omega)).2 o h1
          · rw [List.mem_singleton.1 h1]; exact ⟨hX.1, Nat.le_trans hX.2 (by omega)⟩
        clear p4 g4 n4 k4 o4 o3 s3 G3 C0 C1 C2 hX hOne hnw
        go_wp2_with fail
        go_ret
        exact HF.out
      have q2' : (r2 == 2) = false := by simpa using q2
      by_cases q3 : (r2 == 3) = true
      · obtain ⟨i1, hi', hy0, hy1, hy2⟩ := info_parts infoObj
        have z3 := G3.size
        clear C0 C1 C2 F1 F2 E1 E2 hX hOne
        go_wp2_with (at_make; refine wpList_make_full _ rfl _ _ 24 rfl w3.heap.size 31 i1 (.agg #[.string ⟨#[]⟩, .int .i64 0, .string ⟨#[]⟩]) 3 Try.underlying24 hi' hy0 hy1 .i64 .i64 201 201 201 rfl rfl rfl rfl (by rw [hy2]; omega) (by unfold maxLen; omega) (Nat.le_refl _) ?_; intro w4 hown4 hg4)
        have e9 : (madeCells (Value.agg #[.string ⟨#[]⟩, .int .i64 0, .string ⟨#[]⟩]).cells (201 * 3)).toList = ocells (List.replicate 201 onil) := by kernel_rfl
        rw [e9] at hown4
        have HF : Hid (StPost N b a n cap k w (.returned (.slice (some ⟨w3.heap.size, 0, none⟩) 201 201)) w4) := by
          refine ⟨w3.heap.size, 201, List.replicate 201 onil, by rw [List.length_replicate], ?_, ⟨by simp, fun o ho => by rw [List.eq_of_mem_replicate ho]; decide⟩, grown_new G3 hg4 (fun j hj => by cases hj), _, s3.kept hg4 (by simp) (fun j hj => by cases hj), by omega⟩
          rw [List.length_replicate]
          exact ownDn hown4 z3
        clear hown4 hg4 o3 s3 G3
        go_wp2_with fail
        go_ret
        exact HF.out
      have q3' : (r2 == 3) = false := by simpa using q3
      have HF : Hid (StPost N b a n cap k w (.returned (.slice (some ⟨g, 0, none⟩) l.length c)) w3) := ⟨g, c, l, rfl, o3, hsm.up (by omega), G3, _, s3, by omega⟩
      clear C0 C1 C2 F1 F2 E1 E2 hX hOne o3 s3 G3
      go_wp2_with fail
      go_ret
      exact HF.out
end Go.Proofs.Ytnififnogdekiaa
