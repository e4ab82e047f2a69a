/- The contracts of the specification's l2Two and DrawEditCount over this seat's program. No statement is proved here. -/
import Derived.Test.YticagabnaibmgaaRows
import Derived.Test.YticagabnaibmgaaLemQ
import Derived.Test.YticagabnaibmgaaMarksQ
import Derived.Test.YticagabnaibmgaaDrawQ
import Derived.Test.YticagabnaibmgaaDraw5Q
import Derived.Test.YticagabnaibmgaaDraw7Q
import Derived.WalkKit
import Derived.ProofKit
import Derived.Below
import Derived.WalkSpells
namespace Go.Proofs.Yticagabnaibmgaa
open Go.ChangeShapes Go.WideShapes Go.ChangeAt Go.RowKit

/-- Lines are never read from the source's own block. -/
theorem SS.src {N : Nat} {w w' : World} {b : Nat} {a : Option Addr} {n cap : Nat} {k : Int} {x : Option Addr} {ss : List ByteArray} (h : SS w x ss) (hs : Src N w b a n cap k) (hg : w.grownBy w' (some b)) : SS w' x ss :=
  ⟨h.1, fun i hi => by
    obtain ⟨b', off, e, hb, hc⟩ := h.2 i hi
    refine ⟨b', off, e, Nat.lt_of_lt_of_le hb hg.size, hg.cell hc (fun e' => ?_)⟩
    simp only [Option.some.injEq] at e'
    subst e'
    have : w.cell? ⟨b', off + i, none⟩ = (#[Value.slice a n cap, Value.int .i64 k] : Array Value)[off + i]? := cell_of_row w b' (off + i) _ _ _ hs.blk
    rw [this] at hc
    have h3 : off + i = 0 ∨ off + i = 1 ∨ 2 ≤ off + i := by omega
    rcases h3 with h3 | h3 | h3
    · rw [h3] at hc; simp at hc
    · rw [h3] at hc; simp at hc
    · rw [Array.getElem?_eq_none (by simp; omega)] at hc; cases hc⟩
theorem Small.mono {z z' : Nat} {ss : List ByteArray} (h : Small z ss) (hz : z ≤ z') : Small z' ss := fun x hx => Nat.le_trans (h x hx) hz
def TwoPost (b : Nat) (w : World) (e : Ending) (w' : World) : Prop := ∃ (a1 : Option Addr) (c1 : Nat) (xs : List ByteArray) (a2 : Option Addr) (c2 : Nat) (ys : List ByteArray), e = .returned (.tuple #[.slice a1 xs.length c1, .slice a2 ys.length c2]) ∧ SS w' a1 xs ∧ SS w' a2 ys ∧ xs.length ≤ 1000 ∧ ys.length ≤ 1000 ∧ Small 9 xs ∧ Small 9 ys ∧ w.grownBy w' (some b)

end Go.Proofs.Yticagabnaibmgaa
/- The contracts of the specification's l2Two and DrawHunksOf (with capacities, whose rows are whole, and the source behind them) over this seat's program. No statement is proved here. -/
namespace Go.Proofs.Yticagabnaibmgaa
open Go.ChangeShapes Go.WideShapes Go.ChangeAt Go.RowKit

def BentPostD (N b : Nat) (a : Option Addr) (n cap : Nat) (k : Int) (w : World) (e : Ending) (w' : World) : Prop := ∃ (x : Option Addr) (c : Nat) (ss : List ByteArray), e = .returned (.slice x ss.length c) ∧ SS w' x ss ∧ ss.length ≤ 1000 ∧ Small 9 ss ∧ ss.length ≤ c ∧ w.grownBy w' (some b) ∧ (∃ g, x = some ⟨g, 0, none⟩) ∧ ∃ k', Src N w' b a n cap k' ∧ k' ≤ k + 200

set_option maxRecDepth 20000 in
set_option maxHeartbeats 4000000 in
theorem l1BentD (N b base : Nat) (a : Option Addr) (n cap : Nat) (k : Int) (ss : List ByteArray) (g c : Nat) (w : World) (h : Src N w b a n cap k) (hk : k ≤ 1000000) (hb : b < base) (hl : ss.length ≤ 1000) (hsm : Small 9 ss)
    (ho : w.ownsRow base 9 1 (.slice (some ⟨g, 0, none⟩) ss.length c) ss.length (ss.map Value.string)) :
    Calls Try.prog 28 #[.pointer (some ⟨b, 0, none⟩), .slice (some ⟨g, 0, none⟩) ss.length c] w fun e w' => BentPostD N b a n cap k w e w' := by
  obtain ⟨i0, hi, hz0, hz1, hz2⟩ := info_parts infoString
  have hlt := h.lt
  have hge := h.ge
  have hgg := ho.lt g rfl
  by_cases h0 : ((ss.length : Int) == 0) = true
  · have hS := SS_ownN ho (hsm.sizesN (by omega))
    go_enter Try.func28, Try.ntmps28
    go_wp2_with fail
    go_ret
    exact ⟨some ⟨g, 0, none⟩, c, ss, rfl, hS, hl, hsm, ownCap ho, World.grownBy.refl _ _, ⟨_, rfl⟩, k, h, by omega⟩
  have h0' : ((ss.length : Int) == 0) = false := by simpa using h0
  have hpos : 0 < ss.length := by have : ¬ (ss.length : Int) = 0 := by simpa using h0
                                  omega
  have hcells : ∀ (o : Obj) (j : Nat) (u : Value), (ss.map Value.string)[j]? = some u → (w.alloc o).cell? ((⟨g, 0, none⟩ : Addr).add j) = some u := by
    intro o j u hj
    have hjl : j < ss.length := by have := (List.getElem?_eq_some_iff.1 hj).1; simpa using this
    rw [add_plain, Nat.zero_add, World.cell?_alloc_past _ _ _ hgg.2, ho.cellAt j (by omega)]
    exact hj
  go_enter Try.func28, Try.ntmps28
  go_wp2_with (at_builtin; refine wpList_append_own _ rfl (.tmp 12) (.tmp 13) 24 rfl w.heap.size 9 i0 (.string ByteArray.empty) 1 16 Try.underlying24 hi hz0 hz1 hz2 rfl (by decide) (.slice (some ⟨w.heap.size, 0, none⟩) 0 0) 0 [] rfl (World.ownsRow_lit w #[] 0 (Nat.le_refl _) (Nat.zero_le _) rfl) ⟨g, 0, none⟩ ss.length c (ss.map Value.string) rfl (by simp) (hcells _) (by simp [Value.oneCell']) (by unfold maxLen; omega) (by omega) (by simp) ?_; intro v1 w1 hown1 hg1 _; simp only [Nat.zero_add, List.nil_append] at hown1; obtain ⟨g1, c1, rfl⟩ := own_posN hown1 hpos)
  have hB : ∀ o, Below w.heap.size w (w.alloc o) := fun o => (Below.refl _ _).alloc (Nat.le_refl _) _
  have hgg1 := hown1.lt g1 rfl
  have S1 := hg1.size
  simp only [World.size_alloc] at S1
  have hsrc1 : Src N w1 b a n cap k := (h.below (hB _)).kept hg1 (by rw [ownBlock_slice]; simp; omega) (fun j hj => by rw [ownBlock_slice] at hj; cases hj; omega)
  have gr1 : w.grownBy w1 (some b) := grown_new (World.grownBy_alloc w _ (some b)) hg1 (fun j hj => by rw [ownBlock_slice] at hj; cases hj; omega)
  clear hg1 hcells
  refine (l1Next N b a n cap k _ _ hsrc1 (by omega)).mono ?_; rintro e w2 ⟨r, rfl, hd, hsrc2, g2⟩
  have hd0 := hd.1
  have hd1 : r < ss.length := hd.2.1 (by omega)
  obtain ⟨j, rfl⟩ := Int.eq_ofNat_of_zero_le hd0
  have hown2 := hown1.kept g2 (.inr (by rw [ownBlock_slice]; simp; omega))
  have gr2 := grown_trans gr1 g2
  have S2 := g2.size
  clear hown1 gr1 g2 hd hsrc1
  go_wp2_with fail
  refine (l1Next N b a n cap (k + 1) 24 _ hsrc2 (by omega)).mono ?_; rintro e w3 ⟨r2, rfl, _, hsrc3, g3⟩
  have hown3 := hown2.kept g3 (.inr (by rw [ownBlock_slice]; simp; omega))
  have gr3 := grown_trans gr2 g3
  have S3 := g3.size
  clear hown2 gr2 g3 hsrc2
  have hjl : j < ss.length := by omega
  have hfz := hown3.frozenAt j
  have hold := hown3.cellAt j (by omega)
  rw [List.getElem?_eq_getElem (by simp; omega)] at hold
  have fin : Hid (∀ x : ByteArray, x.size ≤ 9 → BentPostD N b a n cap k w (.returned (.slice (some ⟨g1, 0, none⟩) ss.length c1)) (w3.setCell ⟨g1, j, none⟩ (.string x))) := by
    intro x hx
    obtain ⟨hs1, hs2⟩ := hown3.stored j (.string x)
    rw [map_set] at hs1
    have hs3 : (w3.setCell ⟨g1, j, none⟩ (.string x)).ownsRow w.heap.size 9 1 (.slice (some ⟨g1, 0, none⟩) (ss.set j x).length c1) (ss.set j x).length ((ss.set j x).map Value.string) := by simpa using hs1
    exact ⟨some ⟨g1, 0, none⟩, c1, ss.set j x, by simp, SS_ownN hs3 ((hsm.set hx j).sizesN (by omega)), by simpa using hl, hsm.set hx j, ownCap hs3, grown_new gr3 hs2 (fun i hi => by cases hi; omega), ⟨_, rfl⟩, k + 1 + 1, hsrc3.kept hs2 (by simp; omega) (fun i hi => by cases hi; omega), by omega⟩
  by_cases q0 : (r2 == 0) = true
  · go_wp2_with fail
    go_ret
    exact fin.out ⟨#[]⟩ (by decide)
  have q0' : (r2 == 0) = false := by simpa using q0
  by_cases q1 : (r2 == 1) = true
  · go_wp2_with fail
    go_ret
    exact fin.out ⟨#[97, 10, 98, 10]⟩ (by decide)
  have q1' : (r2 == 1) = false := by simpa using q1
  by_cases q2 : (r2 == 2) = true
  · go_wp2_with fail
    go_ret
    exact fin.out ⟨#[113]⟩ (by decide)
  have q2' : (r2 == 2) = false := by simpa using q2
  by_cases q3 : (r2 == 3) = true
  · clear fin hold hfz
    go_wp2_with (at_make; refine wpList_make_full _ rfl _ _ 24 rfl w3.heap.size 9 i0 (.string ByteArray.empty) 1 Try.underlying24 hi hz0 hz1 .i64 .i64 101 101 101 rfl rfl rfl rfl (by rw [hz2]; omega) (by unfold maxLen; omega) (Nat.le_refl _) ?_; intro w4 hown4 hg4)
    have hsrc4 : Src N w4 b a n cap (k + 1 + 1) := hsrc3.kept hg4 (by simp) (fun j hj => by cases hj)
    have gr4 : w.grownBy w4 (some b) := grown_new gr3 hg4 (fun j hj => by cases hj)
    have hown5 : w4.ownsRow w3.heap.size 9 1 (.slice (some ⟨w3.heap.size, 0, none⟩) 101 101) 101 ((List.replicate 101 ByteArray.empty).map Value.string) := by
      have e : (madeCells (Value.string ByteArray.empty).cells (101 * 1)).toList = (List.replicate 101 ByteArray.empty).map Value.string := by
        rw [List.map_replicate]; exact toList_madeCells_one _ _
      rwa [e] at hown4
    clear hown4 hown3 gr3 hsrc3 hg4
    go_loopw [7] (fun i wr => ∃ (q : Nat) (ts : List ByteArray) (m : Int), i = .int .i64 q ∧ q ≤ 101 ∧ ts.length = 101 ∧ Small 9 ts ∧ wr.ownsRow w3.heap.size 9 1 (.slice (some ⟨w3.heap.size, 0, none⟩) 101 101) 101 (ts.map Value.string) ∧ Src N wr b a n cap m ∧ m ≤ k + 2 + q ∧ w.grownBy wr (some b)) (fun i _ => 101 - (intOf i).toNat)
    case atStart => exact ⟨0, List.replicate 101 ByteArray.empty, k + 1 + 1, rfl, by omega, by simp, Small.replicateN _ _, hown5, hsrc4, by omega, gr4⟩
    case round =>
      obtain ⟨q, ts, m, rfl, hq, hts, hst, hor, hsr, hm, hgr⟩ := hrel
      go_wp2_with fail
      refine (l1Next N b a n cap m 2 _ hsr (by omega)).mono ?_; rintro e w6 ⟨r5, rfl, hd, hsr6, g6⟩
      have hd0' := hd.1
      have hd1' : r5 < 2 := hd.2.1 (by omega)
      have hor6 := hor.kept g6 (.inr (by rw [ownBlock_slice]; simp; omega))
      have gr6 := grown_trans hgr g6
      have S6 := g6.size
      clear hor hsr hgr g6 hd
      by_cases hc : (q : Int) < 101 - r5
      · have hfz := hor6.frozenAt q
        obtain ⟨u, hold⟩ : ∃ u, w6.cell? ⟨w3.heap.size, q, none⟩ = some u := ⟨_, (hor6.cellAt q (by omega)).trans (List.getElem?_eq_getElem (by simp; omega))⟩
        obtain ⟨hs1, hs2⟩ := hor6.stored q (.string ⟨#[10]⟩)
        rw [map_set] at hs1
        have gr7 := grown_new gr6 hs2 (fun i hi => by cases hi; omega)
        have hsr7 : Src N (w6.setCell ⟨w3.heap.size, q, none⟩ (.string ⟨#[10]⟩)) b a n cap (m + 1) := hsr6.kept hs2 (by simp; omega) (fun i hi => by cases hi; omega)
        have hq101 : (q : Int) < 101 := by omega
        have hq101' : q < 101 := by omega
        have HL : Hid ((ts.set q ⟨#[10]⟩).length = 101) := by show _ = _; rw [List.length_set]; exact hts
        clear hor6 gr6 hsr6 hs2 hts
        go_wp2_with fail
        go_roundw
        case rel => exact ⟨q + 1, ts.set q ⟨#[10]⟩, m + 1, by go_num, by omega, HL.out, hst.set (by decide) q, hs1, hsr7, by omega, gr7⟩
        case measure => simp [intOf]; omega
      · have HF : Hid (BentPostD N b a n cap k w (.returned (.slice (some ⟨w3.heap.size, 0, none⟩) 101 101)) w6) := by
          have hor7 : w6.ownsRow w3.heap.size 9 1 (.slice (some ⟨w3.heap.size, 0, none⟩) ts.length 101) ts.length (ts.map Value.string) := by rw [hts]; exact hor6
          exact ⟨some ⟨w3.heap.size, 0, none⟩, 101, ts, by rw [hts], SS_ownN hor7 (hst.sizesN (by omega)), by omega, hst, ownCap hor7, gr6, ⟨_, rfl⟩, m + 1, hsr6, by omega⟩
        clear hts hor6 gr6 hsr6
        go_wp2_with fail
        go_ret
        exact HF.out
  have q3' : (r2 == 3) = false := by simpa using q3
  go_wp2_with fail
  go_ret
  exact ⟨some ⟨g1, 0, none⟩, c1, ss, rfl, SS_ownN hown3 (hsm.sizesN (by omega)), hl, hsm, ownCap hown3, gr3, ⟨_, rfl⟩, k + 1 + 1, hsrc3, by omega⟩

def TwoPostD (N b : Nat) (a : Option Addr) (n cap : Nat) (w : World) (e : Ending) (w' : World) : Prop := ∃ (a1 : Option Addr) (c1 : Nat) (xs : List ByteArray) (a2 : Option Addr) (c2 : Nat) (ys : List ByteArray), e = .returned (.tuple #[.slice a1 xs.length c1, .slice a2 ys.length c2]) ∧ SS w' a1 xs ∧ SS w' a2 ys ∧ xs.length ≤ 1000 ∧ ys.length ≤ 1000 ∧ Small 9 xs ∧ Small 9 ys ∧ xs.length ≤ c1 ∧ ys.length ≤ c2 ∧ w.grownBy w' (some b) ∧ (∃ g, a1 = some ⟨g, 0, none⟩) ∧ (∃ g, a2 = some ⟨g, 0, none⟩) ∧ ∃ k', Src N w' b a n cap k' ∧ k' ≤ 1000000

def HoPost (w : World) (e : Ending) (w' : World) : Prop := ∃ (g1 : Nat) (c1 : Nat) (xs : List ByteArray) (g2 : Nat) (c2 : Nat) (ys : List ByteArray) (cx : Int), e = .returned (.tuple #[.slice (some ⟨g1, 0, none⟩) xs.length c1, .slice (some ⟨g2, 0, none⟩) ys.length c2, .int .i64 cx]) ∧ SS w' (some ⟨g1, 0, none⟩) xs ∧ SS w' (some ⟨g2, 0, none⟩) ys ∧ xs.length ≤ 1000 ∧ ys.length ≤ 1000 ∧ tot xs ≤ 9000 ∧ tot ys ≤ 9000 ∧ xs.length ≤ c1 ∧ ys.length ≤ c2 ∧ Below w.heap.size w w'
end Go.Proofs.Yticagabnaibmgaa
