/- The contracts of the specification's l3Draw and DrawApplyHunks, with the source behind it. No statement is proved here. -/
import Derived.Test.YtnkbjbbaoddfkaaGreatDoorRows
import Derived.Test.YtnkbjbbaoddfkaaGreatDoorLemQ
import Derived.Test.YtnkbjbbaoddfkaaGreatDoorMarksQ
import Derived.Test.YtnkbjbbaoddfkaaGreatDoorLFLemQ
import Derived.Test.YtnkbjbbaoddfkaaGreatDoorDTabQ
import Derived.Test.YtnkbjbbaoddfkaaGreatDoorHkTQ
import Derived.Test.YtnkbjbbaoddfkaaGreatDoorHkLQ
import Derived.Test.YtnkbjbbaoddfkaaGreatDoorHfCQ
import Derived.Test.YtnkbjbbaoddfkaaGreatDoorHnLQ
import Derived.Test.YtnkbjbbaoddfkaaGreatDoorHrRQ
import Derived.Test.YtnkbjbbaoddfkaaGreatDoorRvLQ
import Derived.Test.YtnkbjbbaoddfkaaGreatDoorGdMQ
import Derived.Test.YtnkbjbbaoddfkaaGreatDoorDrawQ
import Derived.Test.YtnkbjbbaoddfkaaGreatDoorDraw5Q
import Derived.Test.YtnkbjbbaoddfkaaGreatDoorDraw7Q
import Derived.WalkKit
import Derived.ProofKit
import Derived.Below
import Derived.WalkSpells
import Derived.Maps.AppendAt
import Derived.Deep.RegionWith
import Derived.Deep.RegionHeld
namespace Go.Proofs.YtnkbjbbaoddfkaaGreatDoor
open Go.ChangeShapes Go.WideShapes Go.ChangeAt Go.RowKit

def DaPost (N : Nat) (a : Option Addr) (n cap : Nat) (b : Nat) (w : World) (e : Ending) (w' : World) : Prop := ∃ (g1 c1 : Nat) (xs : List ByteArray) (a3 : Option Addr) (c3 : Nat) (l : List Hk), e = .returned (.tuple #[.slice (some ⟨g1, 0, none⟩) xs.length c1, .slice a3 l.length c3]) ∧ SS w' (some ⟨g1, 0, none⟩) xs ∧ HB w'.heap.size w' a3 l ∧ xs.length ≤ c1 ∧ xs.length ≤ 1000 ∧ Small 9 xs ∧ Fine l ∧ w.grownBy w' (some b) ∧ ∃ k', Src N w' b a n cap k' ∧ k' ≤ 4000000
theorem hcellI (L : List Hk) (sl : Nat → Value) (w : World) {base g c : Nat} (h : HO base w (.slice (some ⟨g, 0, none⟩) L.length c) L sl) {i : Nat} (hi : i < L.length) :
    w.cell? ⟨g, i * 3, none⟩ = some (.int .i64 (L.getD i (0, 0, [])).1) ∧ w.cell? ⟨g, i * 3 + 1, none⟩ = some (.int .i64 (L.getD i (0, 0, [])).2.1) ∧ w.cell? ⟨g, i * 3 + 2, none⟩ = some (sl i) := by
  refine ⟨?_, ?_, ?_⟩
  · rw [h.row.cellAt (i * 3) (by omega), rowF_at _ _ _ (by omega), hcell0]
  · rw [h.row.cellAt (i * 3 + 1) (by omega), rowF_at _ _ _ (by omega), hcell1]
  · rw [h.row.cellAt (i * 3 + 2) (by omega), rowF_at _ _ _ (by omega), hcell2]
theorem pick4 {w W : World} {x0 x1 x2 x3 : Int} {t : TypeId} (h : w.alloc (.cells #[.int .i64 x0, .int .i64 x1, .int .i64 x2, .int .i64 x3] t) = W) : ∀ j, j < 4 → ∃ v, W.cell? ⟨w.heap.size, j, none⟩ = some (.int .i64 v) ∧ True := by
  intro j hj
  have hc : ∀ i, W.cell? ⟨w.heap.size, i, none⟩ = _ := fun i => cell_of_row W w.heap.size i _ _ _ (by rw [← h]; exact heap_alloc_new w _)
  rw [hc]
  have : j = 0 ∨ j = 1 ∨ j = 2 ∨ j = 3 := by omega
  rcases this with rfl | rfl | rfl | rfl <;> exact ⟨_, rfl, trivial⟩
theorem pick3 {w W : World} {x0 x1 x2 : Int} {t : TypeId} (h : w.alloc (.cells #[.int .i64 x0, .int .i64 x1, .int .i64 x2] t) = W) : ∀ j, j < 3 → ∃ v, W.cell? ⟨w.heap.size, j, none⟩ = some (.int .i64 v) ∧ True := by
  intro j hj
  have hc : ∀ i, W.cell? ⟨w.heap.size, i, none⟩ = _ := fun i => cell_of_row W w.heap.size i _ _ _ (by rw [← h]; exact heap_alloc_new w _)
  rw [hc]
  have : j = 0 ∨ j = 1 ∨ j = 2 := by omega
  rcases this with rfl | rfl | rfl <;> exact ⟨_, rfl, trivial⟩
/-- What is there when one hunk may be turned. -/
structure DS (N b : Nat) (a : Option Addr) (n cap : Nat) (k : Int) (w0 : World) (xs : List ByteArray) (ga ca : Nat) (base g vc : Nat) (L : List Hk) (sl : Nat → Value) (w : World) : Prop where
  src : Src N w b a n cap k
  row : w.ownsRow base 9 1 (.slice (some ⟨ga, 0, none⟩) xs.length ca) xs.length (xs.map Value.string)
  ho : HO base w (.slice (some ⟨g, 0, none⟩) L.length vc) L sl
  gr : w0.grownBy w (some b)
  bb : b < base
  ne : g ≠ ga
theorem DS.next {N b : Nat} {a : Option Addr} {n cap : Nat} {k k' : Int} {w0 : World} {xs : List ByteArray} {ga ca base g vc : Nat} {L : List Hk} {sl : Nat → Value} {w w' : World} (h : DS N b a n cap k w0 xs ga ca base g vc L sl w) (hg : w.grownBy w' (some b)) (hs : Src N w' b a n cap k') : DS N b a n cap k' w0 xs ga ca base g vc L sl w' :=
  ⟨hs, h.row.kept hg (.inr (by rw [ownBlock_slice]; have := (h.row.lt ga rfl).1; have := h.bb; simp; omega)), h.ho.grown hg h.bb, grown_trans h.gr hg, h.bb, h.ne⟩
theorem DS.below {N b : Nat} {a : Option Addr} {n cap : Nat} {k : Int} {w0 : World} {xs : List ByteArray} {ga ca base g vc : Nat} {L : List Hk} {sl : Nat → Value} {w w' : World} (h : DS N b a n cap k w0 xs ga ca base g vc L sl w) (hb : Below w.heap.size w w') : DS N b a n cap k w0 xs ga ca base g vc L sl w' :=
  ⟨h.src.below hb, h.row.kept (grown_of_below hb none) (.inr (by rw [ownBlock_slice]; simp)), h.ho.below hb, grown_new h.gr (grown_of_below hb none) (fun j hj => by cases hj), h.bb, h.ne⟩
theorem DS.ss {N b : Nat} {a : Option Addr} {n cap : Nat} {k : Int} {w0 : World} {xs : List ByteArray} {ga ca base g vc : Nat} {L : List Hk} {sl : Nat → Value} {w : World} (h : DS N b a n cap k w0 xs ga ca base g vc L sl w) (hx : Small 9 xs) : SS w (some ⟨ga, 0, none⟩) xs := SS_ownN h.row (hx.sizesN (by omega))
/-- The end: a row of hunks that can be read, in a world where only block p, new since w0, may have turned. -/
theorem DS.fin {N b : Nat} {a : Option Addr} {n cap : Nat} {k : Int} {w0 : World} {xs : List ByteArray} {ga ca base g vc : Nat} {L : List Hk} {sl : Nat → Value} {w w' : World} (h : DS N b a n cap k w0 xs ga ca base g vc L sl w) (hk4 : k ≤ 4000000) (hbw : b < w0.heap.size) (hx : Small 9 xs) (hl : xs.length ≤ 1000) {p : Nat} (hg : w.grownBy w' (some p)) (hp : w0.heap.size ≤ p) (hga : p ≠ ga) {g' c' : Nat} {l : List Hk} {sl' : Nat → Value} (hr : RowH w' g' l sl') (hf : Fine l) :
    DaPost N a n cap b w0 (.returned (.tuple #[.slice (some ⟨ga, 0, none⟩) xs.length ca, .slice (some ⟨g', 0, none⟩) l.length c'])) w' := by
  have r' := h.row.kept hg (.inr (by rw [ownBlock_slice]; simp; omega))
  have hge := h.src.ge
  exact ⟨ga, ca, xs, _, c', l, rfl, SS_ownN r' (hx.sizesN (by omega)), hr.hb, ownCap r', hl, hx, hf, grown_new h.gr hg (fun j hj => by cases hj; exact hp), k, h.src.kept hg (by simp; omega) (fun j hj => by cases hj; omega), hk4⟩
theorem DaPost.below {N : Nat} {a : Option Addr} {n cap : Nat} {b : Nat} {w w' w'' : World} {e : Ending} (h : DaPost N a n cap b w e w') (hb : Below w'.heap.size w' w'') : DaPost N a n cap b w e w'' := by
  obtain ⟨g1, c1, xs, a3, c3, l, h1, h2, h3, h4, h5, h6, h7, h8, k9, h9, h10⟩ := h
  exact ⟨g1, c1, xs, a3, c3, l, h1, h2.below hb, (h3.below hb).mono hb.size, h4, h5, h6, h7, grown_new h8 (grown_of_below hb none) (fun j hj => by cases hj), k9, h9.below hb, h10⟩
theorem okS0 {x0 x1 y0 y1 : Int} {ls : List ByteArray} {z : ByteArray} (h : okS (x0, x1, ls)) (hz : z.size ≤ 12) : okS (y0, y1, ls.set 0 z) := by
  refine ⟨by show (ls.set 0 z).length ≤ 3000; rw [List.length_set]; exact h.1, fun s hs => ?_⟩
  rcases List.mem_or_eq_of_mem_set hs with hs | rfl
  · exact h.2 s hs
  · exact hz
theorem lit7 {w w9 : World} {t : TypeId} {b : Nat} (hg : (w.alloc (.cells #[.string ⟨#[]⟩, .string ⟨#[120]⟩, .string ⟨#[32]⟩, .string ⟨#[42, 113, 10]⟩, .string ⟨#[45, 97, 10, 98, 10]⟩, .string ⟨#[32, 122, 122, 10]⟩, .string ⟨#[43, 110, 10]⟩] t)).drew.grownBy w9 (some b)) (hb : b < w.heap.size) (j : Nat) (hj : j < 7) :
    ∃ x : ByteArray, w9.cell? ⟨w.heap.size, j, none⟩ = some (.string x) ∧ x.size ≤ 12 := by
  have hbk := (hg.block w.heap.size (show w.heap.size < (w.alloc _).heap.size by simp) (by simp; omega)).trans (heap_alloc_new w _)
  have hc : ∀ i, w9.cell? ⟨w.heap.size, i, none⟩ = _ := fun i => cell_of_row w9 w.heap.size i _ _ _ hbk
  rw [hc]
  have : j = 0 ∨ j = 1 ∨ j = 2 ∨ j = 3 ∨ j = 4 ∨ j = 5 ∨ j = 6 := by omega
  rcases this with rfl | rfl | rfl | rfl | rfl | rfl | rfl <;> exact ⟨_, rfl, by decide⟩
theorem lit7b (w : World) (t : TypeId) (j : Nat) (hj : j < 7) : ∃ x : ByteArray, (w.alloc (.cells #[.string ⟨#[]⟩, .string ⟨#[120]⟩, .string ⟨#[32]⟩, .string ⟨#[42, 113, 10]⟩, .string ⟨#[45, 97, 10, 98, 10]⟩, .string ⟨#[32, 122, 122, 10]⟩, .string ⟨#[43, 110, 10]⟩] t)).cell? ⟨w.heap.size, j, none⟩ = some (.string x) ∧ x.size ≤ 12 := by
  have hc : ∀ i, (w.alloc (.cells #[.string ⟨#[]⟩, .string ⟨#[120]⟩, .string ⟨#[32]⟩, .string ⟨#[42, 113, 10]⟩, .string ⟨#[45, 97, 10, 98, 10]⟩, .string ⟨#[32, 122, 122, 10]⟩, .string ⟨#[43, 110, 10]⟩] t)).cell? ⟨w.heap.size, i, none⟩ = _ := fun i => cell_of_row _ w.heap.size i _ _ _ (heap_alloc_new w _)
  rw [hc]
  have : j = 0 ∨ j = 1 ∨ j = 2 ∨ j = 3 ∨ j = 4 ∨ j = 5 ∨ j = 6 := by omega
  rcases this with rfl | rfl | rfl | rfl | rfl | rfl | rfl <;> exact ⟨_, rfl, by decide⟩
def HsQ (L : List Hk) (w : World) (e : Ending) (w' : World) : Prop := ∃ v sl, e = .returned v ∧ HO w.heap.size w' v L sl ∧ Below w.heap.size w w'
def HunksC : Prop := ∀ (cx : Int), 0 ≤ cx → cx ≤ 5 → ∀ (a1 a2 : Option Addr) (c1 c2 : Nat) (xs ys : List ByteArray) (w : World), SS w a1 xs → SS w a2 ys → xs.length ≤ c1 → ys.length ≤ c2 → xs.length ≤ 100 → ys.length ≤ 100 → (∀ x ∈ xs, x.size ≤ 2000) → (∀ x ∈ ys, x.size ≤ 2000) →
    Calls Tryz.prog 32 #[.slice a1 xs.length c1, .slice a2 ys.length c2, .int .i64 cx] w fun e w' => HsQ (hks xs ys cx (changes xs ys)) w e w'

set_option maxRecDepth 20000 in
set_option maxHeartbeats 8000000 in
theorem l3Draw (hH : HunksC) (N b : Nat) (a : Option Addr) (n cap : Nat) (k : Int) (w : World) (h : Src N w b a n cap k) (hk : k ≤ 10) :
    Calls Tryz.prog 14 #[.pointer (some ⟨b, 0, none⟩)] w fun e w' => DaPost N a n cap b w e w' := by
  have hlt := h.lt
  go_enter Tryz.func14, Tryz.ntmps14
  go_wp2_with fail
  refine (l1Next N b a n cap k 9 _ h (by omega)).mono ?_; rintro e w1 ⟨r, rfl, hd, s1, g1⟩
  have hd0 := hd.1
  have hd1 : r < 9 := hd.2.1 (by omega)
  obtain ⟨j, rfl⟩ := Int.eq_ofNat_of_zero_le hd0
  have lt1 := s1.lt
  have z1 := g1.size
  clear hd hd0
  go_wp2_with fail
  refine (l1LinesF N b a n cap (k + 1) j _ s1 (by omega) (by omega)).mono ?_; rintro e w2 ⟨xs, ga, ca, k2, rfl, lx, mx, ox, s2, hk2, g2⟩
  have G2 := grown_trans g1 g2
  have z2 := g2.size
  have hga := (ox.lt ga rfl).1
  have hga2 := (ox.lt ga rfl).2
  go_wp2_with fail
  refine (l1NearM 8 (by omega) N b w1.heap.size a n cap k2 xs ga ca _ s2 (by omega) lt1 (by omega) mx ox).mono ?_; rintro e w3 ⟨ys, gb, cb, k3, rfl, ly, my, oy, s3, hk3, g3⟩
  have G3 := grown_trans G2 g3
  have z3 := g3.size
  have ox3 := ox.kept g3 (.inr (by rw [ownBlock_slice]; simp; omega))
  have mx9 : Small 9 xs := mx.small.mono (by omega)
  clear ox s1 s2 g1 g2 g3 G2
  go_wp2_with fail
  refine (l1Next N b a n cap k3 3 _ s3 (by omega)).mono ?_; rintro e w4 ⟨cx, rfl, hd, s4, g4⟩
  have hc0 := hd.1
  have hc3 : cx < 3 := hd.2.1 (by omega)
  have G4 := grown_trans G3 g4
  have z4 := g4.size
  have ox4 := ox3.kept g4 (.inr (by rw [ownBlock_slice]; simp; omega))
  have oy4 := oy.kept g4 (.inr (by rw [ownBlock_slice]; have := (oy.lt gb rfl).1; simp; omega))
  clear ox3 oy s3 g4 G3 hd
  have hHc := hH cx hc0 (by omega) (some ⟨ga, 0, none⟩) (some ⟨gb, 0, none⟩) ca cb xs ys w4 (SS_ownN ox4 (mx9.sizesN (by omega))) (SS_ownN oy4 (my.sizesN (by omega))) (ownCap ox4) (ownCap oy4) (by omega) (by omega) (fun x hx => by have := mx9 x hx; omega) (fun x hx => by have := my x hx; omega)
  have hBd := hks_bd (show xs.length ≤ 8 by omega) (show ys.length ≤ 11 by omega) mx9 my cx
  have hPos := hks_pos (cx := cx) _ (changes xs ys) 0 0 (Nat.le_refl _) (changes_wk xs ys)
  obtain ⟨L, hLe⟩ : ∃ L, hks xs ys cx (changes xs ys) = L := ⟨_, rfl⟩
  rw [hLe] at hHc hBd hPos
  have hFi := hBd.fine (by omega)
  have hFt := hFi.fits
  have hxl : xs.length ≤ 1000 := by omega
  clear hLe hc0 hc3 hH
  go_wp2_with fail
  refine hHc.mono ?_; rintro e w5 ⟨v, sl, rfl, hO, b5⟩
  obtain ⟨va, vc, ev⟩ := shape3 hO.row
  subst ev
  have s5 := s4.below b5
  have ox5 := ox4.kept (grown_of_below b5 none) (.inr (by rw [ownBlock_slice]; simp))
  have G5 : w.grownBy w5 (some b) := grown_new G4 (grown_of_below b5 none) (fun j hj => by cases hj)
  clear hHc b5 s4 ox4 oy4 G4 my ly
  by_cases hL0 : L.length = 0
  · have q : ((L.length : Int) == 0) = true := by rw [hL0]; rfl
    have HB0 : Hid (HB w5.heap.size w5 va L) := fun k hk => by omega
    have HX : Hid (SS w5 (some ⟨ga, 0, none⟩) xs) := SS_ownN ox5 (mx9.sizesN (by omega))
    have HC : Hid (xs.length ≤ ca) := ownCap ox5
    have HS : Hid (Src N w5 b a n cap (k3 + 1)) := s5
    clear hL0 hO ox5 s5
    go_wp2_with fail
    refine bodyPost_ret (v := .tuple #[.slice (some ⟨ga, 0, none⟩) xs.length ca, .slice va L.length vc]) (by simp [results, Tryz.results14, go_sem]) rfl ?_
    exact ⟨ga, ca, xs, va, vc, L, rfl, HX.out, HB0.out, HC.out, hxl, mx9, hFi, G5, _, HS.out, by omega⟩
  have hLp : 0 < L.length := by omega
  have q : ((L.length : Int) == 0) = false := by simpa using hL0
  obtain ⟨g, rfl⟩ : ∃ g, va = some ⟨g, 0, none⟩ := by
    rcases hO.row.2 with ⟨_, h0⟩ | ⟨g, c, cur, e, _⟩
    · omega
    · simp only [Value.slice.injEq] at e; exact ⟨g, e.1⟩
  have hgg := hO.row.lt g rfl
  have D5 : DS N b a n cap _ w xs ga ca w1.heap.size g vc L sl w5 := ⟨s5, ox5, hO.mono (by omega), G5, lt1, by omega⟩
  have hslb : ∀ k, k < L.length → ∀ b', (sl k).ownBlock = some b' → w4.heap.size ≤ b' := fun k hk b' hb' => ((hO.each k hk).lt b' hb').1
  clear hO s5 ox5 G5 hL0
  go_wp2_with fail
  refine (l1Next N b a n cap _ _ _ D5.src (by omega)).mono ?_; rintro e w6 ⟨r, rfl, hd, s6, g6⟩
  have hd0 := hd.1
  have hd1 : r < L.length := hd.2.1 (by omega)
  obtain ⟨i, rfl⟩ := Int.eq_ofNat_of_zero_le hd0
  have hi : i < L.length := by omega
  have D6 := D5.next g6 s6
  have z6 := g6.size
  clear hd hd0 D5 s6 g6
  go_wp2_with fail
  refine (l1Next N b a n cap _ 16 _ D6.src (by omega)).mono ?_; rintro e w7 ⟨r2, rfl, _, s7, g7⟩
  have D7 := D6.next g7 s7
  have z7 := g7.size
  clear D6 s7 g7
  have hokI := hBd.2 (L.getD i (0, 0, [])) (getD_mem L i hi)
  have hlsp := hPos (L.getD i (0, 0, [])) (getD_mem L i hi)
  obtain ⟨C0, C1, C2⟩ := hcellI L sl w7 D7.ho hi
  have eaI := D7.ho.each i hi
  have N0 : ∀ w' x, HO w1.heap.size w' (.slice (some ⟨g, 0, none⟩) L.length vc) L sl → RowH (w'.setCell ⟨g, i * 3, none⟩ (.int .i64 x)) g (L.set i (x, (L.getD i (0, 0, [])).2)) sl := fun w' x h => h.num0 hFt hi x
  have N1 : ∀ w' x, HO w1.heap.size w' (.slice (some ⟨g, 0, none⟩) L.length vc) L sl → RowH (w'.setCell ⟨g, i * 3 + 1, none⟩ (.int .i64 x)) g (L.set i ((L.getD i (0, 0, [])).1, x, (L.getD i (0, 0, [])).2.2)) sl := fun w' x h => h.num1 hFt hi x
  have N2 := fun w' gi ci (h : HO w1.heap.size w' (.slice (some ⟨g, 0, none⟩) L.length vc) L sl) => h.line0 (gi := gi) (ci := ci) hFt hi
  have N3 := fun w' gi ci (h : HO w1.heap.size w' (.slice (some ⟨g, 0, none⟩) L.length vc) L sl) => h.tail (gi := gi) (ci := ci) hFt hi
  have N4 := fun w' w'' v' (h : HO w1.heap.size w' (.slice (some ⟨g, 0, none⟩) L.length vc) L sl) => h.again (w' := w'') (v' := v') hFt hi
  have KI : ∀ w' k', DS N b a n cap k' w xs ga ca w1.heap.size g vc L sl w' → w'.cell? ⟨g, i * 3, none⟩ = some (.int .i64 (L.getD i (0, 0, [])).1) ∧ w'.cell? ⟨g, i * 3 + 1, none⟩ = some (.int .i64 (L.getD i (0, 0, [])).2.1) ∧ w'.cell? ⟨g, i * 3 + 2, none⟩ = some (sl i) := fun w' k' h => hcellI L sl w' h.ho hi
  have EI : ∀ w' k', DS N b a n cap k' w xs ga ca w1.heap.size g vc L sl w' → w'.ownsRow w1.heap.size 9 1 (sl i) (L.getD i (0, 0, [])).2.2.length ((L.getD i (0, 0, [])).2.2.map Value.string) := fun w' k' h => h.ho.each i hi
  obtain ⟨⟨x0, x1, ls⟩, hCe⟩ : ∃ C, L.getD i (0, 0, []) = C := ⟨_, rfl⟩
  rw [hCe] at hokI C0 C1 eaI hlsp
  simp only [hCe] at N0 N1 N2 N3 N4 KI EI
  simp only [] at hokI C0 C1 eaI hlsp N0 N1 N2 N3 N4 KI EI
  clear hCe
  have F0 := D7.ho.row.frozenAt (i * 3)
  have F1 := D7.ho.row.frozenAt (i * 3 + 1)
  have F2 := D7.ho.row.frozenAt (i * 3 + 2)
  have hiI : (i : Int) < (L.length : Int) := by omega
  have hbl := D7.src.lt
  have hpw : w.heap.size ≤ g := by omega
  by_cases q0 : (r2 == 0) = true
  · have D8 := fun X => D7.below (allocBelow w7 (.cells #[.int .i64 (-1), .int .i64 X, .int .i64 100, .int .i64 101] 2))
    have hP := fun X => l1Pick N b a n cap _ w7.heap.size 4 4 (fun _ => True) _ (D8 X).src (by omega) (by omega) (by omega) (by omega) (by simp) (pick4 rfl)
    go_wp2_with fail
    refine (hP _).mono ?_; rintro e w9 ⟨x, rfl, _, s9, g9⟩
    have D9 := (D8 _).next g9 s9
    obtain ⟨E0, _, _⟩ := KI _ _ D9
    have F0 := D9.ho.row.frozenAt (i * 3)
    have HF : Hid (DaPost N a n cap b w (.returned (.tuple #[.slice (some ⟨ga, 0, none⟩) xs.length ca, .slice (some ⟨g, 0, none⟩) L.length vc])) (w9.setCell ⟨g, i * 3, none⟩ (.int .i64 x))) := by
      have := D9.fin (by omega) hlt mx9 hxl (D9.ho.row.stored (i * 3) (.int .i64 x)).2 hpw D7.ne (c' := vc) (N0 _ x D9.ho) ((hBd.set i (X := (x, x1, ls)) hokI).fine (by omega))
      rw [List.length_set] at this
      exact this
    clear hP C0 C1 C2 D7 D8 D9 s9 g9 N0 N1 N2 N3 N4 KI EI eaI hokI F1 F2
    go_wp2_with fail
    refine bodyPost_ret (v := .tuple #[.slice (some ⟨ga, 0, none⟩) xs.length ca, .slice (some ⟨g, 0, none⟩) L.length vc]) (by simp [results, Tryz.results14, go_sem]) rfl ?_
    exact HF.out
  have q0' : (r2 == 0) = false := by simpa using q0
  by_cases q1 : (r2 == 1) = true
  · have D8 := fun X => D7.below (allocBelow w7 (.cells #[.int .i64 (-1), .int .i64 X, .int .i64 101] 2))
    have hP := fun X => l1Pick N b a n cap _ w7.heap.size 3 3 (fun _ => True) _ (D8 X).src (by omega) (by omega) (by omega) (by omega) (by simp) (pick3 rfl)
    go_wp2_with fail
    refine (hP _).mono ?_; rintro e w9 ⟨x, rfl, _, s9, g9⟩
    have D9 := (D8 _).next g9 s9
    obtain ⟨_, E0, _⟩ := KI _ _ D9
    have F0 := D9.ho.row.frozenAt (i * 3 + 1)
    have HF : Hid (DaPost N a n cap b w (.returned (.tuple #[.slice (some ⟨ga, 0, none⟩) xs.length ca, .slice (some ⟨g, 0, none⟩) L.length vc])) (w9.setCell ⟨g, i * 3 + 1, none⟩ (.int .i64 x))) := by
      have := D9.fin (by omega) hlt mx9 hxl (D9.ho.row.stored (i * 3 + 1) (.int .i64 x)).2 hpw D7.ne (c' := vc) (N1 _ x D9.ho) ((hBd.set i (X := (x0, x, ls)) hokI).fine (by omega))
      rw [List.length_set] at this
      exact this
    clear hP C0 C1 C2 D7 D8 D9 s9 g9 N0 N1 N2 N3 N4 KI EI eaI hokI F1 F2
    go_wp2_with fail
    refine bodyPost_ret (v := .tuple #[.slice (some ⟨ga, 0, none⟩) xs.length ca, .slice (some ⟨g, 0, none⟩) L.length vc]) (by simp [results, Tryz.results14, go_sem]) rfl ?_
    exact HF.out
  have q1' : (r2 == 1) = false := by simpa using q1
  obtain ⟨gi, ci, esl, hci⟩ : ∃ gi ci, sl i = .slice (some ⟨gi, 0, none⟩) ls.length ci ∧ ls.length ≤ ci := by
    rcases eaI.2 with ⟨_, h0⟩ | ⟨gi, ci, cur, e, _, _, hle, _⟩
    · omega
    · exact ⟨gi, ci, e, hle⟩
  have hgi := eaI
  rw [esl] at C2 hgi
  have hgib := hgi.lt gi rfl
  have hgic : w7.cell? ⟨gi, 0, none⟩ = some (.string (ls.getD 0 ByteArray.empty)) := by
    rw [hgi.cellAt 0 (by omega), List.getElem?_map, List.getElem?_eq_getElem hlsp]
    rw [getD_at ls 0 hlsp]; rfl
  have hgif := hgi.frozenAt 0
  by_cases q2 : (r2 == 2) = true
  · have BD : Below w7.heap.size w7 w7.drew := (Below.refl _ _).drew
    have DD := D7.below BD
    have Da : ∀ o, DS N b a n cap _ w xs ga ca w1.heap.size g vc L sl (w7.alloc o).drew := fun o => (D7.below (allocBelow w7 o)).below ((Below.refl _ _).drew)
    have hPa := fun o => l1Next N b a n cap _ 7 _ (Da o).src (by omega)
    have hPb := l1Next N b a n cap _ 7 _ DD.src (by omega)
    have C2d : w7.drew.cell? ⟨g, i * 3 + 2, none⟩ = some (.slice (some ⟨gi, 0, none⟩) ls.length ci) := C2
    have C2o : ∀ o, (w7.alloc o).drew.cell? ⟨g, i * 3 + 2, none⟩ = some (.slice (some ⟨gi, 0, none⟩) ls.length ci) := fun o => by have := (KI _ _ (Da o)).2.2; rw [esl] at this; exact this
    have hgi4 := hslb i hi gi (by rw [esl]; rfl)
    have hgl := (D7.ho.row.lt g rfl).2
    clear C0 C1 F0 F1 F2 hgic hgif N0 N1 N3 N4
    go_wp2_with fail
    go_region_with (first | (go_at_call 30; refine (hPa _).mono ?_; rintro e w9 ⟨r9, rfl, hd, s9, g9⟩; have D9 := (Da _).next g9 s9; have C2a := (KI _ _ D9).2.2; rw [esl] at C2a; have hd0 := hd.1; have hd1 : r9 < 7 := hd.2.1 (by omega); obtain ⟨j9, rfl⟩ := Int.eq_ofNat_of_zero_le hd0; obtain ⟨x9, hx9, hz9⟩ := lit7 g9 hbl j9 (by omega); have E9 := EI _ _ D9; rw [esl] at E9; have hf9 := E9.frozenAt 0; have hc9 : w9.cell? ⟨gi, 0, none⟩ = some (.string (ls.getD 0 ByteArray.empty)) := (by rw [E9.cellAt 0 (by omega), List.getElem?_map, List.getElem?_eq_getElem hlsp, getD_at ls 0 hlsp]; rfl); have hgl9 := (D9.ho.row.lt g rfl).2; have hgl8 := (E9.lt gi rfl).2; have HF : Hid (DaPost N a n cap b w (.returned (.tuple #[.slice (some ⟨ga, 0, none⟩) xs.length ca, .slice (some ⟨g, 0, none⟩) L.length vc])) (w9.setCell ⟨gi, 0, none⟩ (.string x9))) := (by have := D9.fin (by omega) hlt mx9 hxl (E9.stored 0 (.string x9)).2 (by omega) (by omega) (c' := vc) (N2 w9 gi ci D9.ho esl x9 (by omega)) ((hBd.set i (X := (x0, x1, ls.set 0 x9)) (okS0 hokI hz9)).fine (by omega)); rw [List.length_set] at this; exact this); clear D9 E9 hd s9 g9) | (go_at_call 30; refine hPb.mono ?_; rintro e w9 ⟨r9, rfl, hd, s9, g9⟩; have D9 := DD.next g9 s9; have C2a := (KI _ _ D9).2.2; rw [esl] at C2a; have hd0 := hd.1; have hd1 : r9 < 7 := hd.2.1 (by omega); obtain ⟨j9, rfl⟩ := Int.eq_ofNat_of_zero_le hd0; obtain ⟨x9, hx9, hz9⟩ := lit7b w9 9 j9 (by omega); have E9 := EI _ _ D9; rw [esl] at E9; have hf9 := E9.frozenAt 0; have hc9 : w9.cell? ⟨gi, 0, none⟩ = some (.string (ls.getD 0 ByteArray.empty)) := (by rw [E9.cellAt 0 (by omega), List.getElem?_map, List.getElem?_eq_getElem hlsp, getD_at ls 0 hlsp]; rfl); have hgl9 := (D9.ho.row.lt g rfl).2; have hgl8 := (E9.lt gi rfl).2; have HF : Hid (DaPost N a n cap b w (.returned (.tuple #[.slice (some ⟨ga, 0, none⟩) xs.length ca, .slice (some ⟨g, 0, none⟩) L.length vc])) (w9.setCell ⟨gi, 0, none⟩ (.string x9))) := (by have := D9.fin (by omega) hlt mx9 hxl (E9.stored 0 (.string x9)).2 (by omega) (by omega) (c' := vc) (N2 w9 gi ci D9.ho esl x9 (by omega)) ((hBd.set i (X := (x0, x1, ls.set 0 x9)) (okS0 hokI hz9)).fine (by omega)); rw [List.length_set] at this; exact this); clear D9 E9 hd s9 g9))
    all_goals (go_wp2_with fail; refine bodyPost_ret (v := .tuple #[.slice (some ⟨ga, 0, none⟩) xs.length ca, .slice (some ⟨g, 0, none⟩) L.length vc]) (by simp [results, Tryz.results14, go_sem]) rfl ?_; first | exact HF.out | exact HF.out.below (allocBelow _ _) | exact HF.out.below ((Below.refl _ _).drew))
  have q2' : (r2 == 2) = false := by simpa using q2
  by_cases q3 : (r2 == 3) = true
  · have hls3 : ls.length ≤ 3000 := hokI.1
    have hFn := (hBd.set i (X := (x0, x1, ls.drop 1)) ⟨by show (ls.drop 1).length ≤ 3000; rw [List.length_drop]; omega, fun s hs => hokI.2 s (List.mem_of_mem_drop hs)⟩).fine (by omega)
    have HF : ∀ (A : Option Addr) (_ : (if ci = 1 then some ⟨gi, 0, none⟩ else Option.map (fun x => x.add 1) (some (⟨gi, 0, none⟩ : Addr))) = A) cc, Hid (DaPost N a n cap b w (.returned (.tuple #[.slice (some ⟨ga, 0, none⟩) xs.length ca, .slice (some ⟨g, 0, none⟩) L.length vc])) (w7.setCell ⟨g, i * 3 + 2, none⟩ (.slice A (ls.length - 1) cc))) := fun A hA cc => by
      have := D7.fin (by omega) hlt mx9 hxl (D7.ho.row.stored (i * 3 + 2) (.slice A (ls.length - 1) cc)).2 hpw D7.ne (c' := vc) (N3 w7 gi ci D7.ho esl hlsp hci A hA cc) hFn
      rw [List.length_set] at this
      exact this
    have hl1 : (1 : Int) ≤ (ls.length : Int) := by omega
    clear C0 C1 D7 N0 N1 N2 N3 N4 KI EI eaI hokI F0 F1 hgi hgic hgif hFn
    by_cases hc1 : ci = 1
    · have HF1 := HF (some ⟨gi, 0, none⟩) (if_pos hc1)
      rw [show ls.length - 1 = 0 by omega] at HF1
      clear HF
      subst hc1
      go_wp2_with fail
      refine bodyPost_ret (v := .tuple #[.slice (some ⟨ga, 0, none⟩) xs.length ca, .slice (some ⟨g, 0, none⟩) L.length vc]) (by simp [results, Tryz.results14, go_sem]) rfl ?_
      exact (HF1 _).out
    · have HF1 := HF (some ⟨gi, 1, none⟩) (by rw [if_neg hc1]; rfl)
      clear HF
      go_wp2_with fail
      refine bodyPost_ret (v := .tuple #[.slice (some ⟨ga, 0, none⟩) xs.length ca, .slice (some ⟨g, 0, none⟩) L.length vc]) (by simp [results, Tryz.results14, go_sem]) rfl ?_
      exact (HF1 _).out
  have q3' : (r2 == 3) = false := by simpa using q3
  by_cases q4 : (r2 == 4) = true
  · obtain ⟨i1, hi', hy0, hy1, hy2⟩ := info_parts infoHunk
    have hrow := D7.ho.row
    have hN := fun w'' v' => N4 w7 w'' v' D7.ho
    have hFn := (hBd.snoc (X := (x0, x1, ls)) hokI).fine (by omega)
    have hL9 := hBd.1
    rw [esl] at hN
    clear N0 N1 N2 N3 N4 KI EI eaI hokI F0 F1 F2 hgi hgic hgif
    go_wp2_with ((at_builtin; refine wpList_append_own_at _ rfl (.tmp 88) (.tmp 93) 25 rfl w1.heap.size 35 i1 (.agg #[.int .i64 0, .int .i64 0, .slice none 0 0]) 3 40 Tryz.underlying25 hi' hy0 hy1 hy2 rfl (by decide) _ _ _ rfl (hrow.alloc _) ⟨w7.heap.size, 0, none⟩ 1 1 [.int .i64 x0, .int .i64 x1, .slice (some ⟨gi, 0, none⟩) ls.length ci] rfl rfl (newsRow w7 #[.int .i64 x0, .int .i64 x1, .slice (some ⟨gi, 0, none⟩) ls.length ci] 35) (by simp [Value.oneCell']) (by unfold maxLen; omega) (by omega) (by simp; omega) ?_; intro v' W8 p8 g8 _ k8))
    have G8 : w7.grownBy W8 (some g) := grown_trans (World.grownBy_alloc w7 _ (some g)) g8
    obtain ⟨g', c', rfl, hR⟩ := hN W8 v' p8 G8
    have HF : Hid (DaPost N a n cap b w (.returned (.tuple #[.slice (some ⟨ga, 0, none⟩) xs.length ca, .slice (some ⟨g', 0, none⟩) (L ++ [(x0, x1, ls)]).length c'])) W8) := D7.fin (by omega) hlt mx9 hxl G8 hpw D7.ne hR hFn
    clear p8 g8 k8 G8 hR hN D7 hrow
    go_wp2_with fail
    refine bodyPost_ret (v := .tuple #[.slice (some ⟨ga, 0, none⟩) xs.length ca, .slice (some ⟨g', 0, none⟩) (L ++ [(x0, x1, ls)]).length c']) (by simp [results, Tryz.results14, go_sem]) rfl ?_
    exact HF.out
  have q4' : (r2 == 4) = false := by simpa using q4
  have hRow := D7.ho.rowH hFt
  clear C0 C1 C2 N0 N1 N2 N3 N4 KI EI eaI hokI F0 F1 F2 hgi hgic hgif
  by_cases q5 : (r2 == 5) = true
  · have hNr := l1NearM 8 (by omega) N b w1.heap.size a n cap _ xs ga ca w7 D7.src (by omega) lt1 (by omega) mx D7.row
    go_wp2_with fail
    refine hNr.mono ?_; rintro e w8 ⟨ts, gt', ct, k8, rfl, lt8, mt, ot, s8, hk8, g8⟩
    have hO8 := (D7.ho.grown g8 D7.bb).rowH hFt
    have HF : Hid (DaPost N a n cap b w (.returned (.tuple #[.slice (some ⟨gt', 0, none⟩) ts.length ct, .slice (some ⟨g, 0, none⟩) L.length vc])) w8) :=
      ⟨gt', ct, ts, _, vc, L, rfl, SS_ownN ot (mt.sizesN (by omega)), hO8.hb, ownCap ot, by omega, mt, hFi, grown_trans D7.gr g8, _, s8, by omega⟩
    clear hNr ot s8 g8 hO8 D7 hRow
    go_wp2_with fail
    refine bodyPost_ret (v := .tuple #[.slice (some ⟨gt', 0, none⟩) ts.length ct, .slice (some ⟨g, 0, none⟩) L.length vc]) (by simp [results, Tryz.results14, go_sem]) rfl ?_
    exact HF.out
  have q5' : (r2 == 5) = false := by simpa using q5
  by_cases q6 : (r2 == 6) = true
  · go_wp2_with fail
    refine (l1Chance N b a n cap _ 4 _ D7.src (by omega)).mono ?_; rintro e w8 ⟨r8, rfl, s8, g8⟩
    have D8 := D7.next g8 s8
    cases r8 with
    | true =>
      obtain ⟨i1, hi', hy0, hy1, hy2⟩ := info_parts infoHunk
      have z8 := g8.size
      clear D7 hRow s8 g8
      go_wp2_with (at_make; refine wpList_make_full _ rfl _ _ 25 rfl w8.heap.size 35 i1 (.agg #[.int .i64 0, .int .i64 0, .slice none 0 0]) 3 Tryz.underlying25 hi' hy0 hy1 .i64 .i64 101 101 101 rfl rfl rfl rfl (by rw [hy2]; omega) (by unfold maxLen; omega) (Nat.le_refl _) ?_; intro w9 hown9 hg9)
      have e9 : (madeCells (Value.agg #[.int .i64 0, .int .i64 0, .slice none 0 0]).cells (101 * 3)).toList = rowF (hcell (List.replicate 101 (0, 0, [])) (fun _ => .slice none 0 0)) (101 * 3) := by kernel_rfl
      rw [e9] at hown9
      have hr9 : RowH w9 w8.heap.size (List.replicate 101 (0, 0, [])) (fun _ => .slice none 0 0) := by
        refine ⟨fun j hj => ?_, (hown9.lt _ rfl).2, fun k hk => ⟨none, 0, ?_, ?_⟩⟩
        · rw [List.length_replicate] at hj
          rw [hown9.cellAt j (by omega), rowF_at _ _ _ hj]
        · rw [List.length_replicate] at hk
          rw [List.getD, List.getElem?_replicate, if_pos hk]; rfl
        · rw [List.length_replicate] at hk
          rw [List.getD, List.getElem?_replicate, if_pos hk]
          exact ⟨fun k hk => absurd hk (Nat.not_lt_zero _), fun k hk => absurd hk (Nat.not_lt_zero _)⟩
      have HF : Hid (DaPost N a n cap b w (.returned (.tuple #[.slice (some ⟨ga, 0, none⟩) xs.length ca, .slice (some ⟨w8.heap.size, 0, none⟩) 101 101])) w9) := by
        have := D8.fin (by omega) hlt mx9 hxl (w' := w9) (p := w8.heap.size) ⟨hg9.os, hg9.tape, hg9.output, hg9.size, fun j hj _ => hg9.block j hj (by simp)⟩ (by omega) (by have := (D8.row.lt ga rfl).2; omega) (c' := 101) hr9 (fine_zero 101 (by omega))
        rw [List.length_replicate] at this
        exact this
      clear hown9 hg9 hr9 D8
      go_wp2_with fail
      refine bodyPost_ret (v := .tuple #[.slice (some ⟨ga, 0, none⟩) xs.length ca, .slice (some ⟨w8.heap.size, 0, none⟩) 101 101]) (by simp [results, Tryz.results14, go_sem]) rfl ?_
      exact HF.out
    | false =>
      have HF : Hid (DaPost N a n cap b w (.returned (.tuple #[.slice (some ⟨ga, 0, none⟩) xs.length ca, .slice (some ⟨g, 0, none⟩) L.length vc])) w8) :=
        ⟨ga, ca, xs, _, vc, L, rfl, D8.ss mx9, (D8.ho.rowH hFt).hb, ownCap D8.row, hxl, mx9, hFi, D8.gr, _, D8.src, by omega⟩
      clear D7 D8 s8 g8 hRow
      go_wp2_with fail
      refine bodyPost_ret (v := .tuple #[.slice (some ⟨ga, 0, none⟩) xs.length ca, .slice (some ⟨g, 0, none⟩) L.length vc]) (by simp [results, Tryz.results14, go_sem]) rfl ?_
      exact HF.out
  have q6' : (r2 == 6) = false := by simpa using q6
  have HF : Hid (DaPost N a n cap b w (.returned (.tuple #[.slice (some ⟨ga, 0, none⟩) xs.length ca, .slice (some ⟨g, 0, none⟩) L.length vc])) w7) :=
    ⟨ga, ca, xs, _, vc, L, rfl, D7.ss mx9, hRow.hb, ownCap D7.row, hxl, mx9, hFi, D7.gr, _, D7.src, by omega⟩
  clear D7 hRow
  go_wp2_with fail
  refine bodyPost_ret (v := .tuple #[.slice (some ⟨ga, 0, none⟩) xs.length ca, .slice (some ⟨g, 0, none⟩) L.length vc]) (by simp [results, Tryz.results14, go_sem]) rfl ?_
  exact HF.out
end Go.Proofs.YtnkbjbbaoddfkaaGreatDoor
