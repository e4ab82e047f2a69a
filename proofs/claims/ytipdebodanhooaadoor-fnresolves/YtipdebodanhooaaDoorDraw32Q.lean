/- What a path is resolved with, as the specification draws it. No statement is proved here. -/
import Derived.Test.YtipdebodanhooaaDoorRows
import Derived.Test.YtipdebodanhooaaDoorLemQ
import Derived.Test.YtipdebodanhooaaDoorLFLemQ
import Derived.Test.YtipdebodanhooaaDoorDTabQ
import Derived.Test.YtipdebodanhooaaDoorHkTQ
import Derived.Test.YtipdebodanhooaaDoorFlLQ
import Derived.Test.YtipdebodanhooaaDoorEnLQ
import Derived.Test.YtipdebodanhooaaDoorIxMQ
import Derived.Test.YtipdebodanhooaaDoorIxNQ
import Derived.Test.YtipdebodanhooaaDoorSlBQ
import Derived.Test.YtipdebodanhooaaDoorSsBQ
import Derived.Test.YtipdebodanhooaaDoorSgCQ
import Derived.Test.YtipdebodanhooaaDoorClIQ
import Derived.Test.YtipdebodanhooaaDoorClPQ
import Derived.Test.YtipdebodanhooaaDoorClWQ
import Derived.Test.YtipdebodanhooaaDoorDigCQ
import Derived.Test.YtipdebodanhooaaDoorDrawQ
import Derived.Test.YtipdebodanhooaaDoorPickCQ
import Derived.Test.YtipdebodanhooaaDoorDraw30Q
import Derived.Test.YtipdebodanhooaaDoorDraw31Q
import Derived.WalkKit
import Derived.ProofKit
import Derived.Below
import Derived.WalkSpells
import Derived.Maps.AppendAt
import Derived.Deep.QuietTactic
import Derived.BigQuiet
import Derived.Deep.RegionWith
import Derived.Deep.RegionHeld
import Derived.Deep.RegionHeldLaw
import Derived.Deep.Cut
import Derived.Deep.CutRange
import Derived.Deep.Onto
set_option linter.unusedVariables false
namespace Go.Proofs.YtipdebodanhooaaDoor.En
open Go.ChangeShapes Go.WideShapes Go.ChangeAt Go.RowKit
/-- Paths of an index: short texts, not too many. -/
def PS (L : List ByteArray) : Prop := L.length ≤ 5000 ∧ ∀ x ∈ L, x.size ≤ 100
set_option maxRecDepth 20000 in
set_option maxHeartbeats 4000000 in
theorem l10ClashesW (a : Option Addr) (c : Nat) (l : List Ob) (w : World) (h : OB w.heap.size w a l) (hn : l.length ≤ 5000) (hok : ∀ o ∈ l, EOk o) :
    Calls Tryd.prog 19 #[.slice a l.length c] w fun e w' => ∃ L, PS L ∧ P9 w.heap.size L w e w' := by
  go_enter Tryd.func19, Tryd.ntmps19
  go_wp2
  go_loopw [3, 4] (fun v i wr => ∃ (k : Nat) (L : List ByteArray) (g c : Nat), k ≤ l.length ∧ i = .int .i64 k ∧ v = .slice (some ⟨g, 0, none⟩) L.length c ∧ L.length ≤ k ∧ (∀ x ∈ L, x.size ≤ 100) ∧
      wr.ownsRow w.heap.size 9 1 (.slice (some ⟨g, 0, none⟩) L.length c) L.length (L.map Value.string) ∧ Below w.heap.size w wr) (fun _ i _ => l.length - (intOf i).toNat)
  case atStart => exact ⟨0, [], w.heap.size, 0, Nat.zero_le _, rfl, rfl, by simp, by simp, litT w, allocBelow _ _⟩
  case round =>
    obtain ⟨k, L, g, cc, hk, rfl, rfl, hL, hsm, ho, hbel⟩ := hrel
    have hsz := hbel.size
    by_cases hlt : k < l.length
    · have qk : (k : Int) < (l.length : Int) := by omega
      obtain ⟨g', off, rfl, hg', c0, c1, c2, c3⟩ := (h.below hbel) k hlt
      have hx := (hok _ (getD_memX l k hlt)).1
      obtain ⟨C, hC⟩ : ∃ C, l.getD k onil = C := ⟨_, rfl⟩
      obtain ⟨x0, x1, x2, x3⟩ := C
      rw [hC] at c0 c1 c2 c3 hx
      simp only [] at c0 c1 c2 c3 hx
      clear hC
      by_cases hs : 0 < x1
      · have hP := l9PutW w.heap.size g cc L x0 wr ho (by omega) hsz
        have hl2 := put9_len L x0
        have hm2 : ∀ x ∈ put9 L x0, x.size ≤ 100 := fun x hx' => by
          rcases put9_mem hx' with q | q
          · exact hsm x q
          · rw [q]; exact hx
        unfold P9 at hP
        obtain ⟨M, hM⟩ : ∃ M, put9 L x0 = M := ⟨_, rfl⟩
        rw [hM] at hP hl2 hm2
        clear hM
        go_wp2_with fail
        refine hP.mono ?_; rintro e w2 ⟨g2, cc2, rfl, o2, b2⟩
        have B2 : Below w.heap.size w w2 := hbel.trans (b2.mono hsz)
        clear hP b2 ho hbel
        go_wp2_with fail
        go_roundw
        case rel => exact ⟨k + 1, M, g2, cc2, by omega, by go_num, rfl, by omega, hm2, o2, B2⟩
        case measure => simp [intOf]; omega
      · go_wp2_with fail
        go_roundw
        case rel => exact ⟨k + 1, L, g, cc, by omega, by go_num, rfl, by omega, hsm, ho, hbel⟩
        case measure => simp [intOf]; omega
    · have qk : ¬ (k : Int) < (l.length : Int) := by omega
      go_wp2_with fail
      go_ret
      exact ⟨L, ⟨by omega, hsm⟩, g, cc, rfl, ho, hbel⟩
set_option maxRecDepth 20000 in
set_option maxHeartbeats 2000000 in
theorem l7Path (N b : Nat) (a : Option Addr) (n cap : Nat) (k : Int) (w : World) (h : Src N w b a n cap k) (hk : k ≤ 4294967296) :
    Calls Tryd.prog 18 #[.pointer (some ⟨b, 0, none⟩)] w fun e w' => ∃ x, e = .returned (.string x) ∧ x.size ≤ 100 ∧ Src N w' b a n cap (k + 1) ∧ w.grownBy w' (some b) := by
  have hlt := h.lt
  have lL := lit_new w [(⟨#[97]⟩ : ByteArray), (⟨#[98]⟩ : ByteArray), (⟨#[100, 105, 114, 47, 97]⟩ : ByteArray), (⟨#[100, 105, 114, 47, 98]⟩ : ByteArray), (⟨#[100, 105, 114, 47, 105, 110, 47, 120]⟩ : ByteArray), (⟨#[108, 105, 98]⟩ : ByteArray), (⟨#[108, 105, 98, 47, 122]⟩ : ByteArray), (⟨#[99, 46, 103, 111]⟩ : ByteArray), (⟨#[120, 47, 121, 47, 122, 47, 119]⟩ : ByteArray)] 9 100 (by decide)
  simp only [List.map_cons, List.map_nil, List.length_cons, List.length_nil, Nat.zero_add, Nat.reduceAdd] at lL
  have hs := h.below (allocBelow w (.cells #[.string ⟨#[97]⟩, .string ⟨#[98]⟩, .string ⟨#[100, 105, 114, 47, 97]⟩, .string ⟨#[100, 105, 114, 47, 98]⟩, .string ⟨#[100, 105, 114, 47, 105, 110, 47, 120]⟩, .string ⟨#[108, 105, 98]⟩, .string ⟨#[108, 105, 98, 47, 122]⟩, .string ⟨#[99, 46, 103, 111]⟩, .string ⟨#[120, 47, 121, 47, 122, 47, 119]⟩] 9))
  have hg : w.grownBy (w.alloc (.cells #[.string ⟨#[97]⟩, .string ⟨#[98]⟩, .string ⟨#[100, 105, 114, 47, 97]⟩, .string ⟨#[100, 105, 114, 47, 98]⟩, .string ⟨#[100, 105, 114, 47, 105, 110, 47, 120]⟩, .string ⟨#[108, 105, 98]⟩, .string ⟨#[108, 105, 98, 47, 122]⟩, .string ⟨#[99, 46, 103, 111]⟩, .string ⟨#[120, 47, 121, 47, 122, 47, 119]⟩] 9)) (some b) := grA
  go_enter Tryd.func18, Tryd.ntmps18
  go_wp2_with fail
  refine (l1Next N b a n cap k 9 _ hs hk).mono ?_; rintro e w2 ⟨r, rfl, hd, s2, g2⟩
  have hd0 := hd.1
  have hd1 : r < 9 := hd.2.1 (by omega)
  obtain ⟨j, rfl⟩ := Int.eq_ofNat_of_zero_le hd0
  obtain ⟨x, hx, hx1⟩ := (lL.kept g2 (by simp; omega)) j (by omega)
  have G := grown_trans hg g2
  clear lL hs hg g2 hd
  go_wp2
  go_ret
  exact ⟨x, rfl, hx1, s2, G⟩
/-- What is drawn: an index, a path, a mode, an id. -/
def RDPost (w : World) (e : Ending) (w' : World) : Prop := ∃ (L : List Ob) (g c : Nat) (p i : ByteArray) (m : Int), e = .returned (.tuple #[.slice (some ⟨g, 0, none⟩) L.length c, .string p, .int .i64 m, .string i]) ∧ L.length ≤ 5000 ∧ (∀ o ∈ L, EOk o) ∧ p.size ≤ 100 ∧ i.size ≤ 100 ∧ EnR w.heap.size w' g c L ∧ Below w.heap.size w w'
theorem rd_ret {w w' : World} {b g c : Nat} {L : List Ob} {p i : ByteArray} {m : Int} (hb : w.heap.size = b) (h1 : L.length ≤ 5000) (h2 : ∀ o ∈ L, EOk o) (h3 : p.size ≤ 100) (h4 : i.size ≤ 100) (h5 : EnR b w' g c L) (h6 : Below b w w') : RDPost w (.returned (.tuple #[.slice (some ⟨g, 0, none⟩) L.length c, .string p, .int .i64 m, .string i])) w' := by
  subst hb
  exact ⟨L, g, c, p, i, m, rfl, h1, h2, h3, h4, h5, h6⟩
/-- All that stands while the rest is drawn. -/
structure RW (q : Nat) (a : Option Addr) (n cap : Nat) (w wr : World) (L : List Ob) (g c : Nat) (k : Int) : Prop where
  own : EnR q wr g c L
  src : Src q wr q a n cap k
  bel : Below q w wr
  gq : g ≠ q
  sz : q < wr.heap.size
theorem RW.draw {q : Nat} {a : Option Addr} {n cap : Nat} {w wr w2 : World} {L : List Ob} {g c : Nat} {k k2 : Int} (h : RW q a n cap w wr L g c k) (hs : Src q w2 q a n cap k2) (hg : wr.grownBy w2 (some q)) (hq : q = w.heap.size) : RW q a n cap w w2 L g c k2 :=
  ⟨h.own.kept hg (.inr (by rw [ownBlock_slice]; simpa using h.gq)), hs, h.bel.grown hg (Nat.le_of_lt h.sz) (fun j hj => by cases hj; exact Nat.le_refl _), h.gq, Nat.lt_of_lt_of_le h.sz hg.size⟩
theorem below_drewS {w : World} : Below w.heap.size w w.drew := (Below.refl _ _).drew
theorem RW.new {q : Nat} {a : Option Addr} {n cap : Nat} {w wr w2 : World} {L : List Ob} {g c : Nat} {k : Int} (h : RW q a n cap w wr L g c k) (hB : Below wr.heap.size wr w2) : RW q a n cap w w2 L g c k :=
  ⟨h.own.bel hB, h.src.below hB, h.bel.trans (hB.mono (Nat.le_of_lt h.sz)), h.gq, Nat.lt_of_lt_of_le h.sz hB.size⟩
set_option maxRecDepth 20000 in
set_option maxHeartbeats 8000000 in
theorem drawResolvePath (a : Option Addr) (n cap : Nat) (w : World) (h : Bts w a n) (hn : n ≤ 2097152) :
    Calls Tryd.prog 5 #[.slice a n cap] w fun e w' => RDPost w e w' := by
  obtain ⟨q, hq⟩ : ∃ q, w.heap.size = q := ⟨_, rfl⟩
  have HQ : Hid (w.heap.size = q) := hq
  have hS := l1Source a n cap w h hn
  rw [hq] at hS
  clear h
  go_enter Tryd.func5, Tryd.ntmps5
  go_wp2_with fail
  refine hS.mono ?_; rintro e w1 ⟨rfl, s1, b1⟩
  have z1 := s1.lt
  clear hS
  go_wp2_with fail
  refine (l10Draw q q a n cap 0 w1 s1 (by omega)).mono ?_; rintro e w2 ⟨L, g, c, k2, rfl, hL, hok, o2, s2, hk2, g2⟩
  have R2 : RW q a n cap w w2 L g c k2 := ⟨o2.mono (by omega), s2, b1.grown g2 (by omega) (fun j hj => by cases hj; exact Nat.le_refl _), by have := (o2.lt g rfl).1; omega, Nat.lt_of_lt_of_le z1 g2.size⟩
  clear s1 b1 o2 s2 g2 z1 hq
  go_wp2_with fail
  refine (l7Path q q a n cap k2 w2 R2.src (by omega)).mono ?_; rintro e w3 ⟨p, rfl, hp, s3, g3⟩
  have R3 := R2.draw s3 g3 HQ.out.symm
  clear s3 g3 R2
  go_wp2_with fail
  refine (l10ClashesW _ c L w3 (OB.of R3.own) hL hok).mono ?_; rintro e w4 ⟨M, ⟨hM, hMs⟩, mg, mc, rfl, o4, b4⟩
  have R4 := R3.new b4
  have z3 : q < w3.heap.size := R3.sz
  have hmg : w3.heap.size ≤ mg := (o4.lt mg rfl).1
  clear R3 b4
  go_upto_region 5 with fail
  go_cut [25] from 18 to 26 (fun s wx => ∃ (D : Bool) (k5 : Int), s = .bool D ∧ (D = true → 0 < M.length) ∧ k5 ≤ k2 + 2 ∧ RW q a n cap w wx L g c k5 ∧ wx.ownsRow w3.heap.size 9 1 (.slice (some ⟨mg, 0, none⟩) M.length mc) M.length (M.map Value.string))
  case first =>
    by_cases h0 : 0 < M.length
    · have qM : (M.length : Int) > 0 := by omega
      have qM2 : (0 : Int) < (M.length : Int) := by omega
      go_wp2_with fail
      refine (l1Chance q q a n cap (k2 + 1) 6 _ R4.src (by omega)).mono ?_; rintro e w5 ⟨r5, rfl, s5, g5⟩
      have R5 := R4.draw s5 g5 HQ.out.symm
      have o5 := o4.kept g5 (.inr (by rw [ownBlock_slice]; simp; omega))
      clear s5 g5 R4 o4
      go_wp2_with fail
      go_meet
      exact ⟨_, _, rfl, fun _ => h0, by omega, R5, o5⟩
    · have qM : ¬ (M.length : Int) > 0 := by omega
      have qM2 : ¬ (0 : Int) < (M.length : Int) := by omega
      go_wp2_with fail
      go_meet
      exact ⟨_, _, rfl, fun h => (by cases h), by omega, R4, o4⟩
  case rest =>
  obtain ⟨D, k5, rfl, hD, hk5, R5, o5⟩ := hcut
  obtain ⟨w5, hw5⟩ : ∃ w5, wc = w5 := ⟨_, rfl⟩
  rw [hw5] at R5 o5 ⊢
  clear hw5 R4 o4
  go_upto_if 25 with (fail)
  go_cut [8] from 26 to 33 (fun s wx => ∃ (x : ByteArray) (k6 : Int), s = .string x ∧ x.size ≤ 100 ∧ k6 ≤ k2 + 5 ∧ RW q a n cap w wx L g c k6)
  case first =>
    cases D with
    | false =>
      go_wp2_with fail
      go_meet
      exact ⟨p, _, rfl, hp, by omega, R5⟩
    | true =>
      have h0 := hD rfl
      go_wp2_with fail
      refine (l1Next q q a n cap k5 M.length _ R5.src (by omega)).mono ?_; rintro e w6 ⟨r6, rfl, hd, s6, g6⟩
      have R6 := R5.draw s6 g6 HQ.out.symm
      have o6 := o5.kept g6 (.inr (by rw [ownBlock_slice]; simp; omega))
      have hd0 := hd.1
      have hd1 : r6 < (M.length : Int) := hd.2.1 (by omega)
      obtain ⟨j, rfl⟩ := Int.eq_ofNat_of_zero_le hd0
      have hj : j < M.length := by omega
      have c6 := o6.cellAt j (by omega)
      have hx6 : (M.map Value.string)[j]? = some (.string M[j]) := by simp [hj]
      rw [hx6] at c6
      have hxs := hMs _ (List.getElem_mem hj)
      obtain ⟨x, hx⟩ : ∃ x, M[j] = x := ⟨_, rfl⟩
      rw [hx] at c6 hxs
      clear s6 g6 R5 o5 hd hx hx6 o6
      go_wp2_with fail
      go_meet
      exact ⟨x, _, rfl, hxs, by omega, R6⟩
  case rest =>
  obtain ⟨p5, k6, rfl, hp5, hk6, R6⟩ := hcut
  obtain ⟨w6, hw6⟩ : ∃ w6, wc = w6 := ⟨_, rfl⟩
  rw [hw6] at R6 ⊢
  clear hw6
  clear R5 o5 hMs hp
  go_wp2_with fail
  refine (l1Chance q q a n cap k6 4 _ R6.src (by omega)).mono ?_; rintro e w7 ⟨r7, rfl, s7, g7⟩
  have R7 := R6.draw s7 g7 HQ.out.symm
  clear s7 g7 R6
  cases r7 with
  | true =>
    have lit2 : ∀ u : World, LitB (u.alloc (.cells #[.string ⟨#[]⟩, .string ⟨#[98, 48, 48, 48, 48]⟩] 9)) u.heap.size 2 100 := fun u => by
      have lL := lit_new u [(⟨#[]⟩ : ByteArray), (⟨#[98, 48, 48, 48, 48]⟩ : ByteArray)] 9 100 (by decide)
      simpa using lL
    have RA := (R7.new (allocBelow w7 (.cells #[.string ⟨#[]⟩, .string ⟨#[98, 48, 48, 48, 48]⟩] 9))).new below_drewS
    have lA : LitB (w7.alloc (.cells #[.string ⟨#[]⟩, .string ⟨#[98, 48, 48, 48, 48]⟩] 9)).drew w7.heap.size 2 100 := lit2 w7
    have RD := R7.new below_drewS
    have z7 := R7.sz
    have hNa := l1Next q q a n cap _ 2 _ RA.src (by omega)
    have hNb := l1Next q q a n cap _ 2 _ RD.src (by omega)
    go_wp2_with fail
    go_region_with (first
      | (go_at_call 21; (with_reducible refine hNa.mono ?_); rintro e w9 ⟨r9, rfl, hd, s9, g9⟩; have R9 := RA.draw s9 g9 HQ.out.symm; have hd0 := hd.1; have hd1 : r9 < 2 := hd.2.1 (by omega); obtain ⟨j, rfl⟩ := Int.eq_ofNat_of_zero_le hd0; obtain ⟨x, hx, hx1⟩ := (lA.kept g9 (by simp; omega)) j (by omega); have HF : Hid (RDPost w (.returned (.tuple #[.slice (some ⟨g, 0, none⟩) L.length c, .string p5, .int .i64 0, .string x])) (w9)) := rd_ret HQ.out hL hok hp5 hx1 R9.own R9.bel)
      | (go_at_call 21; (with_reducible refine hNb.mono ?_); rintro e w9 ⟨r9, rfl, hd, s9, g9⟩; have R9 := (RD.draw s9 g9 HQ.out.symm).new (allocBelow w9 (.cells #[.string ⟨#[]⟩, .string ⟨#[98, 48, 48, 48, 48]⟩] 9)); have hd0 := hd.1; have hd1 : r9 < 2 := hd.2.1 (by omega); obtain ⟨j, rfl⟩ := Int.eq_ofNat_of_zero_le hd0; obtain ⟨x, hx, hx1⟩ := (lit2 w9) j (by omega); have HF : Hid (RDPost w (.returned (.tuple #[.slice (some ⟨g, 0, none⟩) L.length c, .string p5, .int .i64 0, .string x])) (w9.alloc (.cells #[.string ⟨#[]⟩, .string ⟨#[98, 48, 48, 48, 48]⟩] 9))) := rd_ret HQ.out hL hok hp5 hx1 R9.own R9.bel))
    all_goals
      clear R9 RA RD R7 lit2 lA s9 g9 hd hNa hNb
      go_wp2
      refine bodyPost_ret (v := .tuple #[.slice (some ⟨g, 0, none⟩) L.length c, .string p5, .int .i64 0, .string x]) (by simp [results, Tryd.results5, go_sem]) rfl ?_
      exact HF.out
  | false =>
    have lit5 : ∀ u : World, LitB (u.alloc (.cells #[.string ⟨#[98, 48, 48, 97, 97]⟩, .string ⟨#[98, 48, 48, 97, 97]⟩, .string ⟨#[98, 48, 48, 97, 97]⟩, .string ⟨#[116, 48, 48, 48, 48]⟩, .string ⟨#[]⟩] 9)) u.heap.size 5 100 := fun u => by
      have lL := lit_new u [(⟨#[98, 48, 48, 97, 97]⟩ : ByteArray), (⟨#[98, 48, 48, 97, 97]⟩ : ByteArray), (⟨#[98, 48, 48, 97, 97]⟩ : ByteArray), (⟨#[116, 48, 48, 48, 48]⟩ : ByteArray), (⟨#[]⟩ : ByteArray)] 9 100 (by decide)
      simpa using lL
    have pk5 : ∀ u : World, ∀ j, j < 5 → ∃ v : Int, (u.alloc (.cells #[.int .i64 1, .int .i64 2, .int .i64 1, .int .i64 3, .int .i64 (-1)] 2)).cell? ⟨u.heap.size, j, none⟩ = some (.int .i64 v) ∧ True := by
      intro u j hj
      have q := Rs.new u #[.int .i64 1, .int .i64 2, .int .i64 1, .int .i64 3, .int .i64 (-1)] 2 j
      have hj5 : j = 0 ∨ j = 1 ∨ j = 2 ∨ j = 3 ∨ j = 4 := by omega
      rcases hj5 with rfl | rfl | rfl | rfl | rfl
      · exact ⟨1, q _ rfl, trivial⟩
      · exact ⟨2, q _ rfl, trivial⟩
      · exact ⟨1, q _ rfl, trivial⟩
      · exact ⟨3, q _ rfl, trivial⟩
      · exact ⟨-1, q _ rfl, trivial⟩
    have z7 := R7.sz
    obtain ⟨PZ, hPZ⟩ : ∃ Z, Obj.cells #[.int .i64 1, .int .i64 2, .int .i64 1, .int .i64 3, .int .i64 (-1)] 2 = Z := ⟨_, rfl⟩
    obtain ⟨SZ, hSZ⟩ : ∃ Z, Obj.cells #[.string ⟨#[98, 48, 48, 97, 97]⟩, .string ⟨#[98, 48, 48, 97, 97]⟩, .string ⟨#[98, 48, 48, 97, 97]⟩, .string ⟨#[116, 48, 48, 48, 48]⟩, .string ⟨#[]⟩] 9 = Z := ⟨_, rfl⟩
    rw [hPZ] at pk5
    rw [hSZ] at lit5
    have RA := (R7.new (allocBelow w7 PZ)).new below_drewS
    have RAB := ((R7.new (allocBelow w7 PZ)).new (allocBelow _ SZ)).new below_drewS
    have RBA := ((R7.new (allocBelow w7 SZ)).new (allocBelow _ PZ)).new below_drewS
    have lAB : LitB ((w7.alloc PZ).alloc SZ).drew (w7.heap.size + 1) 5 100 := by
      have q := lit5 (w7.alloc PZ)
      rw [World.size_alloc] at q
      exact q
    have lBA : LitB ((w7.alloc SZ).alloc PZ).drew w7.heap.size 5 100 := (lit5 w7).kept (row := none) (grT2 grA (grBE below_drewS none)) (by simp)
    have kA : ∀ j, j < 5 → ∃ v : Int, (w7.alloc PZ).drew.cell? ⟨w7.heap.size, j, none⟩ = some (.int .i64 v) ∧ True := pk5 w7
    have kAB : ∀ j, j < 5 → ∃ v : Int, ((w7.alloc PZ).alloc SZ).drew.cell? ⟨w7.heap.size, j, none⟩ = some (.int .i64 v) ∧ True := fun j hj => by
      obtain ⟨v, hv, _⟩ := pk5 w7 j hj
      exact ⟨v, (grA (o := SZ) (r := none)).cell hv (by simp), trivial⟩
    have kBA : ∀ j, j < 5 → ∃ v : Int, ((w7.alloc SZ).alloc PZ).drew.cell? ⟨w7.heap.size + 1, j, none⟩ = some (.int .i64 v) ∧ True := by
      have q := pk5 (w7.alloc SZ)
      rw [World.size_alloc] at q
      exact q
    have hPa := l1Pick q q a n cap _ w7.heap.size 5 5 (fun _ => True) _ RA.src (by omega) (by omega) (by omega) (by omega) (by simp) kA
    have hPab := l1Pick q q a n cap _ w7.heap.size 5 5 (fun _ => True) _ RAB.src (by omega) (by omega) (by omega) (by omega) (by simp; omega) kAB
    have hPba := l1Pick q q a n cap _ (w7.heap.size + 1) 5 5 (fun _ => True) _ RBA.src (by omega) (by omega) (by omega) (by omega) (by simp) kBA
    clear kA kAB kBA pk5
    go_wp2_with fail
    go_region_with (first
      | (go_at_call 22; (with_reducible refine hPa.mono ?_); rintro e w9 ⟨x9, rfl, _, s9, g9⟩; have R9 := RA.draw s9 g9 HQ.out.symm; have R9S := R9.new (allocBelow w9 SZ); have hMa := l1Next q q a n cap _ 5 w9 R9.src (by omega); have hMb := l1Next q q a n cap _ 5 (w9.alloc SZ) R9S.src (by omega); have z9 : w7.heap.size ≤ w9.heap.size := (by have := g9.size; rw [World.size_drew, World.size_alloc] at this; omega))
      | (go_at_call 22; (with_reducible refine hPab.mono ?_); rintro e w9 ⟨x9, rfl, _, s9, g9⟩; have R9 := RAB.draw s9 g9 HQ.out.symm; have lZ := lAB.kept g9 (by simp; omega); have hN0 := l1Next q q a n cap _ 5 w9 R9.src (by omega))
      | (go_at_call 22; (with_reducible refine hPba.mono ?_); rintro e w9 ⟨x9, rfl, _, s9, g9⟩; have R9 := RBA.draw s9 g9 HQ.out.symm; have lZ := lBA.kept g9 (by simp; omega); have hN0 := l1Next q q a n cap _ 5 w9 R9.src (by omega))
      | (go_at_call 21; (with_reducible refine hN0.mono ?_); rintro e w10 ⟨r10, rfl, hd, s10, g10⟩; have R10 := R9.draw s10 g10 HQ.out.symm; have hd0 := hd.1; have hd1 : r10 < 5 := hd.2.1 (by omega); obtain ⟨j, rfl⟩ := Int.eq_ofNat_of_zero_le hd0; obtain ⟨x, hx, hx1⟩ := (lZ.kept g10 (by simp; omega)) j (by omega); have HF : Hid (RDPost w (.returned (.tuple #[.slice (some ⟨g, 0, none⟩) L.length c, .string p5, .int .i64 x9, .string x])) (w10)) := rd_ret HQ.out hL hok hp5 hx1 R10.own R10.bel)
      | (go_at_call 21; (with_reducible refine hMb.mono ?_); rintro e w10 ⟨r10, rfl, hd, s10, g10⟩; have R10 := R9S.draw s10 g10 HQ.out.symm; have hd0 := hd.1; have hd1 : r10 < 5 := hd.2.1 (by omega); obtain ⟨j, rfl⟩ := Int.eq_ofNat_of_zero_le hd0; obtain ⟨x, hx, hx1⟩ := ((lit5 w9).kept g10 (by simp; omega)) j (by omega); have HF : Hid (RDPost w (.returned (.tuple #[.slice (some ⟨g, 0, none⟩) L.length c, .string p5, .int .i64 x9, .string x])) (w10)) := rd_ret HQ.out hL hok hp5 hx1 R10.own R10.bel)
      | (go_at_call 21; (with_reducible refine hMa.mono ?_); rintro e w10 ⟨r10, rfl, hd, s10, g10⟩; have R10 := (R9.draw s10 g10 HQ.out.symm).new (allocBelow w10 SZ); have hd0 := hd.1; have hd1 : r10 < 5 := hd.2.1 (by omega); obtain ⟨j, rfl⟩ := Int.eq_ofNat_of_zero_le hd0; obtain ⟨x, hx, hx1⟩ := (lit5 w10) j (by omega); have HF : Hid (RDPost w (.returned (.tuple #[.slice (some ⟨g, 0, none⟩) L.length c, .string p5, .int .i64 x9, .string x])) (w10.alloc SZ)) := rd_ret HQ.out hL hok hp5 hx1 R10.own R10.bel))
    all_goals
      clear R10 R9 RA RAB RBA R7 lit5 lAB lBA s10 g10 hd hPa hPab hPba
      go_wp2
      refine bodyPost_ret (v := .tuple #[.slice (some ⟨g, 0, none⟩) L.length c, .string p5, .int .i64 x9, .string x]) (by simp [results, Tryd.results5, go_sem]) rfl ?_
      exact HF.out
end Go.Proofs.YtipdebodanhooaaDoor.En
