/- Files that are one's own while bytes are drawn; a path drawn. No statement is proved here. -/
import Derived.Test.YtkgcpndnlefkoaaGreatDoorRows
import Derived.Test.YtkgcpndnlefkoaaGreatDoorLemQ
import Derived.Test.YtkgcpndnlefkoaaGreatDoorLwEQ
import Derived.Test.YtkgcpndnlefkoaaGreatDoorLFLemQ
import Derived.Test.YtkgcpndnlefkoaaGreatDoorDTabQ
import Derived.Test.YtkgcpndnlefkoaaGreatDoorInQ
import Derived.Test.YtkgcpndnlefkoaaGreatDoorDigCQ
import Derived.Test.YtkgcpndnlefkoaaGreatDoorObLQ
import Derived.Test.YtkgcpndnlefkoaaGreatDoorGtSQ
import Derived.Test.YtkgcpndnlefkoaaGreatDoorShQQ
import Derived.Test.YtkgcpndnlefkoaaGreatDoorOcAQ
import Derived.Test.YtkgcpndnlefkoaaGreatDoorPuSQ
import Derived.Test.YtkgcpndnlefkoaaGreatDoorJoinCQ
import Derived.Test.YtkgcpndnlefkoaaGreatDoorDrawQ
import Derived.Test.YtkgcpndnlefkoaaGreatDoorDraw5Q
import Derived.Test.YtkgcpndnlefkoaaGreatDoorDraw7Q
import Derived.Test.YtkgcpndnlefkoaaGreatDoorDraw12Q
import Derived.Test.YtkgcpndnlefkoaaGreatDoorDfMQ
import Derived.Test.YtkgcpndnlefkoaaGreatDoorDfBQ
import Derived.Test.YtkgcpndnlefkoaaGreatDoorDraw40Q
import Derived.WalkKit
import Derived.ProofKit
import Derived.Below
import Derived.WalkSpells
import Derived.Deep.QuietTactic
import Derived.BigQuiet
import Derived.Deep.RegionWith
import Derived.Deep.RegionHeld
import Derived.Deep.RegionLaw
import Derived.Deep.RegionHeldLaw
import Derived.Deep.Cut
import Derived.Deep.CutRange
import Derived.Maps.AppendAt
set_option linter.unusedVariables false
namespace Go.Proofs.YtkgcpndnlefkoaaGreatDoor
open Go.ChangeShapes Go.WideShapes Go.ChangeAt Go.RowKit
theorem setF_same (l : List Fl.Ob) (i : Nat) (X : Fl.Ob) (h : i < l.length) : (l.set i X).getD i Fl.onil = X := by simp [List.getD, h]
theorem setF_other (l : List Fl.Ob) (i j : Nat) (X : Fl.Ob) (h : ¬ j = i) : (l.set i X).getD j Fl.onil = l.getD j Fl.onil := by
  rw [List.getD, List.getD, List.getElem?_set_ne (by omega)]
theorem focells_id (l : List Fl.Ob) (i : Nat) (d : ByteArray) (hi : i < l.length) : (Fl.ocells l).set (i * 3 + 2) (.string d) = Fl.ocells (l.set i ((l.getD i Fl.onil).1, (l.getD i Fl.onil).2.1, d)) := by
  unfold Fl.ocells
  rw [Fl.rowG_set, List.length_set]
  refine Fl.rowG_congr fun j _ => ?_
  by_cases h0 : j = i * 3 + 2
  · subst h0
    rw [if_pos rfl, Fl.ocell2, setF_same l i _ hi]
  · rw [if_neg h0]
    unfold Fl.ocell
    by_cases e : j / 3 = i
    · rw [e, setF_same l i _ hi]
      by_cases h1 : j % 3 = 0
      · rw [if_pos h1, if_pos h1]
      · rw [if_neg h1, if_neg h1, if_pos (by omega), if_pos (by omega)]
    · rw [setF_other l i (j / 3) _ e]
theorem focells_mode (l : List Fl.Ob) (i : Nat) (x : Int) (hi : i < l.length) : (Fl.ocells l).set (i * 3 + 1) (.int .i64 x) = Fl.ocells (l.set i ((l.getD i Fl.onil).1, x, (l.getD i Fl.onil).2.2)) := by
  unfold Fl.ocells
  rw [Fl.rowG_set, List.length_set]
  refine Fl.rowG_congr fun j _ => ?_
  by_cases h0 : j = i * 3 + 1
  · subst h0
    rw [if_pos rfl, Fl.ocell1, setF_same l i _ hi]
  · rw [if_neg h0]
    unfold Fl.ocell
    by_cases e : j / 3 = i
    · rw [e, setF_same l i _ hi]
      by_cases h1 : j % 3 = 0
      · rw [if_pos h1, if_pos h1]
      · rw [if_neg h1, if_neg h1, if_neg (by omega), if_neg (by omega)]
    · rw [setF_other l i (j / 3) _ e]
theorem focells_path (l : List Fl.Ob) (i : Nat) (x : ByteArray) (hi : i < l.length) : (Fl.ocells l).set (i * 3) (.string x) = Fl.ocells (l.set i (x, (l.getD i Fl.onil).2.1, (l.getD i Fl.onil).2.2)) := by
  unfold Fl.ocells
  rw [Fl.rowG_set, List.length_set]
  refine Fl.rowG_congr fun j _ => ?_
  by_cases h0 : j = i * 3
  · subst h0
    rw [if_pos rfl, Fl.ocell0, setF_same l i _ hi]
  · rw [if_neg h0]
    unfold Fl.ocell
    by_cases e : j / 3 = i
    · rw [e, setF_same l i _ hi]
      have h1 : ¬ j % 3 = 0 := by omega
      rw [if_neg h1, if_neg h1]
    · rw [setF_other l i (j / 3) _ e]

/-- Files of one's own, while a source of bytes is read. -/
structure NW (N b : Nat) (a : Option Addr) (n cap : Nat) (K : Int) (z : Nat) (w0 w : World) (v : Value) (l : List Fl.Ob) : Prop where
  lt : b < w0.heap.size
  own : w.ownsRow w0.heap.size 42 3 v l.length (Fl.ocells l)
  src : ∃ k, Src N w b a n cap k ∧ k ≤ K
  gr : w0.grownBy w (some b)
  sm : SmF z l
variable {N b : Nat} {a : Option Addr} {n cap : Nat} {K : Int} {z : Nat} {w0 w w' : World} {v : Value} {l : List Fl.Ob}
theorem NW.draw {k' K' : Int} (h : NW N b a n cap K z w0 w v l) (hs : Src N w' b a n cap k') (hk : k' ≤ K') (hg : w.grownBy w' (some b)) : NW N b a n cap K' z w0 w' v l :=
  ⟨h.lt, h.own.kept hg (blockCases _ _ fun j q1 q2 => by cases q2; have := (h.own.lt _ q1).1; have := h.lt; omega), ⟨k', hs, hk⟩, grown_trans h.gr hg, h.sm⟩
theorem NW.bel (h : NW N b a n cap K z w0 w v l) (hb : Below w.heap.size w w') : NW N b a n cap K z w0 w' v l := by
  obtain ⟨k, hs, hk⟩ := h.src
  exact ⟨h.lt, h.own.kept (grown_of_below hb none) (blockCases _ _ fun b c1 c2 => by cases c2), ⟨k, hs.below hb, hk⟩, grown_new h.gr (grown_of_below hb none) (fun j hj => by cases hj), h.sm⟩
theorem NW.up {K' : Int} {z' : Nat} (h : NW N b a n cap K z w0 w v l) (hk : K ≤ K') (hz : z ≤ z') : NW N b a n cap K' z' w0 w v l := by
  obtain ⟨k, hs, hk0⟩ := h.src
  exact ⟨h.lt, h.own, ⟨k, hs, by omega⟩, h.gr, h.sm.up hz⟩
/-- Another row in its place. -/
theorem NW.other {v' : Value} {l' : List Fl.Ob} {B : Nat} (h : NW N b a n cap K z w0 w v l) (hb : Below w.heap.size w w') (ho : w'.ownsRow B 42 3 v' l'.length (Fl.ocells l')) (hB : w0.heap.size ≤ B) (hs : SmF z l') : NW N b a n cap K z w0 w' v' l' := by
  have k := h.bel hb
  exact ⟨k.lt, ownDn ho hB, k.src, k.gr, hs⟩
/-- Behind an append. -/
theorem NW.app {v' : Value} {l' : List Fl.Ob} (h : NW N b a n cap K z w0 w v l) (hg : w.grownBy w' v.ownBlock) (ho : w'.ownsRow w0.heap.size 42 3 v' l'.length (Fl.ocells l')) (hs : SmF z l') : NW N b a n cap K z w0 w' v' l' := by
  obtain ⟨k, hsr, hk⟩ := h.src
  have hne : some b ≠ v.ownBlock := fun e => by have := (h.own.lt b e.symm).1; have := h.lt; omega
  exact ⟨h.lt, ho, ⟨k, hsr.kept hg hne (fun j hj => by have := (h.own.lt j hj).1; have := h.lt; have := hsr.ge; omega), hk⟩, grown_new h.gr hg (fun j hj => (h.own.lt j hj).1), hs⟩
theorem SmF.get {i : Nat} (h : SmF z l) (hi : i < l.length) : (l.getD i Fl.onil).1.size ≤ z ∧ (l.getD i Fl.onil).2.2.size ≤ z := h _ (by rw [List.getD, List.getElem?_eq_getElem hi]; exact List.getElem_mem _)
theorem SmF.set {i : Nat} {X : Fl.Ob} (h : SmF z l) (h1 : X.1.size ≤ z) (h2 : X.2.2.size ≤ z) : SmF z (l.set i X) := fun x hx => by
  rcases List.mem_or_eq_of_mem_set hx with q | rfl
  · exact h x q
  · exact ⟨h1, h2⟩
/-- A cell stored anew. -/
theorem NW.put {g c i j : Nat} {u : Value} {X : Fl.Ob} (h : NW N b a n cap K z w0 w (.slice (some ⟨g, 0, none⟩) l.length c) l) (hi : i < l.length) (he : (Fl.ocells l).set j u = Fl.ocells (l.set i X)) (h1 : X.1.size ≤ z) (h2 : X.2.2.size ≤ z) :
    NW N b a n cap K z w0 (w.setCell ⟨g, j, none⟩ u) (.slice (some ⟨g, 0, none⟩) l.length c) (l.set i X) := by
  obtain ⟨t1, t2⟩ := h.own.stored j u
  rw [he] at t1
  refine h.app (v' := .slice (some ⟨g, 0, none⟩) l.length c) (l' := l.set i X) ?_ ?_ (h.sm.set h1 h2)
  · exact t2
  · rw [List.length_set]; exact t1
theorem NW.cells {g c i : Nat} (h : NW N b a n cap K z w0 w (.slice (some ⟨g, 0, none⟩) l.length c) l) (hi : i < l.length) :
    w.cell? ⟨g, i * 3, none⟩ = some (.string (l.getD i Fl.onil).1) ∧ w.cell? ⟨g, i * 3 + 1, none⟩ = some (.int .i64 (l.getD i Fl.onil).2.1) ∧ w.cell? ⟨g, i * 3 + 2, none⟩ = some (.string (l.getD i Fl.onil).2.2) := by
  have o3 := h.own
  refine ⟨?_, ?_, ?_⟩
  · rw [o3.cellAt (i * 3) (by omega)]; unfold Fl.ocells; rw [Fl.rowG_at _ _ _ (by omega), Fl.ocell0]
  · rw [o3.cellAt (i * 3 + 1) (by omega)]; unfold Fl.ocells; rw [Fl.rowG_at _ _ _ (by omega), Fl.ocell1]
  · rw [o3.cellAt (i * 3 + 2) (by omega)]; unfold Fl.ocells; rw [Fl.rowG_at _ _ _ (by omega), Fl.ocell2]
set_option maxRecDepth 20000 in
set_option maxHeartbeats 2000000 in
theorem l7Path (N b : Nat) (a : Option Addr) (n cap : Nat) (k : Int) (w : World) (h : Src N w b a n cap k) (hk : k ≤ 4294900000) :
    Calls Tryz.prog 46 #[.pointer (some ⟨b, 0, none⟩)] w fun e w' => ∃ x, e = .returned (.string x) ∧ x.size ≤ 8 ∧ Src N w' b a n cap (k + 1) ∧ w.grownBy w' (some b) := by
  have hlt := h.lt
  obtain ⟨WL, hWL⟩ : ∃ W, w.alloc (.cells #[.string ⟨#[97]⟩, .string ⟨#[98]⟩, .string ⟨#[100, 105, 114, 47, 97]⟩, .string ⟨#[100, 105, 114, 47, 98]⟩, .string ⟨#[100, 105, 114, 47, 105, 110, 47, 120]⟩, .string ⟨#[108, 105, 98]⟩, .string ⟨#[108, 105, 98, 47, 122]⟩, .string ⟨#[99, 46, 103, 111]⟩, .string ⟨#[120, 47, 121, 47, 122, 47, 119]⟩] 9) = W := ⟨_, rfl⟩
  have lB : LitB WL w.heap.size 9 8 := by
    rw [← hWL]
    exact lit_new w [⟨#[97]⟩, ⟨#[98]⟩, ⟨#[100, 105, 114, 47, 97]⟩, ⟨#[100, 105, 114, 47, 98]⟩, ⟨#[100, 105, 114, 47, 105, 110, 47, 120]⟩, ⟨#[108, 105, 98]⟩, ⟨#[108, 105, 98, 47, 122]⟩, ⟨#[99, 46, 103, 111]⟩, ⟨#[120, 47, 121, 47, 122, 47, 119]⟩] 9 8 (by decide)
  have bL : Below w.heap.size w WL := by rw [← hWL]; exact allocBelow _ _
  have s0 := h.below bL
  have G0 : w.grownBy WL (some b) := grown_of_below bL _
  have hN := l1Next N b a n cap k 9 WL s0 (by omega)
  have HW : Hid (_ = WL) := hWL
  clear hWL bL s0 h
  go_enter Tryz.func46, Tryz.ntmps46
  go_wp2_with fail
  rw [HW.out]
  refine hN.mono ?_; rintro e w1 ⟨r, rfl, hd, s1, g1⟩
  have hd0 := hd.1
  have hd1 : r < 9 := hd.2.1 (by omega)
  obtain ⟨j, rfl⟩ := Int.eq_ofNat_of_zero_le hd0
  have hj : j < 9 := by omega
  have l1 := lB.kept g1 (fun e => by have := Option.some.inj e; omega)
  obtain ⟨x, hx, hz⟩ := l1 j hj
  have q0 : (j : Int) < 9 := by omega
  have G1 := grown_trans G0 g1
  clear hd hd0 hN lB l1 g1 G0 HW
  go_wp2
  go_ret
  exact ⟨x, rfl, hz, s1, G1⟩
end Go.Proofs.YtkgcpndnlefkoaaGreatDoor
