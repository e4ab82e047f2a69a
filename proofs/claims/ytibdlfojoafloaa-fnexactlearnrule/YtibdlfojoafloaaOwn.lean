/- Rows that are owned, and structs of two cells: small laws. No statement is proved here. -/
import Derived.Test.YtibdlfojoafloaaRows
import Derived.Test.YtibdlfojoafloaaLem
import Derived.Test.YtibdlfojoafloaaStrs
import Derived.Test.YtibdlfojoafloaaDTab
import Derived.WalkKit
import Derived.ProofKit
import Derived.Below
namespace Go.Proofs.Ytibdlfojoafloaa
open Go.ChangeShapes Go.WideShapes Go.ChangeAt Go.RowKit

theorem ownMono {w : World} {base b : Nat} {e : TypeId} {v : Value} {n : Nat} {xs : List Value} (h : w.ownsRow base e 1 v n xs) (hb : b ≤ base) : w.ownsRow b e 1 v n xs := by
  refine ⟨h.1, ?_⟩
  rcases h.2 with h' | ⟨g, cap, cur, h1, h2, h3⟩
  · exact .inl h'
  · exact .inr ⟨g, cap, cur, h1, by omega, h3⟩
theorem blockCases (v : Value) (row : Option Nat) (h : ∀ j, v.ownBlock = some j → row = some j → False) : v.ownBlock = none ∨ v.ownBlock ≠ row := by
  rcases e : v.ownBlock with _ | j
  · exact .inl rfl
  · exact .inr (fun c => h j e c.symm)
theorem ret_agg2 {a b c d : Value} (h1 : a = c) (h2 : b = d) : Ending.returned (.agg #[a, b]) = .returned (.agg #[c, d]) := by rw [h1, h2]
/-- A struct of two cells that a variable holds. -/
structure Res2 (w : World) (p : Nat) (u v : Value) : Prop where
  c0 : w.cell? ⟨p, 0, none⟩ = some u
  c1 : w.cell? ⟨p, 1, none⟩ = some v
  f0 : w.frozen? ⟨p, 0, none⟩ = false
  f1 : w.frozen? ⟨p, 1, none⟩ = false
theorem Res2.new (w : World) (u v : Value) (t : TypeId) : Res2 (w.alloc (.cells #[u, v] t)) w.heap.size u v := ⟨by simp, by simp, by simp, by simp⟩
theorem Res2.below {w w' : World} {p : Nat} {u v : Value} (h : Res2 w p u v) (hp : p < w.heap.size) (hb : Below w.heap.size w w') : Res2 w' p u v :=
  ⟨(hb.cell (p := ⟨p, 0, none⟩) hp).trans h.c0, (hb.cell (p := ⟨p, 1, none⟩) hp).trans h.c1, (hb.frozen (p := ⟨p, 0, none⟩) hp).trans h.f0, (hb.frozen (p := ⟨p, 1, none⟩) hp).trans h.f1⟩
theorem below_sets {B p : Nat} {a w : World} (h : Below B a w) (hp : B ≤ p) (u v : Value) : Below B a ((w.setCell ⟨p, 0, none⟩ u).setCell ⟨p, 1, none⟩ v) := (h.setCell (p := ⟨p, 0, none⟩) hp u).setCell (p := ⟨p, 1, none⟩) hp v
theorem allocBelow (w : World) (o : Obj) : Below w.heap.size w (w.alloc o) := (Below.refl _ _).alloc (Nat.le_refl _) _
theorem ne_beq {v : Int} (h : ¬ v = 0) : (v != 0) = true := by simp [h]
theorem shapeS {w : World} {base : Nat} {e : TypeId} {v : Value} {n : Nat} {xs : List Value} (h : w.ownsRow base e 1 v n xs) : ∃ a c, v = .slice a n c := by
  rcases h.2 with ⟨rfl, rfl⟩ | ⟨g, cap, cur, rfl, _⟩
  · exact ⟨_, _, rfl⟩
  · exact ⟨_, _, rfl⟩
theorem newsOf {B : Nat} {w : World} {AD : Addr} {ss : List ByteArray} (h : SSB B w (some AD) ss) : ∀ j u, (ss.map Value.string)[j]? = some u → w.cell? (AD.add j) = some u := by
  intro j u hj
  have hl : j < ss.length := by have := (List.getElem?_eq_some_iff.1 hj).1; simpa using this
  obtain ⟨b, off, e, hb, hc⟩ := h.2 j hl
  simp only [Option.some.injEq] at e
  subst e
  rw [add_plain, hc, ← hj, getD_at ss j hl]
  simp [hl]
theorem oneStr (ss : List ByteArray) : ∀ u ∈ ss.map Value.string, u.oneCell' = true := by
  intro u hu
  obtain ⟨x, _, rfl⟩ := List.mem_map.1 hu
  rfl
theorem mapApp (xs ys : List ByteArray) : xs.map Value.string ++ ys.map Value.string = (xs ++ ys).map Value.string := by rw [List.map_append]
theorem ownLen {w : World} {base : Nat} {e : TypeId} {v : Value} {n : Nat} {xs : List Value} (h : w.ownsRow base e 1 v n xs) : w.ownsRow base e 1 v xs.length xs := by
  have h1 := h.1
  have e : n = xs.length := by omega
  rw [← e]; exact h
theorem vbOf {u v : Value} {B n m : Nat} (hu : ∀ j, u.ownBlock = some j → B ≤ j ∧ j < n) (hk : v.ownBlock = u.ownBlock ∨ v.ownBlock = some m) (hnm : n < m) (hl : ∀ j, v.ownBlock = some j → B ≤ j) : ∀ j, v.ownBlock = some j → B ≤ j ∧ j ≠ n := by
  intro j hj
  refine ⟨hl j hj, ?_⟩
  rcases hk with h | h
  · rw [h] at hj; have := (hu j hj).2; omega
  · rw [h] at hj; simp only [Option.some.injEq] at hj; omega
theorem below_drew {B : Nat} {a w : World} (h : Below B a w) : Below B a w.drew := h.trans ⟨rfl, rfl, rfl, Nat.le_refl _, fun _ _ => rfl⟩
/-- The answer with code r and lines L, in memory of its own. -/
def LP (r : Int) (L : List ByteArray) (w : World) (e : Ending) (w' : World) : Prop := ∃ v, e = .returned (.agg #[.int .i64 r, v]) ∧ w'.ownsRow w.heap.size 9 1 v L.length (L.map Value.string) ∧ Below w.heap.size w w'
end Go.Proofs.Ytibdlfojoafloaa
