/- Places of three sides in memory, and the contract of keptPlaces. No statement is proved here. -/
import Derived.Test.YtkeinpobngfioaaRows
import Derived.Test.YtkeinpobngfioaaLemQ
import Derived.Test.YtkeinpobngfioaaComQ
import Derived.Test.YtkeinpobngfioaaDTabQ
import Derived.Test.YtkeinpobngfioaaSTabQ
import Derived.Test.YtkeinpobngfioaaPairsQ
import Derived.Test.YtkeinpobngfioaaHkTQ
import Derived.Test.YtkeinpobngfioaaKpMQ
import Derived.WalkKit
import Derived.ProofKit
import Derived.Below
import Derived.WalkSpells
import Derived.Deep.QuietTactic
import Derived.BigQuiet
import Derived.Maps.AppendAt
import Derived.Deep.RegionLaw
import Derived.Deep.RegionWith
import Derived.Deep.CutRange
import Derived.Test.YtkeinpobngfioaaKpAQ
import Derived.WalkMore
import Derived.Deep.LoopGhost
namespace Go.Proofs.Ytkeinpobngfioaa
open Go.ChangeShapes Go.WideShapes Go.ChangeAt Go.RowKit

def t3z : T3 := (0, 0, 0)
def cells3 (c : T3) : List Value := [.int .i64 (c.1 : Int), .int .i64 (c.2.1 : Int), .int .i64 (c.2.2 : Int)]
def t3Cells : List T3 → List Value
  | [] => []
  | c :: l => cells3 c ++ t3Cells l
theorem t3Cells_append (l : List T3) (c : T3) : t3Cells (l ++ [c]) = t3Cells l ++ cells3 c := by
  induction l with
  | nil => simp [t3Cells]
  | cons a l ih => simp [t3Cells, ih]
theorem t3Cells_length (l : List T3) : (t3Cells l).length = l.length * 3 := by
  induction l with
  | nil => rfl
  | cons a l ih => simp [t3Cells, cells3, ih]; omega
theorem t3Cells_at (l : List T3) : ∀ (k j : Nat), k < l.length → j < 3 → (t3Cells l)[k * 3 + j]? = (cells3 (l.getD k t3z))[j]? := by
  induction l with
  | nil => intro k j h; exact absurd h (Nat.not_lt_zero _)
  | cons a l ih =>
    intro k j h hj
    have h4 : (cells3 a).length = 3 := rfl
    cases k with
    | zero =>
      rw [t3Cells, List.getElem?_append_left (by omega)]
      simp
    | succ k =>
      rw [t3Cells, List.getElem?_append_right (by omega), h4, show (k + 1) * 3 + j - 3 = k * 3 + j by omega, ih k j (by simp at h; omega) hj]
      simp
/-- Places that can be read. -/
def TP (B : Nat) (w : World) (a : Option Addr) (l : List T3) : Prop :=
  ∀ k, k < l.length → ∃ g off, a = some ⟨g, off, none⟩ ∧ g < B ∧ w.cell? ⟨g, off + k * 3, none⟩ = some (.int .i64 ((l.getD k t3z).1 : Int)) ∧ w.cell? ⟨g, off + k * 3 + 1, none⟩ = some (.int .i64 ((l.getD k t3z).2.1 : Int)) ∧ w.cell? ⟨g, off + k * 3 + 2, none⟩ = some (.int .i64 ((l.getD k t3z).2.2 : Int))
theorem TP.below {B : Nat} {w w' : World} {a : Option Addr} {l : List T3} (h : TP B w a l) (hb : Below w.heap.size w w') : TP B w' a l := fun k hk => by
  obtain ⟨g, off, e, hg, d0, d1, d2⟩ := h k hk
  have hF := Fr.ofBelow (lo := 0) (hi := 0) hb
  exact ⟨g, off, e, hg, hF.cell d0 (.inr (Nat.zero_le _)), hF.cell d1 (.inr (Nat.zero_le _)), hF.cell d2 (.inr (Nat.zero_le _))⟩
theorem TP.belowAt {B C : Nat} {w w' : World} {a : Option Addr} {l : List T3} (h : TP B w a l) (hB : B ≤ C) (hb : Below C w w') : TP B w' a l := fun k hk => by
  obtain ⟨g, off, e, hg, d0, d1, d2⟩ := h k hk
  have hl : g < C := by omega
  exact ⟨g, off, e, hg, (hb.cell (p := ⟨g, off + k * 3, none⟩) hl).trans d0, (hb.cell (p := ⟨g, off + k * 3 + 1, none⟩) hl).trans d1, (hb.cell (p := ⟨g, off + k * 3 + 2, none⟩) hl).trans d2⟩
theorem TP.mono {B B' : Nat} {w : World} {a : Option Addr} {l : List T3} (h : TP B w a l) (hb : B ≤ B') : TP B' w a l := fun k hk => by
  obtain ⟨g, off, e, hg, d⟩ := h k hk
  exact ⟨g, off, e, by omega, d⟩
theorem getT_drop (l : List T3) (n k : Nat) : (l.drop n).getD k t3z = l.getD (n + k) t3z := by simp [List.getD]
theorem TP.seg {B : Nat} {w : World} {a : Option Addr} {l : List T3} (h : TP B w a l) (n c : Nat) (hc : l.length ≤ c) : TP B w (if c = n then a else a.map (·.add (n * 3))) (l.drop n) := fun k hk => by
  have hk' : n + k < l.length := by simp at hk; omega
  obtain ⟨g, off, rfl, hg, d0, d1, d2⟩ := h (n + k) hk'
  refine ⟨g, off + n * 3, ?_, hg, ?_, ?_, ?_⟩
  · rw [if_neg (by omega), Option.map_some, add_plain]
  · rw [getT_drop, show off + n * 3 + k * 3 = off + (n + k) * 3 by omega]; exact d0
  · rw [getT_drop, show off + n * 3 + k * 3 = off + (n + k) * 3 by omega]; exact d1
  · rw [getT_drop, show off + n * 3 + k * 3 = off + (n + k) * 3 by omega]; exact d2
theorem t3_drop (l : List T3) (k : Nat) (h : k < l.length) : l.drop k = l.getD k t3z :: l.drop (k + 1) := by
  rw [List.drop_eq_getElem_cons h]; simp [List.getD, h]
theorem mat_drop (l : List (Nat × Nat)) (k : Nat) (h : k < l.length) : l.drop k = l.getD k (0, 0) :: l.drop (k + 1) := by
  rw [List.drop_eq_getElem_cons h]; simp [List.getD, h]
theorem ownMono3 {w : World} {base b : Nat} {e : TypeId} {v : Value} {n : Nat} {xs : List Value} (h : w.ownsRow base e 3 v n xs) (hb : b ≤ base) : w.ownsRow b e 3 v n xs := by
  refine ⟨h.1, ?_⟩
  rcases h.2 with h' | ⟨g, cap, cur, h1, h2, h3⟩
  · exact .inl h'
  · exact .inr ⟨g, cap, cur, h1, by omega, h3⟩
/-- Pairs that can be read. -/
def RPk (B : Nat) (w : World) (b1 b2 : Option Addr) (E : List (Nat × Nat)) : Prop :=
  ∀ k, k < E.length → ∃ g1 g2, b1 = some ⟨g1, 0, none⟩ ∧ b2 = some ⟨g2, 0, none⟩ ∧ g1 < B ∧ g2 < B ∧ w.cell? ⟨g1, k, none⟩ = some (.int .i64 ((E.getD k (0, 0)).1 : Int)) ∧ w.cell? ⟨g2, k, none⟩ = some (.int .i64 ((E.getD k (0, 0)).2 : Int))
theorem RPk.belowAt {B C : Nat} {w w' : World} {b1 b2 : Option Addr} {E : List (Nat × Nat)} (h : RPk B w b1 b2 E) (hB : B ≤ C) (hb : Below C w w') : RPk B w' b1 b2 E := fun k hk => by
  obtain ⟨g1, g2, e1, e2, l1, l2, d1, d2⟩ := h k hk
  have q1 : g1 < C := by omega
  have q2 : g2 < C := by omega
  exact ⟨g1, g2, e1, e2, l1, l2, (hb.cell (p := ⟨g1, k, none⟩) q1).trans d1, (hb.cell (p := ⟨g2, k, none⟩) q2).trans d2⟩
theorem RPk.mono {B B' : Nat} {w : World} {b1 b2 : Option Addr} {E : List (Nat × Nat)} (h : RPk B w b1 b2 E) (hb : B ≤ B') : RPk B' w b1 b2 E := fun k hk => by
  obtain ⟨g1, g2, e1, e2, l1, l2, d⟩ := h k hk
  exact ⟨g1, g2, e1, e2, by omega, by omega, d⟩
theorem Pr.toRPk {base : Nat} {w : World} {v1 v2 : Value} {E : List (Nat × Nat)} (h : Pr base w v1 v2 E) : ∃ b1 c1 b2 c2, v1 = .slice b1 E.length c1 ∧ v2 = .slice b2 E.length c2 ∧ RPk w.heap.size w b1 b2 E := by
  by_cases hE : 0 < E.length
  · obtain ⟨g1, c1, g2, c2, e1, e2, hB⟩ := h.toEB hE
    exact ⟨_, c1, _, c2, e1, e2, fun k hk => ⟨g1, g2, rfl, rfl, hB.l1, hB.l2, hB.c1 k hk, hB.c2 k hk⟩⟩
  · obtain ⟨b1, c1, e1⟩ := shapeS h.o1
    obtain ⟨b2, c2, e2⟩ := shapeS h.o2
    exact ⟨b1, c1, b2, c2, e1, e2, fun k hk => absurd hk (by omega)⟩
theorem keep3_len (xs ys : List (Nat × Nat)) : (keep3 xs ys).length ≤ xs.length := by
  have key : ∀ (n : Nat) (xs ys : List (Nat × Nat)), xs.length + ys.length ≤ n → (keep3 xs ys).length ≤ xs.length := by
    intro n
    induction n with
    | zero => intro xs ys h; have e : xs = [] := List.length_eq_zero_iff.1 (by omega); subst e; rw [keep3_nil_left]; simp
    | succ n ih =>
      intro xs ys h
      cases xs with
      | nil => rw [keep3_nil_left]; simp
      | cons p xs =>
        cases ys with
        | nil => rw [keep3_nil_right]; simp
        | cons r ys =>
          obtain ⟨p, q⟩ := p
          obtain ⟨r, s⟩ := r
          simp only [List.length_cons] at h
          rcases Nat.lt_trichotomy p r with hl | rfl | hl
          · rw [keep3_lt _ _ hl]; have := ih xs ((r, s) :: ys) (by simp; omega); simp only [List.length_cons]; omega
          · rw [keep3_eq]; have := ih xs ys (by omega); simp only [List.length_cons]; omega
          · rw [keep3_gt _ _ hl]; exact ih ((p, q) :: xs) ys (by simp; omega)
  exact key _ xs ys (Nat.le_refl _)
end Go.Proofs.Ytkeinpobngfioaa
/- The contract of keptTogether. No statement is proved here. -/
namespace Go.Proofs.Ytkeinpobngfioaa
open Go.ChangeShapes Go.WideShapes Go.ChangeAt Go.RowKit

/-- Places of a size that a text can have. -/
def T3s (l : List T3) : Prop := ∀ p ∈ l, p.1 ≤ 1048576 ∧ p.2.1 ≤ 1048576 ∧ p.2.2 ≤ 1048576
theorem t3_mem (l : List T3) (k : Nat) (hk : k < l.length) : l.getD k t3z ∈ l := by
  rw [List.getD, List.getElem?_eq_getElem hk]; exact List.getElem_mem hk
theorem bneT {a b : Int} (h : a = b) : (a != b) = false := by simp [h]
theorem bneF {a b : Int} (h : ¬ a = b) : (a != b) = true := by simp [h]
theorem tog_step {L : List T3} {k n : Nat} (hk : k < L.length) (h : n = k + tog (L.getD (k - 1) t3z) (L.drop k)) (e : L.getD k t3z = nx (L.getD (k - 1) t3z)) : n = (k + 1) + tog (L.getD (k + 1 - 1) t3z) (L.drop (k + 1)) := by
  rw [t3_drop L k hk, e, tog_yes] at h
  rw [Nat.add_sub_cancel, e]
  omega
theorem tog_stop {L : List T3} {k n : Nat} (hk : k < L.length) (h : n = k + tog (L.getD (k - 1) t3z) (L.drop k)) (e : ¬ L.getD k t3z = nx (L.getD (k - 1) t3z)) : n = k := by
  rw [t3_drop L k hk, tog_no _ e] at h
  omega
end Go.Proofs.Ytkeinpobngfioaa
