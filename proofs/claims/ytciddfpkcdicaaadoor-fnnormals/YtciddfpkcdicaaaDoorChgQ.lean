/- Lists of changes in memory, and the contracts of impl.changesBetween and spec.l2Changes. No statement is proved here. -/
import Derived.Test.YtciddfpkcdicaaaDoorRows
import Derived.Test.YtciddfpkcdicaaaDoorLemQ
import Derived.Test.YtciddfpkcdicaaaDoorComQ
import Derived.Test.YtciddfpkcdicaaaDoorDTabQ
import Derived.Test.YtciddfpkcdicaaaDoorSTabQ
import Derived.Test.YtciddfpkcdicaaaDoorPairsQ
import Derived.WalkKit
import Derived.ProofKit
import Derived.Below
import Derived.WalkSpells
import Derived.Deep.QuietTactic
import Derived.BigQuiet
import Derived.Maps.AppendAt
import Derived.Deep.RegionLaw
namespace Go.Proofs.YtciddfpkcdicaaaDoor
open Go.ChangeShapes Go.WideShapes Go.ChangeAt Go.RowKit

def cells4 (c : Chg) : List Value := [.int .i64 c.1, .int .i64 c.2.1, .int .i64 c.2.2.1, .int .i64 c.2.2.2]
def chgCells : List Chg → List Value
  | [] => []
  | c :: l => cells4 c ++ chgCells l
theorem chgCells_append (l : List Chg) (c : Chg) : chgCells (l ++ [c]) = chgCells l ++ cells4 c := by
  induction l with
  | nil => simp [chgCells]
  | cons a l ih => simp [chgCells, ih]
theorem chgCells_length (l : List Chg) : (chgCells l).length = l.length * 4 := by
  induction l with
  | nil => rfl
  | cons a l ih => simp [chgCells, cells4, ih]; omega
theorem chgCells_at (l : List Chg) : ∀ (k j : Nat), k < l.length → j < 4 → (chgCells l)[k * 4 + j]? = (cells4 (l.getD k (0, 0, 0, 0)))[j]? := by
  induction l with
  | nil => intro k j h; exact absurd h (Nat.not_lt_zero _)
  | cons a l ih =>
    intro k j h hj
    have h4 : (cells4 a).length = 4 := rfl
    cases k with
    | zero =>
      rw [chgCells, List.getElem?_append_left (by omega)]
      simp
    | succ k =>
      rw [chgCells, List.getElem?_append_right (by omega), h4, show (k + 1) * 4 + j - 4 = k * 4 + j by omega, ih k j (by simp at h; omega) hj]
      simp
theorem newsRs {w : World} {b : Nat} {vs : List Value} (h : Rs w b vs) : ∀ j u, vs[j]? = some u → w.cell? ((⟨b, 0, none⟩ : Addr).add j) = some u := fun j u hu => by
  by_cases hj : j = 0
  · subst hj; simpa [Addr.add] using h 0 u hu
  · simpa [Addr.add, hj] using h j u hu
/-- The ends in memory below block B. -/
structure EB (B : Nat) (w : World) (g1 g2 : Nat) (E : List (Nat × Nat)) : Prop where
  l1 : g1 < B
  l2 : g2 < B
  c1 : ∀ k, k < E.length → w.cell? ⟨g1, k, none⟩ = some (.int .i64 ((E.getD k (0, 0)).1 : Int))
  c2 : ∀ k, k < E.length → w.cell? ⟨g2, k, none⟩ = some (.int .i64 ((E.getD k (0, 0)).2 : Int))
theorem EB.grown {B : Nat} {w w' : World} {g1 g2 : Nat} {E : List (Nat × Nat)} {row : Option Nat} (h : EB B w g1 g2 E) (hg : w.grownBy w' row) (hr : ∀ j, row = some j → B ≤ j) : EB B w' g1 g2 E :=
  ⟨h.l1, h.l2, fun k hk => hg.cell (h.c1 k hk) (fun e => by have := hr g1 e.symm; have := h.l1; omega), fun k hk => hg.cell (h.c2 k hk) (fun e => by have := hr g2 e.symm; have := h.l2; omega)⟩
theorem EB.drewN {B : Nat} {w : World} {g1 g2 : Nat} {E : List (Nat × Nat)} (h : EB B w g1 g2 E) (n : Nat) : EB B (w.drewN n) g1 g2 E := ⟨h.l1, h.l2, h.c1, h.c2⟩
theorem Pr.toEB {base : Nat} {w : World} {v1 v2 : Value} {E : List (Nat × Nat)} (h : Pr base w v1 v2 E) (hE : 0 < E.length) : ∃ g1 c1 g2 c2, v1 = .slice (some ⟨g1, 0, none⟩) E.length c1 ∧ v2 = .slice (some ⟨g2, 0, none⟩) E.length c2 ∧ EB w.heap.size w g1 g2 E := by
  have h1 := h.o1
  have h2 := h.o2
  rcases h1.2 with ⟨_, h0⟩ | ⟨g1, c1, cur1, rfl, _, hh1, _⟩
  · omega
  rcases h2.2 with ⟨_, h0⟩ | ⟨g2, c2, cur2, rfl, _, hh2, _⟩
  · omega
  refine ⟨g1, c1, g2, c2, rfl, rfl, (Array.getElem?_eq_some_iff.1 hh1).1, (Array.getElem?_eq_some_iff.1 hh2).1, fun k hk => ?_, fun k hk => ?_⟩
  · rw [h1.cellAt k (by omega)]; simp [fsts, List.getD, hk]
  · rw [h2.cellAt k (by omega)]; simp [snds, List.getD, hk]
theorem ownMono4 {w : World} {base b : Nat} {e : TypeId} {v : Value} {n : Nat} {xs : List Value} (h : w.ownsRow base e 4 v n xs) (hb : b ≤ base) : w.ownsRow b e 4 v n xs := by
  refine ⟨h.1, ?_⟩
  rcases h.2 with h' | ⟨g, cap, cur, h1, h2, h3⟩
  · exact .inl h'
  · exact .inr ⟨g, cap, cur, h1, by omega, h3⟩
theorem step_append_own {P : Program} {ops : Array Oper} {o : Oper} {a : Act} {w : World} {K : Act → World → Prop} {Q : Exit → Act → World → Prop} {E : Prop}
    (hg : o.guard = none) (s x : Operand) (t : TypeId) (hop : o.op = Op.call { callee := Callee.builtin Builtin.append, args := #[s, x], argTypes := #[t, t] })
    (base : Nat) (e : TypeId) (i : TypeInfo) (z : Value) (size bytes : Nat) (ht : P.underlying t = some (.slice e)) (hi : P.info? e = some i) (hz : i.zero = some z)
    (hsize : i.size = size) (hby : i.bytes = bytes) (hzs : z.cells.size = size) (hsz : 0 < size)
    (v : Value) (n : Nat) (xs : List Value) (hs : a.eval s = v) (hown : w.ownsRow base e size v n xs)
    (ad : Addr) (m c : Nat) (news : List Value) (hx : a.eval x = .slice (some ad) m c) (hl : news.length = m * size) (hnews : ∀ j u, news[j]? = some u → w.cell? (ad.add j) = some u) (h1 : ∀ u ∈ news, u.oneCell' = true)
    (h63 : n + m ≤ maxLen) (hbytes : (n + m) * bytes ≤ 140737488355328) (hbase : base ≤ w.heap.size)
    (hK : ∀ v' w', w'.ownsRow base e size v' (n + m) (xs ++ news) → w.grownBy w' v.ownBlock → K (a.put o.dst v') w') :
    if Region.wanted o (yielded ops a.tmps) = true then Oper.wp P o a w K Q else E := by
  have hw : Region.wanted o (yielded ops a.tmps) = true := by simp [Region.wanted, hg]
  rw [if_pos hw]
  obtain ⟨v', w', hr, h2, h3, h4, h5⟩ := run_append_own_at (P := P) w base t o.type e i z size bytes ht hi hz hsize hby hzs hsz v n xs hown ad m c news hl hnews h1 h63 hbytes hbase
  unfold Oper.wp
  simp [execOp, hop, resolve, invoke, builtin, hs, hx, hr, Result.andThen]
  exact hK _ _ h2 h3
theorem wrapId (x : Int) (h1 : -1000 ≤ x) (h2 : x ≤ 1000) : IntKind.i64.wrap x = x := by rw [IntKind.wrap_i64]; omega
theorem EB.drew {B : Nat} {w : World} {g1 g2 : Nat} {E : List (Nat × Nat)} (h : EB B w g1 g2 E) : EB B w.drew g1 g2 E := ⟨h.l1, h.l2, h.c1, h.c2⟩

end Go.Proofs.YtciddfpkcdicaaaDoor
