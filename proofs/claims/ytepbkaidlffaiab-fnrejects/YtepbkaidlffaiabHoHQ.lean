/- A hunk that is being made in memory: small laws. No statement is proved here. -/
import Derived.Test.YtepbkaidlffaiabRows
import Derived.Test.YtepbkaidlffaiabLemQ
import Derived.Test.YtepbkaidlffaiabStrsQ
import Derived.Test.YtepbkaidlffaiabDTabQ
import Derived.Test.YtepbkaidlffaiabOwnQ
import Derived.Test.YtepbkaidlffaiabFrQ
import Derived.Test.YtepbkaidlffaiabWvCQ
import Derived.Test.YtepbkaidlffaiabComQ
import Derived.Test.YtepbkaidlffaiabChgQ
import Derived.Test.YtepbkaidlffaiabEdCQ
import Derived.Test.YtepbkaidlffaiabHkLQ
import Derived.Test.YtepbkaidlffaiabHkTQ
import Derived.Test.YtepbkaidlffaiabHfCQ
import Derived.Test.YtepbkaidlffaiabHnLQ
import Derived.Test.YtepbkaidlffaiabHrRQ
import Derived.Test.YtepbkaidlffaiabHoMQ
import Derived.Test.YtepbkaidlffaiabHoPQ
import Derived.WalkKit
import Derived.ProofKit
import Derived.Below
import Derived.WalkSpells
import Derived.Maps.AppendAt
import Derived.Deep.RegionLaw
import Derived.Deep.CutRange
namespace Go.Proofs.Ytepbkaidlffaiab
open Go.ChangeShapes Go.WideShapes Go.ChangeAt Go.RowKit

/-- A hunk that is handed back: its numbers, and its lines in memory of their own. -/
def HkPost (h : Hk) (w : World) (e : Ending) (w' : World) : Prop := ∃ v, e = .returned (.agg #[.int .i64 h.1, .int .i64 h.2.1, v]) ∧ w'.ownsRow w.heap.size 9 1 v h.2.2.length (h.2.2.map Value.string) ∧ Below w.heap.size w w'

theorem CB.bQ {B Q : Nat} {w w' : World} {a : Option Addr} {l : List Chg} (h : CB B w a l) (hb : Below Q w w') (hB : B ≤ Q) : CB B w' a l := fun k hk => by
  obtain ⟨g, off, e, hg, h0, h1, h2, h3⟩ := h k hk
  exact ⟨g, off, e, hg, (hb.cell (p := ⟨g, off + k * 4, none⟩) (show g < Q by omega)).trans h0, (hb.cell (p := ⟨g, off + k * 4 + 1, none⟩) (show g < Q by omega)).trans h1, (hb.cell (p := ⟨g, off + k * 4 + 2, none⟩) (show g < Q by omega)).trans h2, (hb.cell (p := ⟨g, off + k * 4 + 3, none⟩) (show g < Q by omega)).trans h3⟩
theorem SSB.toQ {B Q : Nat} {w w' : World} {a : Option Addr} {ss : List ByteArray} (h : SSB B w a ss) (hb : Below Q w w') (hB : B ≤ Q) : SSB B w' a ss := ⟨h.1, fun j hj => by
  obtain ⟨b, o, e', hb', hc⟩ := h.2 j hj
  exact ⟨b, o, e', hb', (hb.cell (p := ⟨b, o + j, none⟩) (show b < Q by omega)).trans hc⟩⟩
/-- A hunk's variable at block p, its lines in a row of their own, and another variable at block q. -/
structure HS (p q : Nat) (W2 w : World) (ha hb : Int) (U : Value) (S : List ByteArray) (cv : List Value) : Prop where
  R : Rf w p [.int .i64 ha, .int .i64 hb, U]
  O : w.ownsRow (p + 1) 9 1 U S.length (S.map Value.string)
  C : Rs w q cv
  bel : Below p W2 w
  hp : p < w.heap.size
  hq : q < w.heap.size
  ne : ∀ j, U.ownBlock = some j → j ≠ q
theorem HS.ub {p q : Nat} {W2 w : World} {ha hb : Int} {U : Value} {S : List ByteArray} {cv : List Value} (h : HS p q W2 w ha hb U S cv) : ∀ j, U.ownBlock = some j → p + 1 ≤ j ∧ j < w.heap.size := fun j hj => h.O.lt j hj
theorem HS.drew {p q : Nat} {W2 w : World} {ha hb : Int} {U : Value} {S : List ByteArray} {cv : List Value} (h : HS p q W2 w ha hb U S cv) : HS p q W2 w.drew ha hb U S cv :=
  ⟨h.R.drew, h.O.drew, fun k v hk => h.C k v hk, below_drew h.bel, h.hp, h.hq, h.ne⟩
theorem HS.mid {p q : Nat} {W2 w w1 : World} {ha hb : Int} {U : Value} {S : List ByteArray} {cv : List Value} (h : HS p q W2 w ha hb U S cv) (g1 : w.grownBy w1 U.ownBlock) : Rf w1 p [.int .i64 ha, .int .i64 hb, U] :=
  ⟨fun k v hk => g1.cell (h.R.at_ k v hk) (fun e => by have := (h.ub p e.symm).1; omega), fun k => by
    have e := g1.block p h.hp (fun e => by have := (h.ub p e.symm).1; omega)
    have h1 := h.R.fz k
    unfold World.frozen? at h1 ⊢
    rw [e]; exact h1⟩
theorem HS.midC {p q : Nat} {W2 w w1 : World} {ha hb : Int} {U : Value} {S : List ByteArray} {cv : List Value} (h : HS p q W2 w ha hb U S cv) (g1 : w.grownBy w1 U.ownBlock) : Rs w1 q cv := fun k v hk => g1.cell (h.C k v hk) (fun e => h.ne q e.symm rfl)
theorem HS.step {p q : Nat} {W2 w w1 : World} {ha hb : Int} {U v' : Value} {S S' : List ByteArray} {cv : List Value} (h : HS p q W2 w ha hb U S cv) (hpq : p ≠ q) (o1 : w1.ownsRow (p + 1) 9 1 v' S'.length (S'.map Value.string)) (g1 : w.grownBy w1 U.ownBlock)
    (u1 : ∀ j, v'.ownBlock = some j → U.ownBlock = some j ∨ w.heap.size ≤ j) : HS p q W2 (w1.setCell ⟨p, 2, none⟩ v') ha hb v' S' cv := by
  have hs := g1.size
  have hss : (w1.setCell ⟨p, 2, none⟩ v').heap.size = w1.heap.size := by simp [World.setCell]
  have hp1 := h.hp
  have hq1 := h.hq
  refine ⟨(h.mid g1).set (by simp) _, ?_, fun k v hk => ?_, ?_, by omega, by omega, fun j hj => ?_⟩
  · exact o1.kept (grownSet w1 p 2 v') (blockCases _ _ fun i c1 c2 => by
      have e2 : p = i := by simpa using c2
      have := (o1.lt i c1).1
      omega)
  · exact (grownSet w1 p 2 v').cell (h.midC g1 k v hk) (fun e => by simp only [Option.some.injEq] at e; omega)
  · exact (h.bel.grown g1 (by omega) (fun i hi => by have := h.ub i hi; omega)).setCell (p := ⟨p, 2, none⟩) (Nat.le_refl _) _
  · rcases u1 j hj with e | e
    · exact h.ne j e
    · omega
end Go.Proofs.Ytepbkaidlffaiab
