/- Files without a fault rise by path. No statement is proved here. -/
import Derived.Test.YtaggjnaogmhfpaaDoorRows
import Derived.Test.YtaggjnaogmhfpaaDoorLemQ
import Derived.Test.YtaggjnaogmhfpaaDoorDTabQ
import Derived.Test.YtaggjnaogmhfpaaDoorInQ
import Derived.Test.YtaggjnaogmhfpaaDoorFlLQ
import Derived.Test.YtaggjnaogmhfpaaDoorFfCQ
import Derived.Test.YtaggjnaogmhfpaaDoorDfMQ
import Derived.Test.YtaggjnaogmhfpaaDoorDfBQ
import Derived.Test.YtaggjnaogmhfpaaDoorDfPQ
import Derived.WalkKit
import Derived.ProofKit
import Derived.Below
import Derived.WalkSpells
import Derived.Deep.QuietTactic
import Derived.BigQuiet
import Derived.Deep.RegionWith
import Derived.Deep.RegionHeld
import Derived.Deep.RegionLaw
import Derived.Deep.CutRange
import Derived.Maps.AppendAt
import Derived.Laws.BitsLemmas
import Derived.Laws.Cover1
import Derived.Test.YtaggjnaogmhfpaaDoorFlTQ
import Derived.Laws.StructEq
set_option linter.unusedVariables false
namespace Go.Proofs.YtaggjnaogmhfpaaDoor.Fl
open Go.ChangeShapes Go.WideShapes Go.ChangeAt Go.RowKit

theorem leF_no {a b : ByteArray} (h : leF a b = false) : plt b a := by
  unfold leF at h
  have h1 := h
  simp only [Bool.or_eq_false_iff] at h1
  rcases plt_tri a b with q | q | q
  · rw [(plt_less).2 q] at h1; exact absurd h1.1 (by decide)
  · subst q; simp at h1
  · exact q
theorem ffl_each {l : List Ob} (h : ffl l = 0) : l.length ≤ 60 ∧ ∀ k, k < l.length → fiF l k = 0 := by
  have hE : fiE l = 0 := by
    by_cases q : fiE l = 0
    · exact q
    · rw [ffl_bad q] at h; exact h
  have hN : ¬ 60 < l.length := fun q => by rw [fiE_many q] at hE; exact absurd hE (by decide)
  refine ⟨by omega, fun k hk => ?_⟩
  induction k using Nat.strongRecOn with
  | _ k ih =>
    by_cases q : fiF l k = 0
    · exact q
    · rw [fiE_bad hN hk (fun j hj => ih j hj (by omega)) q] at hE; exact absurd hE q
theorem ffl_rise {l : List Ob} (h : ffl l = 0) : Rise l := by
  obtain ⟨_, hk⟩ := ffl_each h
  have step : ∀ k, k + 1 < l.length → plt (l.getD k onil).1 (l.getD (k + 1) onil).1 := fun k hk1 => by
    have q := hk (k + 1) hk1
    unfold fiF at q
    rw [Nat.add_sub_cancel] at q
    split at q
    · split at q
      · exact absurd q (by decide)
      · rename_i n
        have : leF (l.getD (k + 1) onil).1 (l.getD k onil).1 = false := by
          cases c : leF (l.getD (k + 1) onil).1 (l.getD k onil).1 with
          | false => rfl
          | true => exact absurd ⟨Nat.succ_pos k, c⟩ n
        exact leF_no this
    · rename_i n; exact absurd q n
  intro i j hij hj
  induction j with
  | zero => omega
  | succ j ih =>
    by_cases e : i = j
    · subst e; exact step i hj
    · exact plt_tr _ _ _ (ih (by omega) (by omega)) (step j hj)
end Go.Proofs.YtaggjnaogmhfpaaDoor.Fl
/- The contracts of MergeKind, of the program and of the specification. No statement is proved here. -/
namespace Go.Proofs.YtaggjnaogmhfpaaDoor.Fl
open Go.ChangeShapes Go.WideShapes Go.ChangeAt Go.RowKit

theorem run_eqF (x1 x3 y1 y3 : ByteArray) (x2 y2 : Int) (w : World) : (Op.equalIn 10000 52 (.agg #[.string x1, .int .i64 x2, .string x3]) (.agg #[.string y1, .int .i64 y2, .string y3])).run Tryd.prog w = .ok (decide (((x1, x2, x3) : Ob) = (y1, y2, y3))) w := by
  by_cases h1 : x1 = y1
  · subst h1
    have b1 := beqSelf x1
    by_cases h2 : x2 = y2
    · subst h2
      by_cases h3 : x3 = y3
      · subst h3
        have b3 := beqSelf x3
        go_simp
      · have b3 : (x3.toList == y3.toList) = false := beq_bytes_false h3
        have e : ¬ (((x1, x2, x3) : Ob) = (x1, x2, y3)) := fun h => h3 (by simpa using h)
        rw [decide_eq_false e]
        go_simp
    · have b2 : (x2 == y2) = false := by simp [h2]
      have e : ¬ (((x1, x2, x3) : Ob) = (x1, y2, y3)) := fun h => h2 (by simp at h; exact h.1)
      rw [decide_eq_false e]
      go_simp
  · have b1 : (x1.toList == y1.toList) = false := beq_bytes_false h1
    have e : ¬ (((x1, x2, x3) : Ob) = (y1, y2, y3)) := fun h => h1 (by simp at h; exact h.1)
    rw [decide_eq_false e]
    go_simp

/-- What MergeKind answers. -/
def mk (b o t : Ob) : Int := if o = t then 0 else if t = b then 1 else if o = b then 2 else if o = onil then 4 else if t = onil then 4 else 3
theorem ef_yes {x1 x3 y1 y3 : ByteArray} {x2 y2 : Int} (h : ((x1, x2, x3) : Ob) = (y1, y2, y3)) (w : World) : (Op.equalIn 10000 52 (.agg #[.string x1, .int .i64 x2, .string x3]) (.agg #[.string y1, .int .i64 y2, .string y3])).run Tryd.prog w = .ok true w := by
  rw [run_eqF, decide_eq_true h]
theorem ef_no {x1 x3 y1 y3 : ByteArray} {x2 y2 : Int} (h : ¬ ((x1, x2, x3) : Ob) = (y1, y2, y3)) (w : World) : (Op.equalIn 10000 52 (.agg #[.string x1, .int .i64 x2, .string x3]) (.agg #[.string y1, .int .i64 y2, .string y3])).run Tryd.prog w = .ok false w := by
  rw [run_eqF, decide_eq_false h]
theorem ef_nil {x1 x3 : ByteArray} {x2 : Int} (h : ((x1, x2, x3) : Ob) = onil) (w : World) : (Op.equalIn 10000 52 (.agg #[.string x1, .int .i64 x2, .string x3]) (.agg #[.string ⟨#[]⟩, .int .i64 0, .string ⟨#[]⟩])).run Tryd.prog w = .ok true w := ef_yes h w
theorem ef_some {x1 x3 : ByteArray} {x2 : Int} (h : ¬ ((x1, x2, x3) : Ob) = onil) (w : World) : (Op.equalIn 10000 52 (.agg #[.string x1, .int .i64 x2, .string x3]) (.agg #[.string ⟨#[]⟩, .int .i64 0, .string ⟨#[]⟩])).run Tryd.prog w = .ok false w := ef_no h w
end Go.Proofs.YtaggjnaogmhfpaaDoor.Fl
