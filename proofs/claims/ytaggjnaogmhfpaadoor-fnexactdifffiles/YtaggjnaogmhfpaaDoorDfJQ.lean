/- Files without a fault rise by path. No statement is proved here. -/
import Derived.Test.YtaggjnaogmhfpaaDoorRows
import Derived.Test.YtaggjnaogmhfpaaDoorLemQ
import Derived.Test.YtaggjnaogmhfpaaDoorDTabQ
import Derived.Test.YtaggjnaogmhfpaaDoorHkTQ
import Derived.Test.YtaggjnaogmhfpaaDoorFlLQ
import Derived.Test.YtaggjnaogmhfpaaDoorFfCQ
import Derived.Test.YtaggjnaogmhfpaaDoorDfMQ
import Derived.Test.YtaggjnaogmhfpaaDoorDfBQ
import Derived.Test.YtaggjnaogmhfpaaDoorDfPQ
import Derived.WalkKit
import Derived.ProofKit
import Derived.Below
import Derived.WalkSpells
import Derived.Deep.QuietTactic
import Derived.BigQuiet
import Derived.Deep.RegionWith
import Derived.Deep.RegionHeld
import Derived.Deep.RegionLaw
import Derived.Deep.CutRange
import Derived.Maps.AppendAt
import Derived.Laws.BitsLemmas
import Derived.Laws.Cover1
set_option linter.unusedVariables false
namespace Go.Proofs.YtaggjnaogmhfpaaDoor.Fl
open Go.ChangeShapes Go.WideShapes Go.ChangeAt Go.RowKit

theorem leF_no {a b : ByteArray} (h : leF a b = false) : plt b a := by
  unfold leF at h
  have h1 := h
  simp only [Bool.or_eq_false_iff] at h1
  rcases plt_tri a b with q | q | q
  · rw [(plt_less).2 q] at h1; exact absurd h1.1 (by decide)
  · subst q; simp at h1
  · exact q
theorem ffl_each {l : List Ob} (h : ffl l = 0) : l.length ≤ 60 ∧ ∀ k, k < l.length → fiF l k = 0 := by
  have hE : fiE l = 0 := by
    by_cases q : fiE l = 0
    · exact q
    · rw [ffl_bad q] at h; exact h
  have hN : ¬ 60 < l.length := fun q => by rw [fiE_many q] at hE; exact absurd hE (by decide)
  refine ⟨by omega, fun k hk => ?_⟩
  induction k using Nat.strongRecOn with
  | _ k ih =>
    by_cases q : fiF l k = 0
    · exact q
    · rw [fiE_bad hN hk (fun j hj => ih j hj (by omega)) q] at hE; exact absurd hE q
theorem ffl_rise {l : List Ob} (h : ffl l = 0) : Rise l := by
  obtain ⟨_, hk⟩ := ffl_each h
  have step : ∀ k, k + 1 < l.length → plt (l.getD k onil).1 (l.getD (k + 1) onil).1 := fun k hk1 => by
    have q := hk (k + 1) hk1
    unfold fiF at q
    rw [Nat.add_sub_cancel] at q
    split at q
    · split at q
      · exact absurd q (by decide)
      · rename_i n
        have : leF (l.getD (k + 1) onil).1 (l.getD k onil).1 = false := by
          cases c : leF (l.getD (k + 1) onil).1 (l.getD k onil).1 with
          | false => rfl
          | true => exact absurd ⟨Nat.succ_pos k, c⟩ n
        exact leF_no this
    · rename_i n; exact absurd q n
  intro i j hij hj
  induction j with
  | zero => omega
  | succ j ih =>
    by_cases e : i = j
    · subst e; exact step i hj
    · exact plt_tr _ _ _ (ih (by omega) (by omega)) (step j hj)
end Go.Proofs.YtaggjnaogmhfpaaDoor.Fl
