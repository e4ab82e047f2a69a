/- Deltas behind a list of deltas. No statement is proved here. -/
import Derived.Test.YtaggjnaogmhfpaaDoorRows
import Derived.Test.YtaggjnaogmhfpaaDoorLemQ
import Derived.Test.YtaggjnaogmhfpaaDoorDTabQ
import Derived.Test.YtaggjnaogmhfpaaDoorHkTQ
import Derived.Test.YtaggjnaogmhfpaaDoorDlLQ
import Derived.WalkKit
import Derived.ProofKit
import Derived.Below
import Derived.WalkSpells
import Derived.Deep.QuietTactic
import Derived.BigQuiet
import Derived.Deep.RegionWith
import Derived.Deep.RegionHeld
import Derived.Deep.RegionLaw
import Derived.Deep.CutRange
import Derived.Maps.AppendAt
import Derived.Laws.BitsLemmas
import Derived.Laws.Cover1
set_option linter.unusedVariables false
namespace Go.Proofs.YtaggjnaogmhfpaaDoor.Dl
open Go.ChangeShapes Go.WideShapes Go.ChangeAt Go.RowKit
theorem oneE (l : List Ob) : ∀ u ∈ ocells l, u.oneCell' = true := by
  intro u hu
  unfold ocells rowG at hu
  obtain ⟨j, _, rfl⟩ := List.mem_map.1 hu
  unfold ocell
  repeat (first | rfl | split)
theorem newE (w : World) (f : Ob) : ∀ j u, (ocells [f])[j]? = some u → (w.alloc (.cells #[.string f.1, .string f.2.1.1, .int .i64 f.2.1.2.1, .string f.2.1.2.2, .string f.2.2.1, .int .i64 f.2.2.2.1, .string f.2.2.2.2] 55)).cell? ((⟨w.heap.size, 0, none⟩ : Addr).add j) = some u := by
  intro j u hu
  rw [ocells_one] at hu
  have h := Rs.new w #[.string f.1, .string f.2.1.1, .int .i64 f.2.1.2.1, .string f.2.1.2.2, .string f.2.2.1, .int .i64 f.2.2.2.1, .string f.2.2.2.2] 55 j u hu
  rw [add_plain, Nat.zero_add]
  exact h
theorem wpList_appD {w : World} {ops : Array Oper} {rest : List Oper} {o : Oper} {a : Act} {Q : Exit → Act → World → Prop} (hgd : o.guard = none) (s x : Operand)
    (ho : o.op = .call { callee := .builtin .append, args := #[s, x], argTypes := #[24, 24] })
    (base : Nat) (v : Value) (S0 : List Ob) (hs : a.eval s = v) (hown : w.ownsRow base 55 7 v S0.length (ocells S0))
    (AD : Addr) (f : Ob) (hx : a.eval x = .slice (some AD) 1 1) (hx2 : ∀ j u, (ocells [f])[j]? = some u → w.cell? (AD.add j) = some u)
    (hb : S0.length ≤ 1000000) (hbase : base ≤ w.heap.size)
    (h : ∀ g c w', w'.ownsRow base 55 7 (.slice (some ⟨g, 0, none⟩) (S0 ++ [f]).length c) (S0 ++ [f]).length (ocells (S0 ++ [f])) → w.grownBy w' v.ownBlock → wpList Tryd.prog ops Q rest (a.put o.dst (.slice (some ⟨g, 0, none⟩) (S0 ++ [f]).length c)) w') :
    wpList Tryd.prog ops Q (o :: rest) a w := by
  obtain ⟨i0, hi, hz0, hz1, hz2⟩ := info_parts infoObj
  refine wpList_append_own_at _ hgd s x _ ho base _ i0 (.agg #[.string ⟨#[]⟩, .string ⟨#[]⟩, .int .i64 0, .string ⟨#[]⟩, .string ⟨#[]⟩, .int .i64 0, .string ⟨#[]⟩]) 7 96 Tryd.underlying24 hi hz0 hz1 hz2 rfl (by decide) v _ _ hs hown AD 1 1 (ocells [f]) hx (ocells_length _) hx2 (oneE _) (by unfold maxLen; omega) (by omega) hbase ?_
  intro v' w' o1 g1 _ _
  have hl : (S0 ++ [f]).length = S0.length + 1 := by simp
  obtain ⟨g, c, rfl⟩ : ∃ g c, v' = .slice (some ⟨g, 0, none⟩) (S0.length + 1) c := by
    rcases o1.2 with ⟨_, h0⟩ | ⟨tg, tc, cur, e, _⟩
    · omega
    · exact ⟨tg, tc, e⟩
  have k := h g c w' (by rw [hl, ocells_app]; exact o1) g1
  rw [hl] at k
  exact k
theorem nilD (base : Nat) (w : World) : w.ownsRow base 55 7 (.slice none 0 0) ([] : List Ob).length (ocells []) := ⟨rfl, .inl ⟨rfl, rfl⟩⟩
end Go.Proofs.YtaggjnaogmhfpaaDoor.Dl
