/- The contracts of linesOfSide and l4Side: the lines of one side of all chunks. No statement is proved here. -/
import Derived.Test.YtkeinpobngfioaaRows
import Derived.Test.YtkeinpobngfioaaLemQ
import Derived.Test.YtkeinpobngfioaaLFLemQ
import Derived.Test.YtkeinpobngfioaaHkTQ
import Derived.Test.YtkeinpobngfioaaDTabQ
import Derived.Test.YtkeinpobngfioaaCkLQ
import Derived.Test.YtkeinpobngfioaaCkCQ
import Derived.WalkKit
import Derived.ProofKit
import Derived.Below
import Derived.WalkSpells
import Derived.Deep.QuietTactic
import Derived.BigQuiet
import Derived.Maps.AppendAt
import Derived.Laws.AppendOwnNone
import Derived.Deep.RegionWith
import Derived.Deep.CutRange
namespace Go.Proofs.Ytkeinpobngfioaa
open Go.ChangeShapes Go.WideShapes Go.ChangeAt Go.RowKit

/-- append of lines that can be read, or of nil, onto a row of lines that is owned. -/
theorem wpList_appN {w : World} {ops : Array Oper} {rest : List Oper} {o : Oper} {a : Act} {Q : Exit → Act → World → Prop} (hgd : o.guard = none) (s x : Operand)
    (ho : o.op = .call { callee := .builtin .append, args := #[s, x], argTypes := #[56, 56] })
    (base B : Nat) (v : Value) (S0 : List ByteArray) (hs : a.eval s = v) (hown : w.ownsRow base 9 1 v S0.length (S0.map Value.string))
    (ax : Option Addr) (cx : Nat) (S1 : List ByteArray) (hx : a.eval x = .slice ax S1.length cx) (hx2 : SSN B w ax cx S1)
    (hb : S0.length + S1.length ≤ 1048576) (hbase : base ≤ w.heap.size)
    (h : ∀ v' w', w'.ownsRow base 9 1 v' (S0 ++ S1).length ((S0 ++ S1).map Value.string) → w.grownBy w' v.ownBlock → (v'.ownBlock = v.ownBlock ∨ v'.ownBlock = some w.heap.size) → wpList Try.prog ops Q rest (a.put o.dst v') w') :
    wpList Try.prog ops Q (o :: rest) a w := by
  obtain ⟨i0, hi, hz0, hz1, hz2⟩ := info_parts infoString
  cases ax with
  | none =>
    have e3 : S1 = [] := by
      cases S1 with
      | nil => rfl
      | cons z zs => obtain ⟨b, off, e, _⟩ := hx2.1.2 0 (by simp); cases e
    subst e3
    have ec := hx2.2 rfl
    subst ec
    refine wpList_append_own_none hgd s x _ ho base _ i0 1 Try.underlying56 hi v _ _ hs hown hx ?_
    exact h v w (by simpa using hown) (World.grownBy.refl _ _) (.inl rfl)
  | some AD =>
    refine wpList_append_own_at _ hgd s x _ ho base _ i0 (.string ByteArray.empty) 1 16 Try.underlying56 hi hz0 hz1 hz2 rfl (by decide) v _ _ hs hown AD S1.length cx (S1.map Value.string) hx (by simp) (newsOf hx2.1) (oneStr _) (by unfold maxLen; omega) (by omega) hbase ?_
    intro v' w' o1 g1 _ k1
    refine h v' w' ?_ g1 k1
    rw [List.length_append, List.map_append]; exact o1
/-- A row of lines, in memory of its own. -/
def RP (L : List ByteArray) (w : World) (e : Ending) (w' : World) : Prop := ∃ v, e = .returned v ∧ w'.ownsRow w.heap.size 9 1 v L.length (L.map Value.string) ∧ Below w.heap.size w w'

end Go.Proofs.Ytkeinpobngfioaa
/- The contract of impl.ChunksFault. No statement is proved here. -/
namespace Go.Proofs.Ytkeinpobngfioaa
open Go.ChangeShapes Go.WideShapes Go.ChangeAt Go.RowKit

theorem Fr.zcell {w w' : World} {b o : Nat} {v : Value} (h : Below w.heap.size w w') (hc : w.cell? ⟨b, o, none⟩ = some v) : w'.cell? ⟨b, o, none⟩ = some v := (Fr.ofBelow (lo := 0) (hi := 0) h).cell hc (.inr (Nat.zero_le _))

end Go.Proofs.Ytkeinpobngfioaa
/- The contract of spec.ChunksFault. No statement is proved here. -/
namespace Go.Proofs.Ytkeinpobngfioaa
open Go.ChangeShapes Go.WideShapes Go.ChangeAt Go.RowKit

theorem wrapIn {x : Int} (h0 : -9223372036854775808 ≤ x) (h1 : x ≤ 9223372036854775807) : IntKind.i64.wrap x = x := by rw [IntKind.wrap_i64]; omega
theorem bare_sum (x0 : Int) (x1 x2 x3 : List ByteArray) : bare (x0, x1, x2, x3) = ((x1.length : Int) + (x2.length : Int) + (x3.length : Int) == 0) := by
  unfold bare
  by_cases h : x1.length = 0 ∧ x2.length = 0 ∧ x3.length = 0
  · have e : (x1.length : Int) + (x2.length : Int) + (x3.length : Int) = 0 := by omega
    rw [e]; exact decide_eq_true h
  · have e : ¬ (x1.length : Int) + (x2.length : Int) + (x3.length : Int) = 0 := by omega
    rw [show ((x1.length : Int) + (x2.length : Int) + (x3.length : Int) == 0) = false from beq_eq_false_iff_ne.2 e]; exact decide_eq_false h

end Go.Proofs.Ytkeinpobngfioaa
/- The contracts of CountClashes (the program's and the specification's). No statement is proved here. -/
namespace Go.Proofs.Ytkeinpobngfioaa
open Go.ChangeShapes Go.WideShapes Go.ChangeAt Go.RowKit

/-- How many clash. -/
def cc1 (c : Ck) : Int := if c.1 = 4 then 1 else 0
def cc (l : List Ck) : Int := (l.map cc1).sum
theorem cc_take (l : List Ck) (k : Nat) (h : k < l.length) : cc (l.take (k + 1)) = cc (l.take k) + cc1 (l.getD k cnil) := by
  unfold cc
  rw [List.take_succ_eq_append_getElem h, List.map_append, List.sum_append]
  simp [List.getD, h]
theorem cc_bd (l : List Ck) : 0 ≤ cc l ∧ cc l ≤ l.length := by
  unfold cc
  induction l with
  | nil => simp
  | cons c t ih =>
    have : 0 ≤ cc1 c ∧ cc1 c ≤ 1 := by unfold cc1; split <;> omega
    simp only [List.map_cons, List.sum_cons, List.length_cons]
    omega
def ccV (l : List Ck) : Int := if cf l = 0 then cc l else 0
theorem ret_2 {a b c d : Int} (h : a = c) (k : b = d) : Ending.returned (.agg #[.int .i64 a, .int .i64 b]) = .returned (.agg #[.int .i64 c, .int .i64 d]) := by rw [h, k]

end Go.Proofs.Ytkeinpobngfioaa
