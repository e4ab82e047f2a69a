/- The program's sorted list of entries: the library's binary search, and an entry put behind all others. No statement is proved here. -/
import Derived.Test.YtjcnnmnnbjaheaaGreatDoorRows
import Derived.Test.YtjcnnmnnbjaheaaGreatDoorLemQ
import Derived.Test.YtjcnnmnnbjaheaaGreatDoorDTabQ
import Derived.Test.YtjcnnmnnbjaheaaGreatDoorHkTQ
import Derived.Test.YtjcnnmnnbjaheaaGreatDoorShelfQ
import Derived.Test.YtjcnnmnnbjaheaaGreatDoorIxMQ
import Derived.Test.YtjcnnmnnbjaheaaGreatDoorFlLQ
import Derived.Test.YtjcnnmnnbjaheaaGreatDoorEnLQ
import Derived.Test.YtjcnnmnnbjaheaaGreatDoorIxOQ
import Derived.Test.YtjcnnmnnbjaheaaGreatDoorSgCQ
import Derived.WalkKit
import Derived.ProofKit
import Derived.Below
import Derived.WalkSpells
import Derived.Deep.QuietTactic
import Derived.BigQuiet
import Derived.Deep.RegionWith
import Derived.Deep.RegionHeld
import Derived.Deep.CutRange
import Derived.Maps.AppendAt
import Derived.Laws.Cover1
namespace Go.Proofs.YtjcnnmnnbjaheaaGreatDoor.En
open Go.ChangeShapes Go.WideShapes Go.ChangeAt Go.RowKit

/-- Up to place p all are less than the target, and none from there on. -/
def Cuts (l : List Ob) (T : Ob) (p : Nat) : Prop := p ≤ l.length ∧ (∀ k, k < p → cmE (l.getD k onil) T < 0) ∧ (∀ k, p ≤ k → k < l.length → 0 ≤ cmE (l.getD k onil) T)
def hit (l : List Ob) (T : Ob) (p : Nat) : Bool := decide (p < l.length) && (cmE (l.getD p onil) T == 0)
end Go.Proofs.YtjcnnmnnbjaheaaGreatDoor.En
/- The program's sorted list of entries: an entry that is put behind all others. No statement is proved here. -/
namespace Go.Proofs.YtjcnnmnnbjaheaaGreatDoor.En
open Go.ChangeShapes Go.WideShapes Go.ChangeAt Go.RowKit

theorem oneE (l : List Ob) : ∀ u ∈ ocells l, u.oneCell' = true := by
  intro u hu
  unfold ocells rowG at hu
  obtain ⟨j, _, rfl⟩ := List.mem_map.1 hu
  unfold ocell
  split
  · rfl
  · split
    · rfl
    · split <;> rfl
theorem wpList_appE {w : World} {ops : Array Oper} {rest : List Oper} {o : Oper} {a : Act} {Q : Exit → Act → World → Prop} (hgd : o.guard = none) (s x : Operand)
    (ho : o.op = .call { callee := .builtin .append, args := #[s, x], argTypes := #[25, 25] })
    (base : Nat) (v : Value) (S0 : List Ob) (hs : a.eval s = v) (hown : w.ownsRow base 51 4 v S0.length (ocells S0))
    (AD : Addr) (cx : Nat) (S1 : List Ob) (hx : a.eval x = .slice (some AD) S1.length cx) (hx2 : ∀ j u, (ocells S1)[j]? = some u → w.cell? (AD.add j) = some u)
    (hb : S0.length + S1.length ≤ 2097152) (hbase : base ≤ w.heap.size)
    (h : ∀ v' w', w'.ownsRow base 51 4 v' (S0 ++ S1).length (ocells (S0 ++ S1)) → w.grownBy w' v.ownBlock → (v' = .slice none 0 0 ↔ v = .slice none 0 0 ∧ S1.length = 0) → (v'.ownBlock = v.ownBlock ∨ v'.ownBlock = some w.heap.size) → wpList Tryz.prog ops Q rest (a.put o.dst v') w') :
    wpList Tryz.prog ops Q (o :: rest) a w := by
  obtain ⟨i0, hi, hz0, hz1, hz2⟩ := info_parts infoObj
  refine wpList_append_own_at _ hgd s x _ ho base _ i0 _ 4 48 Tryz.underlying25 hi hz0 hz1 hz2 rfl (by decide) v _ _ hs hown AD S1.length cx (ocells S1) hx (ocells_length _) hx2 (oneE _) (by unfold maxLen; omega) (by omega) hbase ?_
  intro v' w' o1 g1 n1 k1
  refine h v' w' ?_ g1 n1 k1
  rw [List.length_append, ocells_app]; exact o1
theorem newE (w : World) (f : Ob) : ∀ j u, (ocells [f])[j]? = some u → (w.alloc (.cells #[.string f.1, .int .i64 f.2.1, .int .i64 f.2.2.1, .string f.2.2.2] 51)).cell? ((⟨w.heap.size, 0, none⟩ : Addr).add j) = some u := by
  intro j u hu
  rw [ocells_one] at hu
  have h := Rs.new w #[.string f.1, .int .i64 f.2.1, .int .i64 f.2.2.1, .string f.2.2.2] 51 j u hu
  rw [add_plain, Nat.zero_add]
  exact h
/-- A row of entries, grown. -/
def GE (base : Nat) (v : Value) (L : List Ob) (w : World) (e : Ending) (w' : World) : Prop := ∃ v', e = .returned v' ∧ w'.ownsRow base 51 4 v' L.length (ocells L) ∧ w.grownBy w' v.ownBlock ∧ (v'.ownBlock = v.ownBlock ∨ v'.ownBlock = some w.heap.size)
theorem rfGrew {w w' : World} {b : Nat} {vs : List Value} {row : Option Nat} (h : Rf w b vs) (hg : w.grownBy w' row) (hne : some b ≠ row) (hlt : b < w.heap.size) : Rf w' b vs :=
  ⟨fun k v hk => hg.cell (h.at_ k v hk) hne, fun k => by
    have e := hg.block b hlt hne
    have h1 := h.fz k
    unfold World.frozen? at h1 ⊢
    rw [e]; exact h1⟩
/-- A sorted list: its order, its elements, in a block of its own; the row lies in blocks behind. -/
structure SL (w : World) (b : Nat) (l : List Ob) (v : Value) : Prop where
  rf : Rf w b [.func (.func 85) #[] #[], v]
  own : w.ownsRow (b + 1) 51 4 v l.length (ocells l)
  lt : b < w.heap.size
theorem SL.below {w w' : World} {b : Nat} {l : List Ob} {v : Value} (h : SL w b l v) (hb : Below w.heap.size w w') : SL w' b l v :=
  ⟨h.rf.below h.lt hb, h.own.kept (grownOfBelow hb none) (blockCases _ _ fun b c1 c2 => by cases c2), Nat.lt_of_lt_of_le h.lt hb.size⟩
/-- Behind all of a list. -/
def Last (l : List Ob) (E : Ob) : Prop := ∀ k, k < l.length → cmE (l.getD k onil) E < 0
theorem Last.cuts {l : List Ob} {E : Ob} (h : Last l E) : Cuts l E l.length := ⟨Nat.le_refl _, h, fun k h1 h2 => absurd h2 (by omega)⟩
theorem Last.hit {l : List Ob} {E : Ob} : hit l E l.length = false := by unfold En.hit; simp
/-- What add leaves. -/
def AD (b : Nat) (L : List Ob) (w : World) (e : Ending) (w' : World) : Prop := e = .returned (.tuple #[]) ∧ (∃ v', SL w' b L v') ∧ Below b w w'
end Go.Proofs.YtjcnnmnnbjaheaaGreatDoor.En
