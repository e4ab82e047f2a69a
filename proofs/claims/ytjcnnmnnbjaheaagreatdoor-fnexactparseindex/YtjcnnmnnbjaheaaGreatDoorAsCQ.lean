/- The contracts of errors.As at the program's two faults. No statement is proved here. -/
import Derived.Test.YtjcnnmnnbjaheaaGreatDoorRows
import Derived.Test.YtjcnnmnnbjaheaaGreatDoorLemQ
import Derived.WalkKit
import Derived.LaidEql
import Derived.Stop.Asserts
import Derived.RowKitTokens
import Derived.Below
import Derived.ProofKit
import Derived.Test.YtjcnnmnnbjaheaaGreatDoorIdxBQ
import Derived.Test.YtjcnnmnnbjaheaaGreatDoorDTabQ
import Derived.Test.YtjcnnmnnbjaheaaGreatDoorHkTQ
import Derived.Test.YtjcnnmnnbjaheaaGreatDoorIterQ
import Derived.Test.YtjcnnmnnbjaheaaGreatDoorIdLQ
import Derived.Test.YtjcnnmnnbjaheaaGreatDoorTeLQ
import Derived.Test.YtjcnnmnnbjaheaaGreatDoorWwCQ
import Derived.Test.YtjcnnmnnbjaheaaGreatDoorBldFQ
import Derived.Test.YtjcnnmnnbjaheaaGreatDoorJnCQ
import Derived.Test.YtjcnnmnnbjaheaaGreatDoorTrWQ
import Derived.Test.YtjcnnmnnbjaheaaGreatDoorFiCQ
import Derived.Test.YtjcnnmnnbjaheaaGreatDoorDtMQ
import Derived.WalkSpells
import Derived.Test.YtjcnnmnnbjaheaaGreatDoorDtLQ
import Derived.Test.YtjcnnmnnbjaheaaGreatDoorShelfQ
import Derived.Test.YtjcnnmnnbjaheaaGreatDoorMarksQ
import Derived.Test.YtjcnnmnnbjaheaaGreatDoorIxBQ
import Derived.RangeFuncWrites
import Derived.Maps.AppendAt
import Derived.OwnWalkIn
import Derived.Deep.RegionHeld
namespace Go.Proofs.YtjcnnmnnbjaheaaGreatDoor
open Go.RowKit Go.Extern.Stop Go.Stop Go.Extern

theorem rlm (z : Sem Value) (f : TypeId → Addr → Nat → Nat → Sem Value) (v : Value) :
    ReflectliteValue.method z f #[v] = (do match ← ReflectliteValue.parts v with | none => z | some (t, a, fl) => f t a fl (fl % 32)) := rfl
end Go.Proofs.YtjcnnmnnbjaheaaGreatDoor
/- The contracts of errors.As at the program's two faults, whole. No statement is proved here. -/
namespace Go.Proofs.YtjcnnmnnbjaheaaGreatDoor
open Go.RowKit Go.Extern.Stop Go.Stop Go.Extern

end Go.Proofs.YtjcnnmnnbjaheaaGreatDoor
/- The contract of the program's codeOf. No statement is proved here. -/
namespace Go.Proofs.YtjcnnmnnbjaheaaGreatDoor
open Go.RowKit

theorem allocB (w : World) (o : Obj) : Below w.heap.size w (w.alloc o) := (Below.refl _ _).alloc (Nat.le_refl _) _
theorem allocB2 {B : Nat} {w w' : World} (h : Below B w w') (hB : B ≤ w'.heap.size) (o : Obj) : Below B w (w'.alloc o) := h.alloc hB o

end Go.Proofs.YtjcnnmnnbjaheaaGreatDoor
/- The contract of the program's encode, at a tree. No statement is proved here. -/
namespace Go.Proofs.YtjcnnmnnbjaheaaGreatDoor.Te
open Go.ChangeShapes Go.WideShapes Go.ChangeAt Go.RowKit

theorem mem_trE_small {l : List Ob} (h : trE l = 0) : (trB l).size ≤ 1048576 := by
  have hm : ¬ 100 < l.length := fun h' => by rw [trE_many h'] at h; omega
  have key : ∀ n, n ≤ l.length → ∀ j, j < n → teF l j = 0 := by
    intro n
    induction n with
    | zero => intro _ j hj; omega
    | succ n ih =>
      intro hn j hj
      by_cases e : j < n
      · exact ih (by omega) j e
      · have e' : j = n := by omega
        subst e'
        by_cases hb : teF l j = 0
        · exact hb
        · rw [trE_bad hm (by omega) (ih (by omega)) hb] at h
          exact h
  have hlen := tr_len l.length (Nat.le_refl _) (fun j hj => teF_ef (key l.length (Nat.le_refl _) j hj))
  have e := trB_size (l := l) l.length
  rw [List.take_length] at e hlen
  omega

/-- The text of EncodeTree's answer. -/
def etT (l : List Ob) : ByteArray := if tfl l = 0 then trB l else ⟨#[]⟩
theorem et_ret {c d : Int} {s t : ByteArray} (h : c = d) (k : s = t) : Ending.returned (.agg #[.int .i64 c, .string s]) = .returned (.agg #[.int .i64 d, .string t]) := by rw [h, k]
theorem etT_ok {l : List Ob} (h : tfl l = 0) : etT l = trB l := if_pos h
theorem etT_no {l : List Ob} (h : ¬ tfl l = 0) : etT l = ⟨#[]⟩ := if_neg h
theorem tfl_fine {l : List Ob} (h : tfl l = 0) : Fine l ∧ l.length ≤ 100 := by
  have h0 : trE l = 0 := by
    by_cases e : trE l = 0
    · exact e
    · rw [tfl_bad e] at h; exact absurd h e
  have hm : ¬ 100 < l.length := fun h' => by rw [trE_many h'] at h0; omega
  refine ⟨fun j hj => ?_, by omega⟩
  have key : ∀ n, n ≤ l.length → ∀ j, j < n → teF l j = 0 := by
    intro n
    induction n with
    | zero => intro _ j hj; omega
    | succ n ih =>
      intro hn j hj
      by_cases e : j < n
      · exact ih (by omega) j e
      · have e' : j = n := by omega
        subst e'
        by_cases hb : teF l j = 0
        · exact hb
        · rw [trE_bad hm (by omega) (ih (by omega)) hb] at h0
          exact h0
  exact teF_ef (key l.length (Nat.le_refl _) j hj)
end Go.Proofs.YtjcnnmnnbjaheaaGreatDoor.Te
/- The contract of the program's wantText, at a tree. No statement is proved here. -/
namespace Go.Proofs.YtjcnnmnnbjaheaaGreatDoor.Te
open Go.ChangeShapes Go.WideShapes Go.ChangeAt Go.RowKit

end Go.Proofs.YtjcnnmnnbjaheaaGreatDoor.Te
/- The contract of the program's readTree. No statement is proved here. -/
namespace Go.Proofs.YtjcnnmnnbjaheaaGreatDoor.Te
open Go.RowKit Go.Shelf
attribute [local go_sem] Oper.semAt_some

/-- What is read of a list of lines. -/
def pL (xs : List ByteArray) : List Ob := xs.map (fun x => pEnt x.data.toList)
theorem pL_snoc (xs : List ByteArray) (x : ByteArray) : pL (xs ++ [x]) = pL xs ++ [pEnt x.data.toList] := by simp [pL]
theorem pL_lines (s : ByteArray) : pL (linesOf s) = dtP s := by simp [pL, dtP, linesOf, linesFrom, mkB_data, Function.comp_def]
theorem ocells_snoc (l : List Ob) (o : Ob) : ocells (l ++ [o]) = ocells l ++ [.string o.1, .int .i64 o.2.1, .string o.2.2] := by
  unfold ocells
  rw [List.length_append, List.length_singleton, show (l.length + 1) * 3 = l.length * 3 + 3 by omega, rowG_append]
  congr 1
  · exact rowG_congr fun j hj => by
      unfold ocell
      have : (l ++ [o]).getD (j / 3) onil = l.getD (j / 3) onil := by
        have h3 : j / 3 < l.length := by omega
        simp [List.getD, List.getElem?_append_left h3]
      rw [this]
  · have e : (l ++ [o]).getD l.length onil = o := by simp [List.getD]
    show [ocell _ (l.length * 3 + 0), ocell _ (l.length * 3 + 1), ocell _ (l.length * 3 + 2)] = _
    rw [Nat.add_zero, ocell0, ocell1, ocell2, e]
theorem ownsRow_mono3 {w : World} {B B' : Nat} {e : TypeId} {size n : Nat} {v : Value} {xs : List Value} (h : w.ownsRow B e size v n xs) (hB : B' ≤ B) : w.ownsRow B' e size v n xs :=
  ⟨h.1, h.2.imp id fun ⟨g, cap, cur, h1, h2, h3⟩ => ⟨g, cap, cur, h1, Nat.le_trans hB h2, h3⟩⟩
/-- append onto a row of the call's own, as one step of a region that draws. -/
theorem stepH_append_own {P : Program} {ops : Array Oper} {o : Oper} {a : Act} {w : World} {K : Act → World → Prop} {Q : Exit → Act → World → Prop} {E : Prop}
    (hg : o.guard = none) (s x : Operand) (t : TypeId) (hop : o.op = Op.call { callee := Callee.builtin Builtin.append, args := #[s, x], argTypes := #[t, t] })
    (base : Nat) (e : TypeId) (i : TypeInfo) (z : Value) (size bytes : Nat) (h1 : P.underlying t = some (.slice e)) (h2 : P.info? e = some i) (h3 : i.zero = some z) (h4 : i.size = size) (h5 : i.bytes = bytes) (h6 : z.cells.size = size) (h7 : 0 < size)
    (v : Value) (k : Nat) (xs : List Value) (hs : a.eval s = v) (hown : w.ownsRow base e size v k xs) (ad : Addr) (m c : Nat) (news : List Value) (hx : a.eval x = .slice (some ad) m c) (hn : news.length = m * size)
    (hc : ∀ j u, news[j]? = some u → w.cell? (ad.add j) = some u) (h1c : ∀ u ∈ news, u.oneCell' = true) (b1 : k + m ≤ maxLen) (b2 : (k + m) * bytes ≤ 140737488355328) (b3 : base ≤ w.heap.size)
    (hK : ∀ v' w', w'.ownsRow base e size v' (k + m) (xs ++ news) → w.grownBy w' v.ownBlock → K (a.put o.dst v') w') :
    if Region.wanted o (yielded ops a.tmps) = true then Oper.wp P o a w K Q else E := by
  have hw : Region.wanted o (yielded ops a.tmps) = true := by simp [Region.wanted, hg]
  rw [if_pos hw]
  obtain ⟨v', w', hrun, r1, r2, _⟩ := run_append_own (P := P) w base t o.type e i z size bytes h1 h2 h3 h4 h5 h6 h7 v k xs hown ad m c news hn hc h1c b1 b2 b3
  unfold Oper.wp
  simp [execOp, hop, resolve, invoke, builtin, hs, hx, hrun, Result.andThen]
  exact hK v' w' r1 r2
theorem aft_len (l : List UInt8) : (aft l).length ≤ l.length := by
  unfold aft
  rw [List.length_drop]
  have := (List.dropWhile_sublist (fun c : UInt8 => c != 32) (l := l)).length_le
  omega
theorem bef_len (l : List UInt8) : (bef l).length ≤ l.length := (List.takeWhile_sublist _).length_le
theorem trim_len (l : List UInt8) : (trimL l).length ≤ l.length := by
  unfold trimL
  split
  · simp
  · exact Nat.le_refl _
theorem mkB_size (l : List UInt8) : (mkB l).size = l.length := by rw [← size_eq, mkB_data]
theorem three_new (w : World) (x y z : Value) (t : TypeId) : ∀ (j : Nat) (u : Value), [x, y, z][j]? = some u → (w.alloc (.cells #[x, y, z] t)).cell? ((⟨w.heap.size, 0, none⟩ : Addr).add j) = some u := fun j u h => by
  have := word_cell w t #[x, y, z] j u h
  rw [WideShapes.add_plain, Nat.zero_add]
  exact this
def onlyN (Q : Exit → Act → World → Prop) (e : Exit) (a : Act) (w : World) : Prop := e = .normal ∧ Q e a w
theorem region_wide {P : Program} {ops : Array Oper} {n id : Nat} {Q : Exit → Act → World → Prop} {S : World → Prop} {a : Act} {w : World} (hm : P.follows .mixedOrders = true) (hS : S w.drew)
    (h : S w.drew → wpAnyH P .any ops (onlyN Q) S ops.size (Array.replicate ops.size false) a w.drew) : (Code.region id ops true).wpIn Fence.wide n P Q a w :=
  wpIn_wide.2 (wp_mono (wp_region_held_drew hm hS h) (fun _ _ _ q => q.2))

theorem pL_length (xs : List ByteArray) : (pL xs).length = xs.length := by simp [pL]
end Go.Proofs.YtjcnnmnnbjaheaaGreatDoor.Te
