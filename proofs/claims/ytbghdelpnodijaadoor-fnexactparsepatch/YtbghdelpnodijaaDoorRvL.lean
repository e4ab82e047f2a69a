/- Hunks turned round, and a row of hunks that grows: small laws. No statement is proved here. -/
import Derived.Test.YtbghdelpnodijaaDoorRows
import Derived.Test.YtbghdelpnodijaaDoorLem
import Derived.Test.YtbghdelpnodijaaDoorStrs
import Derived.Test.YtbghdelpnodijaaDoorLFLem
import Derived.Test.YtbghdelpnodijaaDoorDTab
import Derived.Test.YtbghdelpnodijaaDoorOwn
import Derived.Test.YtbghdelpnodijaaDoorFr
import Derived.Test.YtbghdelpnodijaaDoorIn
import Derived.Test.YtbghdelpnodijaaDoorHkL
import Derived.Test.YtbghdelpnodijaaDoorHkC
import Derived.Test.YtbghdelpnodijaaDoorHkS
import Derived.Test.YtbghdelpnodijaaDoorHkT
import Derived.Test.YtbghdelpnodijaaDoorHfL
import Derived.Test.YtbghdelpnodijaaDoorHfC
import Derived.Test.YtbghdelpnodijaaDoorHnL
import Derived.Test.YtbghdelpnodijaaDoorHnT
import Derived.Test.YtbghdelpnodijaaDoorHrR
import Derived.Test.YtbghdelpnodijaaDoorHrP
import Derived.WalkKit
import Derived.ProofKit
import Derived.Below
import Derived.WalkSpells
import Derived.Maps.AppendAt
import Derived.Deep.RegionLaw
namespace Go.Proofs.YtbghdelpnodijaaDoor
open Go.ChangeShapes Go.WideShapes Go.ChangeAt Go.RowKit

/-- The mark that a mark is turned to. -/
def turnM (b : Int) : UInt8 := if b = 45 then 43 else if b = 43 then 45 else 32
def turnI (b : Int) : Int := if b = 45 then 43 else if b = 43 then 45 else b
/-- A line with its mark turned. -/
def turnL (s : ByteArray) : ByteArray := (⟨#[turnM (mark0 s)]⟩ : ByteArray) ++ s.extract 1 s.size
theorem turnL_size (s : ByteArray) : (turnL s).size ≤ s.size + 1 := by
  unfold turnL
  rw [ByteArray.size_append, tail_size]
  have : (⟨#[turnM (mark0 s)]⟩ : ByteArray).size = 1 := rfl
  omega
def revH (h : Hk) : Hk := (h.2.1, h.1, h.2.2.map turnL)
theorem revH_take (l : List Hk) (k : Nat) (h : k < l.length) : (l.take (k + 1)).map revH = (l.take k).map revH ++ [revH (l.getD k (0, 0, []))] := by
  rw [List.take_succ_eq_append_getElem h, List.map_append]
  simp [List.getD, h]
theorem turnL_take (ss : List ByteArray) (k : Nat) (h : k < ss.length) : ((ss.take (k + 1)).map turnL).map Value.string = ((ss.take k).map turnL).map Value.string ++ [.string (turnL (ss.getD k ByteArray.empty))] := by
  rw [List.take_succ_eq_append_getElem h, List.map_append, List.map_append, getD_at ss k h]; rfl

theorem hcell_snoc (L : List Hk) (h : Hk) (sl : Nat → Value) (u : Value) :
    rowF (hcell L sl) (L.length * 3) ++ [.int .i64 h.1, .int .i64 h.2.1, u] = rowF (hcell (L ++ [h]) (fun i => if i = L.length then u else sl i)) ((L.length + 1) * 3) := by
  apply List.ext_getElem?
  intro j
  by_cases hj : j < L.length * 3
  · rw [List.getElem?_append_left (by rw [rowF_length]; exact hj), rowF_at _ _ _ hj, rowF_at _ _ _ (by omega)]
    unfold hcell
    have hd : j / 3 < L.length := by omega
    have e1 : (L ++ [h]).getD (j / 3) (0, 0, []) = L.getD (j / 3) (0, 0, []) := by rw [List.getD, List.getD, List.getElem?_append_left hd]
    have e2 : ¬ j / 3 = L.length := by omega
    rw [e1]
    simp only [e2, if_false]
  · rw [List.getElem?_append_right (by rw [rowF_length]; omega), rowF_length]
    have e0 : (L ++ [h]).getD L.length (0, 0, []) = h := by simp [List.getD]
    by_cases h3 : j < (L.length + 1) * 3
    · rw [rowF_at _ _ _ h3]
      have hc : j = L.length * 3 ∨ j = L.length * 3 + 1 ∨ j = L.length * 3 + 2 := by omega
      rcases hc with rfl | rfl | rfl
      · rw [hcell0, e0, Nat.sub_self]; rfl
      · rw [hcell1, e0, Nat.add_sub_cancel_left]; rfl
      · rw [hcell2, Nat.add_sub_cancel_left, if_pos rfl]; rfl
    · rw [List.getElem?_eq_none (by simp; omega), List.getElem?_eq_none (by rw [rowF_length]; omega)]
/-- A row of hunks behind an append of one more, whose lines lie in memory of their own. -/
theorem HO.push {base : Nat} {wx w6 : World} {o : Obj} {v v' u : Value} {L : List Hk} {h : Hk} {sl : Nat → Value} (hh : HO base wx v L sl) (hu : wx.ownsRow base 9 1 u h.2.2.length (h.2.2.map Value.string))
    (a1 : ∀ b, u.ownBlock = some b → v.ownBlock = some b → False) (a2 : ∀ k, k < L.length → ∀ b, u.ownBlock = some b → (sl k).ownBlock = some b → False)
    (p6 : w6.ownsRow base 44 3 v' (L.length + 1) (rowF (hcell L sl) (L.length * 3) ++ [.int .i64 h.1, .int .i64 h.2.1, u])) (g6 : (wx.alloc o).grownBy w6 v.ownBlock)
    (k6 : v'.ownBlock = v.ownBlock ∨ v'.ownBlock = some (wx.alloc o).heap.size) :
    HO base w6 v' (L ++ [h]) (fun i => if i = L.length then u else sl i) := by
  have hs : (wx.alloc o).heap.size = wx.heap.size + 1 := by simp
  rw [hs] at k6
  have fin : ∀ {t : Value} {n : Nat} {xs : List Value}, wx.ownsRow base 9 1 t n xs → (∀ b, v.ownBlock = some b → t.ownBlock = some b → False) → (w6.ownsRow base 9 1 t n xs ∧ ∀ b, v'.ownBlock = some b → t.ownBlock = some b → False) := by
    intro t n xs ho ha
    refine ⟨(ho.alloc o).kept g6 (blockCases _ _ fun b c1 c2 => ha b c2 c1), fun b c1 c2 => ?_⟩
    rcases k6 with k | k
    · exact ha b (k ▸ c1) c2
    · rw [k] at c1
      have := (ho.lt b c2).2
      simp only [Option.some.injEq] at c1
      omega
  refine ⟨?_, fun k hk => ?_, fun j k hjk hk b c1 c2 => ?_, fun k hk b c1 c2 => ?_⟩
  · rw [hcell_snoc] at p6
    simpa using p6
  · simp only [List.length_append, List.length_cons, List.length_nil] at hk
    by_cases e : k = L.length
    · subst e
      rw [if_pos rfl]
      have e0 : (L ++ [h]).getD L.length (0, 0, []) = h := by simp [List.getD]
      rw [e0]
      exact (fin hu (fun b c1 c2 => a1 b c2 c1)).1
    · rw [if_neg e]
      have hk' : k < L.length := by omega
      have e1 : (L ++ [h]).getD k (0, 0, []) = L.getD k (0, 0, []) := by rw [List.getD, List.getD, List.getElem?_append_left hk']
      rw [e1]
      exact (fin (hh.each k hk') (hh.off k hk')).1
  · simp only [List.length_append, List.length_cons, List.length_nil] at hk
    have hj : ¬ j = L.length := by omega
    rw [if_neg hj] at c1
    by_cases e : k = L.length
    · rw [if_pos e] at c2
      exact a2 j (by omega) b c2 c1
    · rw [if_neg e] at c2
      exact hh.apart j k hjk (by omega) b c1 c2
  · simp only [List.length_append, List.length_cons, List.length_nil] at hk
    by_cases e : k = L.length
    · rw [if_pos e] at c2
      exact (fin hu (fun b c1 c2 => a1 b c2 c1)).2 b c1 c2
    · rw [if_neg e] at c2
      have hk' : k < L.length := by omega
      exact (fin (hh.each k hk') (hh.off k hk')).2 b c1 c2
theorem step_append_at {P : Program} {ops : Array Oper} {o : Oper} {a : Act} {w : World} {K : Act → World → Prop} {Q : Exit → Act → World → Prop} {E : Prop}
    (hg : o.guard = none) (s x : Operand) (t : TypeId) (hop : o.op = Op.call { callee := Callee.builtin Builtin.append, args := #[s, x], argTypes := #[t, t] })
    (base : Nat) (e : TypeId) (i : TypeInfo) (z : Value) (size bytes : Nat) (ht : P.underlying t = some (.slice e)) (hi : P.info? e = some i) (hz : i.zero = some z)
    (hsize : i.size = size) (hby : i.bytes = bytes) (hzs : z.cells.size = size) (hsz : 0 < size)
    (v : Value) (n : Nat) (xs : List Value) (hs : a.eval s = v) (hown : w.ownsRow base e size v n xs)
    (ad : Addr) (m c : Nat) (news : List Value) (hx : a.eval x = .slice (some ad) m c) (hl : news.length = m * size) (hnews : ∀ j u, news[j]? = some u → w.cell? (ad.add j) = some u) (h1 : ∀ u ∈ news, u.oneCell' = true)
    (h63 : n + m ≤ maxLen) (hbytes : (n + m) * bytes ≤ 140737488355328) (hbase : base ≤ w.heap.size)
    (hK : ∀ v' w', w'.ownsRow base e size v' (n + m) (xs ++ news) → w.grownBy w' v.ownBlock → (v'.ownBlock = v.ownBlock ∨ v'.ownBlock = some w.heap.size) → K (a.put o.dst v') w') :
    if Region.wanted o (yielded ops a.tmps) = true then Oper.wp P o a w K Q else E := by
  have hw : Region.wanted o (yielded ops a.tmps) = true := by simp [Region.wanted, hg]
  rw [if_pos hw]
  obtain ⟨v', w', hr, h2, h3, h4, h5⟩ := run_append_own_at (P := P) w base t o.type e i z size bytes ht hi hz hsize hby hzs hsz v n xs hown ad m c news hl hnews h1 h63 hbytes hbase
  unfold Oper.wp
  simp only [execOp, hop, resolve, invoke, builtin, Sem.run_bind, Sem.run_pure, Result.andThen_ok, List.map_toArray, List.map_cons, List.map_nil, hs, hx, hr]
  exact hK v' w' h2 h3 h5
end Go.Proofs.YtbghdelpnodijaaDoor
