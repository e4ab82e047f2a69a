/- The contracts of impl.appendMarked and spec.l3Put: lines with a mark ahead, behind others; of spec.l1Min and impl.changesTogether. No statement is proved here. -/
import Derived.Test.YtepbkaidlffaiabRows
import Derived.Test.YtepbkaidlffaiabLemQ
import Derived.Test.YtepbkaidlffaiabStrsQ
import Derived.Test.YtepbkaidlffaiabDTabQ
import Derived.Test.YtepbkaidlffaiabOwnQ
import Derived.Test.YtepbkaidlffaiabFrQ
import Derived.Test.YtepbkaidlffaiabWvCQ
import Derived.Test.YtepbkaidlffaiabComQ
import Derived.Test.YtepbkaidlffaiabChgQ
import Derived.Test.YtepbkaidlffaiabEdCQ
import Derived.Test.YtepbkaidlffaiabHkLQ
import Derived.Test.YtepbkaidlffaiabHoMQ
import Derived.WalkKit
import Derived.ProofKit
import Derived.Below
import Derived.WalkSpells
import Derived.Maps.AppendAt
import Derived.Deep.RegionLaw
import Derived.Laws.Concat
namespace Go.Proofs.Ytepbkaidlffaiab
open Go.ChangeShapes Go.WideShapes Go.ChangeAt Go.RowKit

/-- A call of a function of 2 arguments, as one step of a region that draws. -/
theorem step_call2 {ops : Array Oper} {o : Oper} {a : Act} {w : World} {K : Act → World → Prop} {Q : Exit → Act → World → Prop} {E : Prop}
    (hg : o.guard = none) (f : FuncId) (hf : ∀ vs w, (callFunc f vs).run Try.prog w = .ok (.enter f vs) w) (x1 x2 : Operand) (ts : Array TypeId) (hop : o.op = Op.call { callee := Callee.value (Operand.func f), args := #[x1, x2], argTypes := ts })
    (v1 v2 : Value) (h1 : a.eval x1 = v1) (h2 : a.eval x2 = v2) {P : Ending → World → Prop} (hc : Calls Try.prog f #[v1, v2] w P) (hK : ∀ e w', P e w' → ∃ v, e = .returned v ∧ K (a.put o.dst v) w') :
    if Region.wanted o (yielded ops a.tmps) = true then Oper.wp Try.prog o a w K Q else E := by
  have hw : Region.wanted o (yielded ops a.tmps) = true := by simp [Region.wanted, hg]
  rw [if_pos hw]
  have hrun : (execOp a.eval o).run Try.prog w = .ok (.enter f #[v1, v2]) w := by
    simp [execOp, hop, resolve, invoke, go_sem, hf]
    exact ⟨(by cases x1 with | tmp t => simpa [Act.eval] using h1 | const v => exact h1 | global g => exact h1 | func f => exact h1), (by cases x2 with | tmp t => simpa [Act.eval] using h2 | const v => exact h2 | global g => exact h2 | func f => exact h2)⟩
  unfold Oper.wp
  rw [hrun, Oper.upon_enter]
  refine hc.mono ?_
  intro e w' hp
  obtain ⟨v, rfl, hk⟩ := hK e w' hp
  exact hk
/-- A call of a function of 3 arguments, as one step of a region that draws. -/
theorem step_call3 {ops : Array Oper} {o : Oper} {a : Act} {w : World} {K : Act → World → Prop} {Q : Exit → Act → World → Prop} {E : Prop}
    (hg : o.guard = none) (f : FuncId) (hf : ∀ vs w, (callFunc f vs).run Try.prog w = .ok (.enter f vs) w) (x1 x2 x3 : Operand) (ts : Array TypeId) (hop : o.op = Op.call { callee := Callee.value (Operand.func f), args := #[x1, x2, x3], argTypes := ts })
    (v1 v2 v3 : Value) (h1 : a.eval x1 = v1) (h2 : a.eval x2 = v2) (h3 : a.eval x3 = v3) {P : Ending → World → Prop} (hc : Calls Try.prog f #[v1, v2, v3] w P) (hK : ∀ e w', P e w' → ∃ v, e = .returned v ∧ K (a.put o.dst v) w') :
    if Region.wanted o (yielded ops a.tmps) = true then Oper.wp Try.prog o a w K Q else E := by
  have hw : Region.wanted o (yielded ops a.tmps) = true := by simp [Region.wanted, hg]
  rw [if_pos hw]
  have hrun : (execOp a.eval o).run Try.prog w = .ok (.enter f #[v1, v2, v3]) w := by
    simp [execOp, hop, resolve, invoke, go_sem, hf]
    exact ⟨(by cases x1 with | tmp t => simpa [Act.eval] using h1 | const v => exact h1 | global g => exact h1 | func f => exact h1), (by cases x2 with | tmp t => simpa [Act.eval] using h2 | const v => exact h2 | global g => exact h2 | func f => exact h2), (by cases x3 with | tmp t => simpa [Act.eval] using h3 | const v => exact h3 | global g => exact h3 | func f => exact h3)⟩
  unfold Oper.wp
  rw [hrun, Oper.upon_enter]
  refine hc.mono ?_
  intro e w' hp
  obtain ⟨v, rfl, hk⟩ := hK e w' hp
  exact hk
theorem enterPut (vs : Array Value) (w : World) : (callFunc 151 vs).run Try.prog w = .ok (.enter 151 vs) w := by simp [go_sem]
theorem enterMin (vs : Array Value) (w : World) : (callFunc 150 vs).run Try.prog w = .ok (.enter 150 vs) w := by simp [go_sem]
/-- A row of the lines zs; of the old blocks the old row's alone may have turned. -/
def RowPost (base : Nat) (v : Value) (zs : List ByteArray) (w : World) (e : Ending) (w' : World) : Prop := ∃ v', e = .returned v' ∧ w'.ownsRow base 9 1 v' zs.length (zs.map Value.string) ∧ w.grownBy w' v.ownBlock ∧ ∀ j, v'.ownBlock = some j → v.ownBlock = some j ∨ w.heap.size ≤ j
theorem mkL_take (b : UInt8) (ss ms : List ByteArray) (k : Nat) (h : k < ms.length) : ss ++ (ms.take (k + 1)).map (mkL b) = (ss ++ (ms.take k).map (mkL b)) ++ [mkL b (ms.getD k ByteArray.empty)] := by
  rw [List.take_succ_eq_append_getElem h, List.map_append, getD_at ms k h, List.append_assoc]; rfl

set_option maxRecDepth 20000 in
set_option maxHeartbeats 2000000 in
theorem l3Put (b : UInt8) (base : Nat) (v : Value) (ss ms : List ByteArray) (a : Option Addr) (c : Nat) (w : World) (ho : w.ownsRow base 9 1 v ss.length (ss.map Value.string)) (hm : SSB base w a ms) (hbw : base ≤ w.heap.size)
    (hz : ∀ x ∈ ms, x.size ≤ 1048576) (hn : ss.length + ms.length ≤ 1048576) :
    Calls Try.prog 151 #[v, .string (⟨#[b]⟩ : ByteArray), .slice a ms.length c] w fun e w' => RowPost base v (ss ++ ms.map (mkL b)) w e w' := by
  obtain ⟨i0, hi, hz0, hz1, hz2⟩ := info_parts infoString
  have hvb : ∀ j, v.ownBlock = some j → base ≤ j := fun j hj => (ho.lt j hj).1
  go_enter Try.func151, Try.ntmps151
  go_wp2
  go_loopw [0, 7] (fun u i wr => ∃ k : Nat, k ≤ ms.length ∧ i = .int .i64 k ∧ wr.ownsRow base 9 1 u (ss ++ (ms.take k).map (mkL b)).length ((ss ++ (ms.take k).map (mkL b)).map Value.string) ∧ w.grownBy wr v.ownBlock ∧ (∀ j, u.ownBlock = some j → v.ownBlock = some j ∨ w.heap.size ≤ j)) (fun _ i _ => ms.length - (intOf i).toNat)
  case atStart => exact ⟨0, Nat.zero_le _, rfl, by simpa using ho, World.grownBy.refl _ _, fun j hj => .inl hj⟩
  case round =>
    obtain ⟨k, hk, rfl, hown, hgr, hub⟩ := hrel
    have hsz := hgr.size
    by_cases hlt : k < ms.length
    · have q : (k : Int) < (ms.length : Int) := by omega
      obtain ⟨g, off, e, hb, hc0⟩ := hm.2 k hlt
      have hc := hgr.cell hc0 (fun e' => by have := hvb g e'.symm; omega)
      subst e
      have hzk : (ms.getD k ByteArray.empty).size ≤ 1048576 := hz _ (by rw [getD_at ms k hlt]; exact List.getElem_mem hlt)
      have HT := mkL_take b ss ms k hlt
      have hlen : (ss ++ (ms.take k).map (mkL b)).length ≤ ss.length + ms.length := by rw [List.length_append, List.length_map, List.length_take]; omega
      obtain ⟨s, hse⟩ : ∃ s, ms.getD k ByteArray.empty = s := ⟨_, rfl⟩
      rw [hse] at hc hzk HT
      obtain ⟨T, hT⟩ : ∃ T, ss ++ (ms.take k).map (mkL b) = T := ⟨_, rfl⟩
      rw [hT] at hown hlen HT
      obtain ⟨y, hy⟩ : ∃ y, (⟨#[b]⟩ : ByteArray) ++ s = y := ⟨_, rfl⟩
      have HT2 : Hid (ss ++ (ms.take (k + 1)).map (mkL b) = T ++ [y]) := by show _ = _; rw [HT, ← hy]; rfl
      have hcs : ¬ 9223372036854775807 < 1 + s.size := by omega
      clear HT hse hc0 hT
      go_wp2_with ((at_builtin; refine wpList_append_own_at _ rfl (.tmp 14) (.tmp 21) 24 rfl base 9 i0 (.string ByteArray.empty) 1 16 Try.underlying24 hi hz0 hz1 hz2 rfl (by decide) _ _ _ rfl (hown.alloc _) ⟨wr.heap.size, 0, none⟩ 1 1 [.string y] rfl rfl (cell_one_new _ _ _) (by simp [Value.oneCell']) (by unfold maxLen; omega) (by omega) (by simp; omega) ?_; intro v' W2 p2 g2 _ k2; have z2 := g2.size; simp only [World.size_alloc] at z2 k2))
      have HO : Hid (W2.ownsRow base 9 1 v' (ss ++ (ms.take (k + 1)).map (mkL b)).length ((ss ++ (ms.take (k + 1)).map (mkL b)).map Value.string)) := by
        show World.ownsRow _ _ _ _ _ _ _
        rw [HT2.out, List.length_append, List.map_append]; exact p2
      have HG : Hid (w.grownBy W2 v.ownBlock) := grownNew (grownTrans hgr (World.grownBy_alloc _ _ _)) g2 hub
      have HU : Hid (∀ j, v'.ownBlock = some j → v.ownBlock = some j ∨ w.heap.size ≤ j) := by
        show ∀ j, _
        intro j hj
        rcases k2 with k2 | k2
        · exact hub j (k2 ▸ hj)
        · rw [k2] at hj
          simp only [Option.some.injEq] at hj
          exact .inr (by omega)
      clear p2 g2 hown hgr k2 hy
      go_roundw
      case rel => exact ⟨k + 1, by omega, by first | rfl | go_num, HO.out, HG.out, HU.out⟩
      case measure => first | (simp [intOf]; omega) | simp [intOf]
    · have q : ¬ (k : Int) < (ms.length : Int) := by omega
      have HF : Hid (RowPost base v (ss ++ ms.map (mkL b)) w (.returned u0) wr) := by
        have e : k = ms.length := by omega
        rw [e, List.take_of_length_le (Nat.le_refl _)] at hown
        exact ⟨u0, rfl, hown, hgr, hub⟩
      clear hown hgr hub
      go_wp2
      go_ret
      exact HF.out

theorem l1Min (x y : Int) (w : World) : Calls Try.prog 150 #[.int .i64 x, .int .i64 y] w fun e w' => e = .returned (.int .i64 (min x y)) ∧ w' = w := by
  by_cases h : x < y
  · have hE : Hid (min x y = x) := by show _ = _; omega
    go_enter Try.func150, Try.ntmps150
    go_wp2
    go_ret
    exact ⟨ret_int hE.out.symm, rfl⟩
  · have hE : Hid (min x y = y) := by show _ = _; omega
    go_enter Try.func150, Try.ntmps150
    go_wp2
    go_ret
    exact ⟨ret_int hE.out.symm, rfl⟩

end Go.Proofs.Ytepbkaidlffaiab
