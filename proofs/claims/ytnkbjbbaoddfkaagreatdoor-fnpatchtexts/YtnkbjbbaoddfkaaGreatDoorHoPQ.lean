/- The contracts of impl.appendMarked and spec.l3Put: lines with a mark ahead, behind others; of spec.l1Min and impl.changesTogether. No statement is proved here. -/
import Derived.Test.YtnkbjbbaoddfkaaGreatDoorRows
import Derived.Test.YtnkbjbbaoddfkaaGreatDoorLemQ
import Derived.Test.YtnkbjbbaoddfkaaGreatDoorDTabQ
import Derived.Test.YtnkbjbbaoddfkaaGreatDoorWvCQ
import Derived.Test.YtnkbjbbaoddfkaaGreatDoorComQ
import Derived.Test.YtnkbjbbaoddfkaaGreatDoorPairsQ
import Derived.Test.YtnkbjbbaoddfkaaGreatDoorCoCQ
import Derived.Test.YtnkbjbbaoddfkaaGreatDoorHkLQ
import Derived.Test.YtnkbjbbaoddfkaaGreatDoorRvLQ
import Derived.WalkKit
import Derived.ProofKit
import Derived.Below
import Derived.WalkSpells
import Derived.Maps.AppendAt
import Derived.Deep.RegionLaw
import Derived.Laws.Concat
import Derived.Test.YtnkbjbbaoddfkaaGreatDoorHkTQ
import Derived.Test.YtnkbjbbaoddfkaaGreatDoorHfCQ
import Derived.Test.YtnkbjbbaoddfkaaGreatDoorHnLQ
import Derived.Test.YtnkbjbbaoddfkaaGreatDoorHrRQ
import Derived.Deep.CutRange
namespace Go.Proofs.YtnkbjbbaoddfkaaGreatDoor
open Go.ChangeShapes Go.WideShapes Go.ChangeAt Go.RowKit

/-- A call of a function of 2 arguments, as one step of a region that draws. -/
theorem step_call2 {ops : Array Oper} {o : Oper} {a : Act} {w : World} {K : Act → World → Prop} {Q : Exit → Act → World → Prop} {E : Prop}
    (hg : o.guard = none) (f : FuncId) (hf : ∀ vs w, (callFunc f vs).run Tryz.prog w = .ok (.enter f vs) w) (x1 x2 : Operand) (ts : Array TypeId) (hop : o.op = Op.call { callee := Callee.value (Operand.func f), args := #[x1, x2], argTypes := ts })
    (v1 v2 : Value) (h1 : a.eval x1 = v1) (h2 : a.eval x2 = v2) {P : Ending → World → Prop} (hc : Calls Tryz.prog f #[v1, v2] w P) (hK : ∀ e w', P e w' → ∃ v, e = .returned v ∧ K (a.put o.dst v) w') :
    if Region.wanted o (yielded ops a.tmps) = true then Oper.wp Tryz.prog o a w K Q else E := by
  have hw : Region.wanted o (yielded ops a.tmps) = true := by simp [Region.wanted, hg]
  rw [if_pos hw]
  have hrun : (execOp a.eval o).run Tryz.prog w = .ok (.enter f #[v1, v2]) w := by
    simp [execOp, hop, resolve, invoke, go_sem, hf]
    exact ⟨(by cases x1 with | tmp t => simpa [Act.eval] using h1 | const v => exact h1 | global g => exact h1 | func f => exact h1), (by cases x2 with | tmp t => simpa [Act.eval] using h2 | const v => exact h2 | global g => exact h2 | func f => exact h2)⟩
  unfold Oper.wp
  rw [hrun, Oper.upon_enter]
  refine hc.mono ?_
  intro e w' hp
  obtain ⟨v, rfl, hk⟩ := hK e w' hp
  exact hk
/-- A call of a function of 3 arguments, as one step of a region that draws. -/
theorem step_call3 {ops : Array Oper} {o : Oper} {a : Act} {w : World} {K : Act → World → Prop} {Q : Exit → Act → World → Prop} {E : Prop}
    (hg : o.guard = none) (f : FuncId) (hf : ∀ vs w, (callFunc f vs).run Tryz.prog w = .ok (.enter f vs) w) (x1 x2 x3 : Operand) (ts : Array TypeId) (hop : o.op = Op.call { callee := Callee.value (Operand.func f), args := #[x1, x2, x3], argTypes := ts })
    (v1 v2 v3 : Value) (h1 : a.eval x1 = v1) (h2 : a.eval x2 = v2) (h3 : a.eval x3 = v3) {P : Ending → World → Prop} (hc : Calls Tryz.prog f #[v1, v2, v3] w P) (hK : ∀ e w', P e w' → ∃ v, e = .returned v ∧ K (a.put o.dst v) w') :
    if Region.wanted o (yielded ops a.tmps) = true then Oper.wp Tryz.prog o a w K Q else E := by
  have hw : Region.wanted o (yielded ops a.tmps) = true := by simp [Region.wanted, hg]
  rw [if_pos hw]
  have hrun : (execOp a.eval o).run Tryz.prog w = .ok (.enter f #[v1, v2, v3]) w := by
    simp [execOp, hop, resolve, invoke, go_sem, hf]
    exact ⟨(by cases x1 with | tmp t => simpa [Act.eval] using h1 | const v => exact h1 | global g => exact h1 | func f => exact h1), (by cases x2 with | tmp t => simpa [Act.eval] using h2 | const v => exact h2 | global g => exact h2 | func f => exact h2), (by cases x3 with | tmp t => simpa [Act.eval] using h3 | const v => exact h3 | global g => exact h3 | func f => exact h3)⟩
  unfold Oper.wp
  rw [hrun, Oper.upon_enter]
  refine hc.mono ?_
  intro e w' hp
  obtain ⟨v, rfl, hk⟩ := hK e w' hp
  exact hk
theorem enterPut (vs : Array Value) (w : World) : (callFunc 72 vs).run Tryz.prog w = .ok (.enter 72 vs) w := by simp [go_sem]
theorem enterMin (vs : Array Value) (w : World) : (callFunc 71 vs).run Tryz.prog w = .ok (.enter 71 vs) w := by simp [go_sem]
/-- A row of the lines zs; of the old blocks the old row's alone may have turned. -/
def RowPost (base : Nat) (v : Value) (zs : List ByteArray) (w : World) (e : Ending) (w' : World) : Prop := ∃ v', e = .returned v' ∧ w'.ownsRow base 9 1 v' zs.length (zs.map Value.string) ∧ w.grownBy w' v.ownBlock ∧ ∀ j, v'.ownBlock = some j → v.ownBlock = some j ∨ w.heap.size ≤ j
theorem mkL_take (b : UInt8) (ss ms : List ByteArray) (k : Nat) (h : k < ms.length) : ss ++ (ms.take (k + 1)).map (mkL b) = (ss ++ (ms.take k).map (mkL b)) ++ [mkL b (ms.getD k ByteArray.empty)] := by
  rw [List.take_succ_eq_append_getElem h, List.map_append, getD_at ms k h, List.append_assoc]; rfl

set_option maxRecDepth 20000 in
set_option maxHeartbeats 2000000 in
theorem l3Put (b : UInt8) (base : Nat) (v : Value) (ss ms : List ByteArray) (a : Option Addr) (c : Nat) (w : World) (ho : w.ownsRow base 9 1 v ss.length (ss.map Value.string)) (hm : SSB base w a ms) (hbw : base ≤ w.heap.size)
    (hz : ∀ x ∈ ms, x.size ≤ 1048576) (hn : ss.length + ms.length ≤ 1048576) :
    Calls Tryz.prog 72 #[v, .string (⟨#[b]⟩ : ByteArray), .slice a ms.length c] w fun e w' => RowPost base v (ss ++ ms.map (mkL b)) w e w' := by
  obtain ⟨i0, hi, hz0, hz1, hz2⟩ := info_parts infoString
  have hvb : ∀ j, v.ownBlock = some j → base ≤ j := fun j hj => (ho.lt j hj).1
  go_enter Tryz.func72, Tryz.ntmps72
  go_wp2
  go_loopw [0, 7] (fun u i wr => ∃ k : Nat, k ≤ ms.length ∧ i = .int .i64 k ∧ wr.ownsRow base 9 1 u (ss ++ (ms.take k).map (mkL b)).length ((ss ++ (ms.take k).map (mkL b)).map Value.string) ∧ w.grownBy wr v.ownBlock ∧ (∀ j, u.ownBlock = some j → v.ownBlock = some j ∨ w.heap.size ≤ j)) (fun _ i _ => ms.length - (intOf i).toNat)
  case atStart => exact ⟨0, Nat.zero_le _, rfl, by simpa using ho, World.grownBy.refl _ _, fun j hj => .inl hj⟩
  case round =>
    obtain ⟨k, hk, rfl, hown, hgr, hub⟩ := hrel
    have hsz := hgr.size
    by_cases hlt : k < ms.length
    · have q : (k : Int) < (ms.length : Int) := by omega
      obtain ⟨g, off, e, hb, hc0⟩ := hm.2 k hlt
      have hc := hgr.cell hc0 (fun e' => by have := hvb g e'.symm; omega)
      subst e
      have hzk : (ms.getD k ByteArray.empty).size ≤ 1048576 := hz _ (by rw [getD_at ms k hlt]; exact List.getElem_mem hlt)
      have HT := mkL_take b ss ms k hlt
      have hlen : (ss ++ (ms.take k).map (mkL b)).length ≤ ss.length + ms.length := by rw [List.length_append, List.length_map, List.length_take]; omega
      obtain ⟨s, hse⟩ : ∃ s, ms.getD k ByteArray.empty = s := ⟨_, rfl⟩
      rw [hse] at hc hzk HT
      obtain ⟨T, hT⟩ : ∃ T, ss ++ (ms.take k).map (mkL b) = T := ⟨_, rfl⟩
      rw [hT] at hown hlen HT
      obtain ⟨y, hy⟩ : ∃ y, (⟨#[b]⟩ : ByteArray) ++ s = y := ⟨_, rfl⟩
      have HT2 : Hid (ss ++ (ms.take (k + 1)).map (mkL b) = T ++ [y]) := by show _ = _; rw [HT, ← hy]; rfl
      have hcs : ¬ 9223372036854775807 < 1 + s.size := by omega
      clear HT hse hc0 hT
      go_wp2_with ((at_builtin; refine wpList_append_own_at _ rfl (.tmp 14) (.tmp 21) 33 rfl base 9 i0 (.string ByteArray.empty) 1 16 Tryz.underlying33 hi hz0 hz1 hz2 rfl (by decide) _ _ _ rfl (hown.alloc _) ⟨wr.heap.size, 0, none⟩ 1 1 [.string y] rfl rfl (cell_one_new _ _ _) (by simp [Value.oneCell']) (by unfold maxLen; omega) (by omega) (by simp; omega) ?_; intro v' W2 p2 g2 _ k2; have z2 := g2.size; simp only [World.size_alloc] at z2 k2))
      have HO : Hid (W2.ownsRow base 9 1 v' (ss ++ (ms.take (k + 1)).map (mkL b)).length ((ss ++ (ms.take (k + 1)).map (mkL b)).map Value.string)) := by
        show World.ownsRow _ _ _ _ _ _ _
        rw [HT2.out, List.length_append, List.map_append]; exact p2
      have HG : Hid (w.grownBy W2 v.ownBlock) := grownNew (grownTrans hgr (World.grownBy_alloc _ _ _)) g2 hub
      have HU : Hid (∀ j, v'.ownBlock = some j → v.ownBlock = some j ∨ w.heap.size ≤ j) := by
        show ∀ j, _
        intro j hj
        rcases k2 with k2 | k2
        · exact hub j (k2 ▸ hj)
        · rw [k2] at hj
          simp only [Option.some.injEq] at hj
          exact .inr (by omega)
      clear p2 g2 hown hgr k2 hy
      go_roundw
      case rel => exact ⟨k + 1, by omega, by first | rfl | go_num, HO.out, HG.out, HU.out⟩
      case measure => first | (simp [intOf]; omega) | simp [intOf]
    · have q : ¬ (k : Int) < (ms.length : Int) := by omega
      have HF : Hid (RowPost base v (ss ++ ms.map (mkL b)) w (.returned u0) wr) := by
        have e : k = ms.length := by omega
        rw [e, List.take_of_length_le (Nat.le_refl _)] at hown
        exact ⟨u0, rfl, hown, hgr, hub⟩
      clear hown hgr hub
      go_wp2
      go_ret
      exact HF.out

theorem l1Min (x y : Int) (w : World) : Calls Tryz.prog 71 #[.int .i64 x, .int .i64 y] w fun e w' => e = .returned (.int .i64 (min x y)) ∧ w' = w := by
  by_cases h : x < y
  · have hE : Hid (min x y = x) := by show _ = _; omega
    go_enter Tryz.func71, Tryz.ntmps71
    go_wp2
    go_ret
    exact ⟨ret_int hE.out.symm, rfl⟩
  · have hE : Hid (min x y = y) := by show _ = _; omega
    go_enter Tryz.func71, Tryz.ntmps71
    go_wp2
    go_ret
    exact ⟨ret_int hE.out.symm, rfl⟩

end Go.Proofs.YtnkbjbbaoddfkaaGreatDoor
/- A hunk that is being made in memory: small laws. No statement is proved here. -/
namespace Go.Proofs.YtnkbjbbaoddfkaaGreatDoor
open Go.ChangeShapes Go.WideShapes Go.ChangeAt Go.RowKit

/-- A hunk that is handed back: its numbers, and its lines in memory of their own. -/
def HkPost (h : Hk) (w : World) (e : Ending) (w' : World) : Prop := ∃ v, e = .returned (.agg #[.int .i64 h.1, .int .i64 h.2.1, v]) ∧ w'.ownsRow w.heap.size 9 1 v h.2.2.length (h.2.2.map Value.string) ∧ Below w.heap.size w w'

theorem CB.bQ {B Q : Nat} {w w' : World} {a : Option Addr} {l : List Chg} (h : CB B w a l) (hb : Below Q w w') (hB : B ≤ Q) : CB B w' a l := fun k hk => by
  obtain ⟨g, off, e, hg, h0, h1, h2, h3⟩ := h k hk
  exact ⟨g, off, e, hg, (hb.cell (p := ⟨g, off + k * 4, none⟩) (show g < Q by omega)).trans h0, (hb.cell (p := ⟨g, off + k * 4 + 1, none⟩) (show g < Q by omega)).trans h1, (hb.cell (p := ⟨g, off + k * 4 + 2, none⟩) (show g < Q by omega)).trans h2, (hb.cell (p := ⟨g, off + k * 4 + 3, none⟩) (show g < Q by omega)).trans h3⟩
theorem SSB.toQ {B Q : Nat} {w w' : World} {a : Option Addr} {ss : List ByteArray} (h : SSB B w a ss) (hb : Below Q w w') (hB : B ≤ Q) : SSB B w' a ss := ⟨h.1, fun j hj => by
  obtain ⟨b, o, e', hb', hc⟩ := h.2 j hj
  exact ⟨b, o, e', hb', (hb.cell (p := ⟨b, o + j, none⟩) (show b < Q by omega)).trans hc⟩⟩
/-- A hunk's variable at block p, its lines in a row of their own, and another variable at block q. -/
structure HS (p q : Nat) (W2 w : World) (ha hb : Int) (U : Value) (S : List ByteArray) (cv : List Value) : Prop where
  R : Rf w p [.int .i64 ha, .int .i64 hb, U]
  O : w.ownsRow (p + 1) 9 1 U S.length (S.map Value.string)
  C : Rs w q cv
  bel : Below p W2 w
  hp : p < w.heap.size
  hq : q < w.heap.size
  ne : ∀ j, U.ownBlock = some j → j ≠ q
theorem HS.ub {p q : Nat} {W2 w : World} {ha hb : Int} {U : Value} {S : List ByteArray} {cv : List Value} (h : HS p q W2 w ha hb U S cv) : ∀ j, U.ownBlock = some j → p + 1 ≤ j ∧ j < w.heap.size := fun j hj => h.O.lt j hj
theorem HS.drew {p q : Nat} {W2 w : World} {ha hb : Int} {U : Value} {S : List ByteArray} {cv : List Value} (h : HS p q W2 w ha hb U S cv) : HS p q W2 w.drew ha hb U S cv :=
  ⟨h.R.drew, h.O.drew, fun k v hk => h.C k v hk, below_drew h.bel, h.hp, h.hq, h.ne⟩
theorem HS.mid {p q : Nat} {W2 w w1 : World} {ha hb : Int} {U : Value} {S : List ByteArray} {cv : List Value} (h : HS p q W2 w ha hb U S cv) (g1 : w.grownBy w1 U.ownBlock) : Rf w1 p [.int .i64 ha, .int .i64 hb, U] :=
  ⟨fun k v hk => g1.cell (h.R.at_ k v hk) (fun e => by have := (h.ub p e.symm).1; omega), fun k => by
    have e := g1.block p h.hp (fun e => by have := (h.ub p e.symm).1; omega)
    have h1 := h.R.fz k
    unfold World.frozen? at h1 ⊢
    rw [e]; exact h1⟩
theorem HS.midC {p q : Nat} {W2 w w1 : World} {ha hb : Int} {U : Value} {S : List ByteArray} {cv : List Value} (h : HS p q W2 w ha hb U S cv) (g1 : w.grownBy w1 U.ownBlock) : Rs w1 q cv := fun k v hk => g1.cell (h.C k v hk) (fun e => h.ne q e.symm rfl)
theorem HS.step {p q : Nat} {W2 w w1 : World} {ha hb : Int} {U v' : Value} {S S' : List ByteArray} {cv : List Value} (h : HS p q W2 w ha hb U S cv) (hpq : p ≠ q) (o1 : w1.ownsRow (p + 1) 9 1 v' S'.length (S'.map Value.string)) (g1 : w.grownBy w1 U.ownBlock)
    (u1 : ∀ j, v'.ownBlock = some j → U.ownBlock = some j ∨ w.heap.size ≤ j) : HS p q W2 (w1.setCell ⟨p, 2, none⟩ v') ha hb v' S' cv := by
  have hs := g1.size
  have hss : (w1.setCell ⟨p, 2, none⟩ v').heap.size = w1.heap.size := by simp [World.setCell]
  have hp1 := h.hp
  have hq1 := h.hq
  refine ⟨(h.mid g1).set (by simp) _, ?_, fun k v hk => ?_, ?_, by omega, by omega, fun j hj => ?_⟩
  · exact o1.kept (grownSet w1 p 2 v') (blockCases _ _ fun i c1 c2 => by
      have e2 : p = i := by simpa using c2
      have := (o1.lt i c1).1
      omega)
  · exact (grownSet w1 p 2 v').cell (h.midC g1 k v hk) (fun e => by simp only [Option.some.injEq] at e; omega)
  · exact (h.bel.grown g1 (by omega) (fun i hi => by have := h.ub i hi; omega)).setCell (p := ⟨p, 2, none⟩) (Nat.le_refl _) _
  · rcases u1 j hj with e | e
    · exact h.ne j e
    · omega
end Go.Proofs.YtnkbjbbaoddfkaaGreatDoor
