/- A commit, as the specification draws them. No statement is proved here. -/
import Derived.Test.YtijphomojljckaaGreatDoorRows
import Derived.Test.YtijphomojljckaaGreatDoorLemQ
import Derived.Test.YtijphomojljckaaGreatDoorLFLemQ
import Derived.Test.YtijphomojljckaaGreatDoorComQ
import Derived.Test.YtijphomojljckaaGreatDoorInQ
import Derived.Test.YtijphomojljckaaGreatDoorHkTQ
import Derived.Test.YtijphomojljckaaGreatDoorDigCQ
import Derived.Test.YtijphomojljckaaGreatDoorDrawQ
import Derived.Test.YtijphomojljckaaGreatDoorTeAQ
import Derived.Test.YtijphomojljckaaGreatDoorCutDQ
import Derived.Test.YtijphomojljckaaGreatDoorDraw21Q
import Derived.WalkKit
import Derived.ProofKit
import Derived.Below
import Derived.WalkSpells
import Derived.Maps.AppendAt
import Derived.Deep.QuietTactic
import Derived.BigQuiet
import Derived.Deep.RegionWith
import Derived.Deep.RegionHeld
import Derived.Deep.RegionLaw
import Derived.Deep.CutBlock
import Derived.Deep.Cut
import Derived.Deep.CutRange
import Derived.Deep.Onto
set_option linter.unusedVariables false
namespace Go.Proofs.YtijphomojljckaaGreatDoor.Cd
open Go.ChangeShapes Go.WideShapes Go.ChangeAt Go.RowKit
theorem step_appD {P : Program} {ops : Array Oper} {o : Oper} {a : Act} {w : World} {K : Act → World → Prop} {Q : Exit → Act → World → Prop} {E : Prop}
    (hg : o.guard = none) (s x : Operand) (t : TypeId) (hop : o.op = Op.call { callee := Callee.builtin Builtin.append, args := #[s, x], argTypes := #[t, t] })
    (base : Nat) (e : TypeId) (i : TypeInfo) (z : Value) (size bytes : Nat) (ht : P.underlying t = some (.slice e)) (hi : P.info? e = some i) (hz : i.zero = some z)
    (hsize : i.size = size) (hby : i.bytes = bytes) (hzs : z.cells.size = size) (hsz : 0 < size)
    (v : Value) (n : Nat) (xs : List Value) (hs : a.eval s = v) (hown : w.ownsRow base e size v n xs)
    (ad : Addr) (m c : Nat) (news : List Value) (hx : a.eval x = .slice (some ad) m c) (hl : news.length = m * size) (hnews : ∀ j u, news[j]? = some u → w.cell? (ad.add j) = some u) (h1 : ∀ u ∈ news, u.oneCell' = true)
    (h63 : n + m ≤ maxLen) (hbytes : (n + m) * bytes ≤ 140737488355328) (hbase : base ≤ w.heap.size)
    (hK : ∀ v' w', w'.ownsRow base e size v' (n + m) (xs ++ news) → w.grownBy w' v.ownBlock → (v'.ownBlock = v.ownBlock ∨ v'.ownBlock = some w.heap.size) → K (a.put o.dst v') w') :
    if Region.wanted o (yielded ops a.tmps) = true then Oper.wp P o a w K Q else E := by
  have hw : Region.wanted o (yielded ops a.tmps) = true := by simp [Region.wanted, hg]
  rw [if_pos hw]
  obtain ⟨v', w', hr, h2, h3, h4, h5⟩ := run_append_own_at (P := P) w base t o.type e i z size bytes ht hi hz hsize hby hzs hsz v n xs hown ad m c news hl hnews h1 h63 hbytes hbase
  unfold Oper.wp
  simp only [execOp, hop, resolve, invoke, builtin, Sem.run_bind, Sem.run_pure, Result.andThen_ok, List.map_toArray, List.map_cons, List.map_nil, hs, hx, hr]
  exact hK v' w' h2 h3 h5
theorem step_call1 {ops : Array Oper} {o : Oper} {a : Act} {w : World} {K : Act → World → Prop} {Q : Exit → Act → World → Prop} {E : Prop}
    (hg : o.guard = none) (f : FuncId) (hf : ∀ vs w, (callFunc f vs).run Tryz.prog w = .ok (.enter f vs) w) (x1 : Operand) (ts : Array TypeId) (hop : o.op = Op.call { callee := Callee.value (Operand.func f), args := #[x1], argTypes := ts })
    (v1 : Value) (h1 : a.eval x1 = v1) {P : Ending → World → Prop} (hc : Calls Tryz.prog f #[v1] w P) (hK : ∀ e w', P e w' → ∃ v, e = .returned v ∧ K (a.put o.dst v) w') :
    if Region.wanted o (yielded ops a.tmps) = true then Oper.wp Tryz.prog o a w K Q else E := by
  have hw : Region.wanted o (yielded ops a.tmps) = true := by simp [Region.wanted, hg]
  rw [if_pos hw]
  have hrun : (execOp a.eval o).run Tryz.prog w = .ok (.enter f #[v1]) w := by
    simp [execOp, hop, resolve, invoke, go_sem, hf]
    cases x1 with | tmp t => simpa [Act.eval] using h1 | const v => exact h1 | global g => exact h1 | func f => exact h1
  unfold Oper.wp
  rw [hrun, Oper.upon_enter]
  refine hc.mono ?_
  intro e w' hp
  obtain ⟨v, rfl, hk⟩ := hK e w' hp
  exact hk
theorem step_call2 {ops : Array Oper} {o : Oper} {a : Act} {w : World} {K : Act → World → Prop} {Q : Exit → Act → World → Prop} {E : Prop}
    (hg : o.guard = none) (f : FuncId) (hf : ∀ vs w, (callFunc f vs).run Tryz.prog w = .ok (.enter f vs) w) (x1 x2 : Operand) (ts : Array TypeId) (hop : o.op = Op.call { callee := Callee.value (Operand.func f), args := #[x1, x2], argTypes := ts })
    (v1 v2 : Value) (h1 : a.eval x1 = v1) (h2 : a.eval x2 = v2) {P : Ending → World → Prop} (hc : Calls Tryz.prog f #[v1, v2] w P) (hK : ∀ e w', P e w' → ∃ v, e = .returned v ∧ K (a.put o.dst v) w') :
    if Region.wanted o (yielded ops a.tmps) = true then Oper.wp Tryz.prog o a w K Q else E := by
  have hw : Region.wanted o (yielded ops a.tmps) = true := by simp [Region.wanted, hg]
  rw [if_pos hw]
  have hrun : (execOp a.eval o).run Tryz.prog w = .ok (.enter f #[v1, v2]) w := by
    simp [execOp, hop, resolve, invoke, go_sem, hf]
    exact ⟨(by cases x1 with | tmp t => simpa [Act.eval] using h1 | const v => exact h1 | global g => exact h1 | func f => exact h1), (by cases x2 with | tmp t => simpa [Act.eval] using h2 | const v => exact h2 | global g => exact h2 | func f => exact h2)⟩
  unfold Oper.wp
  rw [hrun, Oper.upon_enter]
  refine hc.mono ?_
  intro e w' hp
  obtain ⟨v, rfl, hk⟩ := hK e w' hp
  exact hk
theorem enterWord : ∀ vs w, (callFunc 37 vs).run Tryz.prog w = .ok (.enter 37 vs) w := fun vs w => by
  have h1 : (Tryz.f37.name == "runtime.NumGoroutine") = false := by kernel_rfl
  have hb : Tryz.f37.body.isNone = false := by kernel_rfl
  have h2 : ¬ Tryz.f37.name = "runtime.NumGoroutine" := by simpa using h1
  have h3 : ¬ Tryz.f37.body = none := fun e => by rw [e] at hb; cases hb
  simp [callFunc, Tryz.func37, h2, h3]
theorem enterId : ∀ vs w, (callFunc 36 vs).run Tryz.prog w = .ok (.enter 36 vs) w := fun vs w => by
  have h1 : (Tryz.f36.name == "runtime.NumGoroutine") = false := by kernel_rfl
  have hb : Tryz.f36.body.isNone = false := by kernel_rfl
  have h2 : ¬ Tryz.f36.name = "runtime.NumGoroutine" := by simpa using h1
  have h3 : ¬ Tryz.f36.body = none := fun e => by rw [e] at hb; cases hb
  simp [callFunc, Tryz.func36, h2, h3]
theorem enterNext : ∀ vs w, (callFunc 35 vs).run Tryz.prog w = .ok (.enter 35 vs) w := fun vs w => by
  have h1 : (Tryz.f35.name == "runtime.NumGoroutine") = false := by kernel_rfl
  have hb : Tryz.f35.body.isNone = false := by kernel_rfl
  have h2 : ¬ Tryz.f35.name = "runtime.NumGoroutine" := by simpa using h1
  have h3 : ¬ Tryz.f35.body = none := fun e => by rw [e] at hb; cases hb
  simp [callFunc, Tryz.func35, h2, h3]
theorem rfRow {w w' : World} {b : Nat} {vs : List Value} {row : Option Nat} (h : Rf w b vs) (hg : w.grownBy w' row) (hne : some b ≠ row) (hlt : b < w.heap.size) : Rf w' b vs :=
  ⟨fun k v hk => hg.cell (h.at_ k v hk) hne, fun k => by have q := hg.block b hlt hne; have f := h.fz k; unfold World.frozen? at f ⊢; rw [q]; exact f⟩
/-- What stands while a commit is drawn: its block, the answer's block, the row of its parents, the source. -/
structure CW (N b : Nat) (a : Option Addr) (n cap : Nat) (K : Int) (w wr : World) (p : Nat) (t : ByteArray) (v : Value) (ps : List ByteArray) (tm : Int) (no : ByteArray) (k' : Int) : Prop where
  rf : Rf wr p [.string t, v, .int .i64 tm, .string no]
  rs : Rf wr w.heap.size [.string ⟨#[]⟩, .slice none 0 0, .int .i64 0, .string ⟨#[]⟩]
  own : wr.ownsRow (w.heap.size + 1) 9 1 v ps.length (ps.map Value.string)
  ob : v.ownBlock ≠ some p
  p0 : w.heap.size < p
  p1 : p < wr.heap.size
  src : Src N wr b a n cap k'
  hi : k' ≤ K
  gr : w.grownBy wr (some b)
variable {N b : Nat} {a : Option Addr} {n cap : Nat} {K : Int} {w wr : World} {p : Nat} {t : ByteArray} {v : Value} {ps : List ByteArray} {tm : Int} {no : ByteArray} {k' : Int}
theorem CW.up {K2 : Int} (h : CW N b a n cap K w wr p t v ps tm no k') (hk : K ≤ K2) : CW N b a n cap K2 w wr p t v ps tm no k' := ⟨h.rf, h.rs, h.own, h.ob, h.p0, h.p1, h.src, by have := h.hi; omega, h.gr⟩
theorem CW.draw {w2 : World} {k2 : Int} (h : CW N b a n cap K w wr p t v ps tm no k') (hs : Src N w2 b a n cap k2) (hg : wr.grownBy w2 (some b)) (hb : b < w.heap.size) (K2 : Int) (hk : k2 ≤ K2) : CW N b a n cap K2 w w2 p t v ps tm no k2 := by
  have h0 := h.p0
  have h1 := h.p1
  exact ⟨rfRow h.rf hg (by simp; omega) h1, rfRow h.rs hg (by simp; omega) (by omega), h.own.kept hg (blockCases _ _ fun j q1 q2 => by have := (h.own.lt j q1).1; cases q2; omega), h.ob, h0, Nat.lt_of_lt_of_le h1 hg.size, hs, hk, grown_trans h.gr hg⟩
theorem CW.bel {w2 : World} (h : CW N b a n cap K w wr p t v ps tm no k') (hB : Below wr.heap.size wr w2) : CW N b a n cap K w w2 p t v ps tm no k' := by
  have h0 := h.p0
  have h1 := h.p1
  have hg := Te.grB hB none
  exact ⟨rfRow h.rf hg (by simp) h1, rfRow h.rs hg (by simp) (by omega), h.own.kept hg (blockCases _ _ fun j q1 q2 => by cases q2), h.ob, h0, Nat.lt_of_lt_of_le h1 hg.size, h.src.below hB, h.hi, grown_trans h.gr (Te.grB hB _)⟩
/-- One of its four cells is stored anew. -/
theorem CW.put (h : CW N b a n cap K w wr p t v ps tm no k') (hb : b < w.heap.size) (o : Nat) (u : Value) (t2 : ByteArray) (v2 : Value) (ps2 : List ByteArray) (tm2 : Int) (no2 : ByteArray) (ho : o < 4)
    (hl : [.string t, v, .int .i64 tm, .string no].set o u = [.string t2, v2, .int .i64 tm2, .string no2]) (own2 : wr.ownsRow (w.heap.size + 1) 9 1 v2 ps2.length (ps2.map Value.string)) (ob2 : v2.ownBlock ≠ some p) :
    CW N b a n cap K w (wr.setCell ⟨p, o, none⟩ u) p t2 v2 ps2 tm2 no2 k' := by
  have h0 := h.p0
  have h1 := h.p1
  have hge := h.src.ge
  have hg := grownSet wr p o u
  refine ⟨?_, rfRow h.rs hg (by simp; omega) (by omega), own2.kept hg (.inr ob2), ob2, h0, Nat.lt_of_lt_of_le h1 hg.size, h.src.kept hg (by simp; omega) (fun j hj => by cases hj; omega), h.hi, grown_new h.gr hg (fun j hj => by cases hj; omega)⟩
  rw [← hl]
  exact h.rf.set (by simpa using ho) u
/-- One parent more. -/
theorem CW.app (h : CW N b a n cap K w wr p t v ps tm no k') (hb : b < w.heap.size) {Z : Obj} {v2 : Value} {w2 : World} {x : ByteArray} (o : w2.ownsRow (w.heap.size + 1) 9 1 v2 (ps.length + 1) (ps.map Value.string ++ [.string x]))
    (g : (wr.alloc Z).grownBy w2 v.ownBlock) (hk : v2.ownBlock = v.ownBlock ∨ v2.ownBlock = some (wr.alloc Z).heap.size) :
    CW N b a n cap K w (w2.setCell ⟨p, 1, none⟩ v2) p t v2 (ps ++ [x]) tm no k' ∧ w2.cell? ⟨p, 1, none⟩ = some v ∧ w2.frozen? ⟨p, 1, none⟩ = false := by
  have h0 := h.p0
  have h1 := h.p1
  have hge := h.src.ge
  have hA := h.bel (allocBelow wr Z)
  have hA1 := hA.p1
  have nb : ∀ j, v.ownBlock = some j → w.heap.size + 1 ≤ j := fun j q => (h.own.lt j q).1
  have n1 : ∀ m : Nat, m ≤ w.heap.size → some m ≠ v.ownBlock := fun m hm e => by have := nb m e.symm; omega
  have r1 : Rf w2 p [.string t, v, .int .i64 tm, .string no] := rfRow hA.rf g (fun e => hA.ob e.symm) hA1
  have r2 := rfRow hA.rs g (n1 _ (Nat.le_refl _)) (by omega)
  have z2 := g.size
  have ob2 : v2.ownBlock ≠ some p := by
    rcases hk with q | q
    · rw [q]; exact h.ob
    · rw [q]; simp only [World.size_alloc]; intro e; have := Option.some.inj e; omega
  have hg := grownSet w2 p 1 v2
  have s2 : Src N w2 b a n cap k' := hA.src.kept g (n1 b (by omega)) (fun j hj => by have := nb j hj; omega)
  have gr2 : w.grownBy w2 (some b) := grown_new hA.gr g (fun j hj => by have := nb j hj; omega)
  refine ⟨⟨r1.set (o := 1) (by simp) v2, rfRow r2 hg (by simp; omega) (by omega), ?_, ob2, h0, Nat.lt_of_lt_of_le (Nat.lt_of_lt_of_le hA1 z2) hg.size, s2.kept hg (by simp; omega) (fun j hj => by cases hj; omega), h.hi, grown_new gr2 hg (fun j hj => by cases hj; omega)⟩, r1.at_ 1 _ rfl, r1.fz 1⟩
  have o2 := o.kept hg (.inr ob2)
  rw [List.length_append, List.map_append]
  exact o2
/-- A commit as it is drawn. -/
def CmPost (N b : Nat) (a : Option Addr) (n cap : Nat) (k : Int) (w : World) (e : Ending) (w' : World) : Prop :=
  ∃ (t : ByteArray) (v : Value) (ps : List ByteArray) (tm : Int) (no : ByteArray) (k' : Int), e = .returned (.agg #[.string t, v, .int .i64 tm, .string no]) ∧ ps.length ≤ 10 ∧ Small 100 ps ∧
    w'.ownsRow w.heap.size 9 1 v ps.length (ps.map Value.string) ∧ Src N w' b a n cap k' ∧ k' ≤ k + 40 ∧ w.grownBy w' (some b)
/-- It is handed back. -/
theorem CW.fin {k : Int} (h : CW N b a n cap K w wr p t v ps tm no k') (hb : b < w.heap.size) (hK : K ≤ k + 40) (hl : ps.length ≤ 10) (hs : Small 100 ps) :
    CmPost N b a n cap k w (.returned (.agg #[.string t, v, .int .i64 tm, .string no])) ((((wr.setCell ⟨w.heap.size, 0, none⟩ (.string t)).setCell ⟨w.heap.size, 1, none⟩ v).setCell ⟨w.heap.size, 2, none⟩ (.int .i64 tm)).setCell ⟨w.heap.size, 3, none⟩ (.string no)) := by
  have hge := h.src.ge
  have hg : wr.grownBy ((((wr.setCell ⟨w.heap.size, 0, none⟩ (.string t)).setCell ⟨w.heap.size, 1, none⟩ v).setCell ⟨w.heap.size, 2, none⟩ (.int .i64 tm)).setCell ⟨w.heap.size, 3, none⟩ (.string no)) (some w.heap.size) := grown_trans (grown_trans (grown_trans (grownSet _ _ _ _) (grownSet _ _ _ _)) (grownSet _ _ _ _)) (grownSet _ _ _ _)
  exact ⟨t, v, ps, tm, no, k', rfl, hl, hs, (h.own.kept hg (blockCases _ _ fun j q1 q2 => by have := (h.own.lt j q1).1; cases q2; omega)).mono (by omega), h.src.kept hg (by simp; omega) (fun j hj => by cases hj; omega), by have := h.hi; omega, grown_new h.gr hg (fun j hj => by cases hj; omega)⟩
end Go.Proofs.YtijphomojljckaaGreatDoor.Cd
