/- The contract of the specification's l1Near over this seat's program. No statement is proved here. -/
import Derived.Test.YtkgcpndnlefkoaaGreatDoorRows
import Derived.Test.YtkgcpndnlefkoaaGreatDoorLemQ
import Derived.Test.YtkgcpndnlefkoaaGreatDoorLwEQ
import Derived.Test.YtkgcpndnlefkoaaGreatDoorDrawQ
import Derived.Test.YtkgcpndnlefkoaaGreatDoorDraw5Q
import Derived.Test.YtkgcpndnlefkoaaGreatDoorDTabQ
import Derived.WalkKit
import Derived.ProofKit
import Derived.Below
import Derived.WalkSpells
import Derived.Laws.Concat
import Derived.Maps.AppendAt
import Derived.Deep.RegionLaw
import Derived.Deep.QuietTactic
import Derived.BigQuiet
namespace Go.Proofs.YtkgcpndnlefkoaaGreatDoor
open Go.ChangeShapes Go.WideShapes Go.ChangeAt Go.RowKit

theorem own_nn {W : World} {base : Nat} {e : TypeId} {v : Value} {k : Nat} {xs : List Value} (h : W.ownsRow base e 1 v k xs) (hn : ¬ v = .slice none 0 0) : ∃ g cap, v = .slice (some ⟨g, 0, none⟩) k cap := by
  rcases h.2 with ⟨h', _⟩ | ⟨g, cap, _, h', _⟩
  · exact absurd h' hn
  · exact ⟨g, cap, h'⟩
theorem rowNews {w : World} {base g n c : Nat} {ts : List ByteArray} (ho : w.ownsRow base 9 1 (.slice (some ⟨g, 0, none⟩) n c) n (ts.map Value.string)) (i m : Nat) :
    ∀ j u, (((ts.drop i).take m).map Value.string)[j]? = some u → w.cell? ((⟨g, i, none⟩ : Addr).add j) = some u := by
  intro j u hj
  have hl : ts.length = n := by have := ho.1; simpa using this
  have hjl : j < ((ts.drop i).take m).length := by have := (List.getElem?_eq_some_iff.1 hj).1; simpa using this
  have hjl' := hjl
  rw [List.length_take, List.length_drop] at hjl'
  rw [add_plain, ho.cellAt (i + j) (by omega), ← hj]
  rw [List.getElem?_map, List.getElem?_map, List.getElem?_take_of_lt (by omega), List.getElem?_drop]
theorem grown_drewN (w : World) (m : Nat) (row : Option Nat) : w.grownBy (w.drewN m) row := ⟨rfl, rfl, rfl, Nat.le_refl _, fun _ _ _ => rfl⟩
theorem ownCap {w : World} {base e s g n c : Nat} {xs : List Value} (h : w.ownsRow base e s (.slice (some ⟨g, 0, none⟩) n c) n xs) : n ≤ c := by
  rcases h.2 with ⟨h', _⟩ | ⟨g', cap, cur, h', _, _, h4⟩
  · cases h'
  · simp only [Value.slice.injEq] at h'
    obtain ⟨_, _, rfl⟩ := h'
    have := h4
    omega
theorem step_appD {P : Program} {ops : Array Oper} {o : Oper} {a : Act} {w : World} {K : Act → World → Prop} {Q : Exit → Act → World → Prop} {E : Prop}
    (hg : o.guard = none) (s x : Operand) (t : TypeId) (hop : o.op = Op.call { callee := Callee.builtin Builtin.append, args := #[s, x], argTypes := #[t, t] })
    (base : Nat) (e : TypeId) (i : TypeInfo) (z : Value) (size bytes : Nat) (ht : P.underlying t = some (.slice e)) (hi : P.info? e = some i) (hz : i.zero = some z)
    (hsize : i.size = size) (hby : i.bytes = bytes) (hzs : z.cells.size = size) (hsz : 0 < size)
    (v : Value) (n : Nat) (xs : List Value) (hs : a.eval s = v) (hown : w.ownsRow base e size v n xs)
    (ad : Addr) (m c : Nat) (news : List Value) (hx : a.eval x = .slice (some ad) m c) (hl : news.length = m * size) (hnews : ∀ j u, news[j]? = some u → w.cell? (ad.add j) = some u) (h1 : ∀ u ∈ news, u.oneCell' = true)
    (h63 : n + m ≤ maxLen) (hbytes : (n + m) * bytes ≤ 140737488355328) (hbase : base ≤ w.heap.size)
    (hK : ∀ v' w', w'.ownsRow base e size v' (n + m) (xs ++ news) → w.grownBy w' v.ownBlock → (v'.ownBlock = v.ownBlock ∨ v'.ownBlock = some w.heap.size) → K (a.put o.dst v') w') :
    if Region.wanted o (yielded ops a.tmps) = true then Oper.wp P o a w K Q else E := by
  have hw : Region.wanted o (yielded ops a.tmps) = true := by simp [Region.wanted, hg]
  rw [if_pos hw]
  obtain ⟨v', w', hr, h2, h3, h4, h5⟩ := run_append_own_at (P := P) w base t o.type e i z size bytes ht hi hz hsize hby hzs hsz v n xs hown ad m c news hl hnews h1 h63 hbytes hbase
  unfold Oper.wp
  simp only [execOp, hop, resolve, invoke, builtin, Sem.run_bind, Sem.run_pure, Result.andThen_ok, List.map_toArray, List.map_cons, List.map_nil, hs, hx, hr]
  exact hK v' w' h2 h3 h5
theorem own_blk {W : World} {base : Nat} {e : TypeId} {v : Value} {k : Nat} {xs : List Value} (h : W.ownsRow base e 1 v k xs) {j : Nat} (hj : v.ownBlock = some j) : ∃ g cap, v = .slice (some ⟨g, 0, none⟩) k cap := by
  rcases h.2 with ⟨h', _⟩ | ⟨g, cap, _, h', _⟩
  · rw [h'] at hj; cases hj
  · exact ⟨g, cap, h'⟩
theorem newsKept {w w' : World} {row : Option Nat} {news : List Value} {g i : Nat} (h : ∀ j u, news[j]? = some u → w.cell? ((⟨g, i, none⟩ : Addr).add j) = some u) (hg : w.grownBy w' row) (hne : some g ≠ row) : ∀ j u, news[j]? = some u → w'.cell? ((⟨g, i, none⟩ : Addr).add j) = some u := fun j u hj => by
  have := h j u hj
  rw [add_plain] at this ⊢
  exact hg.cell this hne
theorem step_call1 {ops : Array Oper} {o : Oper} {a : Act} {w : World} {K : Act → World → Prop} {Q : Exit → Act → World → Prop} {E : Prop}
    (hg : o.guard = none) (f : FuncId) (hf : ∀ vs w, (callFunc f vs).run Tryz.prog w = .ok (.enter f vs) w) (x1 : Operand) (ts : Array TypeId) (hop : o.op = Op.call { callee := Callee.value (Operand.func f), args := #[x1], argTypes := ts })
    (v1 : Value) (h1 : a.eval x1 = v1) {P : Ending → World → Prop} (hc : Calls Tryz.prog f #[v1] w P) (hK : ∀ e w', P e w' → ∃ v, e = .returned v ∧ K (a.put o.dst v) w') :
    if Region.wanted o (yielded ops a.tmps) = true then Oper.wp Tryz.prog o a w K Q else E := by
  have hw : Region.wanted o (yielded ops a.tmps) = true := by simp [Region.wanted, hg]
  rw [if_pos hw]
  have hrun : (execOp a.eval o).run Tryz.prog w = .ok (.enter f #[v1]) w := by
    simp [execOp, hop, resolve, invoke, go_sem, hf]
    cases x1 with | tmp t => simpa [Act.eval] using h1 | const v => exact h1 | global g => exact h1 | func f => exact h1
  unfold Oper.wp
  rw [hrun, Oper.upon_enter]
  refine hc.mono ?_
  intro e w' hp
  obtain ⟨v, rfl, hk⟩ := hK e w' hp
  exact hk
theorem enterWord : ∀ vs w, (callFunc 45 vs).run Tryz.prog w = .ok (.enter 45 vs) w := fun vs w => by
  have h1 : (Tryz.f45.name == "runtime.NumGoroutine") = false := by kernel_rfl
  have hb : Tryz.f45.body.isNone = false := by kernel_rfl
  have h2 : ¬ Tryz.f45.name = "runtime.NumGoroutine" := by simpa using h1
  have h3 : ¬ Tryz.f45.body = none := fun e => by rw [e] at hb; cases hb
  simp [callFunc, Tryz.func45, h2, h3]
/-- What a row that is being made lets stand: the source, the older blocks. -/
structure St (N b : Nat) (a : Option Addr) (n cap : Nat) (k : Int) (M : Nat) (w w5 : World) (v : Value) : Prop where
  src : Src N w5 b a n cap k
  gr : w.grownBy w5 (some b)
  sz : M ≤ w5.heap.size
  blk : ∃ j, v.ownBlock = some j ∧ M ≤ j
theorem St.app {N b : Nat} {a : Option Addr} {n cap : Nat} {k : Int} {M : Nat} {w w5 w6 : World} {v v' : Value} (h : St N b a n cap k M w w5 v) (hb : b < M) (hw : w.heap.size ≤ M) (g : w5.grownBy w6 v.ownBlock) (hk : v'.ownBlock = v.ownBlock ∨ v'.ownBlock = some w5.heap.size) : St N b a n cap k M w w6 v' := by
  obtain ⟨j, hj, hM⟩ := h.blk
  have hN := h.src.ge
  have hs := h.sz
  refine ⟨h.src.kept g (by rw [hj]; simp; omega) (fun i hi => by rw [hj] at hi; cases hi; omega), grown_new h.gr g (fun i hi => by rw [hj] at hi; cases hi; omega), Nat.le_trans hs g.size, ?_⟩
  rcases hk with hk | hk
  · exact ⟨j, hk.trans hj, hM⟩
  · exact ⟨_, hk, hs⟩
theorem St.lit {N b : Nat} {a : Option Addr} {n cap : Nat} {k : Int} {w w4 : World} (o : Obj) (hs : Src N w4 b a n cap k) (hg : w.grownBy w4 (some b)) : St N b a n cap k w4.heap.size w ((w4.alloc o).drew) (.slice (some ⟨w4.heap.size, 0, none⟩) 0 0) := by
  have g1 : w4.grownBy ((w4.alloc o).drew) (some b) := by
    have := World.grownBy_alloc w4 o (some b)
    exact ⟨this.os, this.tape, this.output, this.size, this.block⟩
  have g0 : w4.grownBy ((w4.alloc o).drew) none := by
    have := World.grownBy_alloc w4 o none
    exact ⟨this.os, this.tape, this.output, this.size, this.block⟩
  exact ⟨hs.kept g0 (by simp) (fun _ e => by cases e), grown_trans hg g1, by show _ ≤ (w4.alloc o).heap.size; simp, ⟨_, rfl, Nat.le_refl _⟩⟩
theorem St.call {N b : Nat} {a : Option Addr} {n cap : Nat} {k k' : Int} {M : Nat} {w w5 w6 : World} {v : Value} (h : St N b a n cap k M w w5 v) (hs : Src N w6 b a n cap k') (g : w5.grownBy w6 (some b)) : St N b a n cap k' M w w6 v :=
  ⟨hs, grown_trans h.gr g, Nat.le_trans h.sz g.size, h.blk⟩
theorem St.alloc {N b : Nat} {a : Option Addr} {n cap : Nat} {k : Int} {M : Nat} {w w5 : World} {v : Value} (h : St N b a n cap k M w w5 v) (o : Obj) : St N b a n cap k M w (w5.alloc o) v :=
  ⟨h.src.below ((Below.refl _ _).alloc (Nat.le_refl _) _), grown_trans h.gr (World.grownBy_alloc _ _ _), by simp; exact Nat.le_succ_of_le h.sz, h.blk⟩
theorem St.ne {N b : Nat} {a : Option Addr} {n cap : Nat} {k : Int} {M : Nat} {w w5 : World} {v : Value} (h : St N b a n cap k M w w5 v) (hb : b < M) : v.ownBlock = none ∨ v.ownBlock ≠ some b := by
  obtain ⟨j, hj, hM⟩ := h.blk
  exact .inr (by rw [hj]; simp; omega)
theorem St.own {N b : Nat} {a : Option Addr} {n cap : Nat} {k : Int} {M : Nat} {w w5 : World} {v : Value} (h : St N b a n cap k M w w5 v) {base : Nat} {e : TypeId} {m : Nat} {xs : List Value} (ho : w5.ownsRow base e 1 v m xs) : ∃ g cap, v = .slice (some ⟨g, 0, none⟩) m cap := by
  obtain ⟨j, hj, _⟩ := h.blk
  exact own_blk ho hj
def NearPostM (M N b : Nat) (a : Option Addr) (n cap : Nat) (k : Int) (w : World) (e : Ending) (w' : World) : Prop :=
  ∃ (ts : List ByteArray) (g c : Nat) (k' : Int), e = .returned (.slice (some ⟨g, 0, none⟩) ts.length c) ∧ ts.length ≤ M + 3 ∧ Small 9 ts ∧
      w'.ownsRow w.heap.size 9 1 (.slice (some ⟨g, 0, none⟩) ts.length c) ts.length (ts.map Value.string) ∧ Src N w' b a n cap k' ∧ k' ≤ k + 20 ∧ w.grownBy w' (some b)
/-- The lines ahead of i may have nine bytes, the others eight; none is empty. -/
def Sp (i : Nat) (ts : List ByteArray) : Prop := ∀ j x, ts[j]? = some x → 0 < x.size ∧ x.size ≤ (if j < i then 9 else 8)

def NearPost (N b : Nat) (a : Option Addr) (n cap : Nat) (k : Int) (w : World) (e : Ending) (w' : World) : Prop :=
  ∃ (ts : List ByteArray) (g c : Nat) (k' : Int), e = .returned (.slice (some ⟨g, 0, none⟩) ts.length c) ∧ ts.length ≤ 1000 ∧ Small 9 ts ∧
      w'.ownsRow w.heap.size 9 1 (.slice (some ⟨g, 0, none⟩) ts.length c) ts.length (ts.map Value.string) ∧ Src N w' b a n cap k' ∧ k' ≤ k + 20 ∧ w.grownBy w' (some b)
end Go.Proofs.YtkgcpndnlefkoaaGreatDoor
/- The contracts of the specification's l2Two and DrawEditCount over this seat's program. No statement is proved here. -/
namespace Go.Proofs.YtkgcpndnlefkoaaGreatDoor
open Go.ChangeShapes Go.WideShapes Go.ChangeAt Go.RowKit

/-- Lines are never read from the source's own block. -/
theorem SS.src {N : Nat} {w w' : World} {b : Nat} {a : Option Addr} {n cap : Nat} {k : Int} {x : Option Addr} {ss : List ByteArray} (h : SS w x ss) (hs : Src N w b a n cap k) (hg : w.grownBy w' (some b)) : SS w' x ss :=
  ⟨h.1, fun i hi => by
    obtain ⟨b', off, e, hb, hc⟩ := h.2 i hi
    refine ⟨b', off, e, Nat.lt_of_lt_of_le hb hg.size, hg.cell hc (fun e' => ?_)⟩
    simp only [Option.some.injEq] at e'
    subst e'
    have : w.cell? ⟨b', off + i, none⟩ = (#[Value.slice a n cap, Value.int .i64 k] : Array Value)[off + i]? := cell_of_row w b' (off + i) _ _ _ hs.blk
    rw [this] at hc
    have h3 : off + i = 0 ∨ off + i = 1 ∨ 2 ≤ off + i := by omega
    rcases h3 with h3 | h3 | h3
    · rw [h3] at hc; simp at hc
    · rw [h3] at hc; simp at hc
    · rw [Array.getElem?_eq_none (by simp; omega)] at hc; cases hc⟩
theorem Small.mono {z z' : Nat} {ss : List ByteArray} (h : Small z ss) (hz : z ≤ z') : Small z' ss := fun x hx => Nat.le_trans (h x hx) hz
def TwoPost (b : Nat) (w : World) (e : Ending) (w' : World) : Prop := ∃ (a1 : Option Addr) (c1 : Nat) (xs : List ByteArray) (a2 : Option Addr) (c2 : Nat) (ys : List ByteArray), e = .returned (.tuple #[.slice a1 xs.length c1, .slice a2 ys.length c2]) ∧ SS w' a1 xs ∧ SS w' a2 ys ∧ xs.length ≤ 1000 ∧ ys.length ≤ 1000 ∧ Small 9 xs ∧ Small 9 ys ∧ w.grownBy w' (some b)

end Go.Proofs.YtkgcpndnlefkoaaGreatDoor
/- The contracts of the specification's l2Two and DrawHunksOf (with capacities, whose rows are whole, and the source behind them) over this seat's program. No statement is proved here. -/
namespace Go.Proofs.YtkgcpndnlefkoaaGreatDoor
open Go.ChangeShapes Go.WideShapes Go.ChangeAt Go.RowKit

def BentPostD (N b : Nat) (a : Option Addr) (n cap : Nat) (k : Int) (w : World) (e : Ending) (w' : World) : Prop := ∃ (x : Option Addr) (c : Nat) (ss : List ByteArray), e = .returned (.slice x ss.length c) ∧ SS w' x ss ∧ ss.length ≤ 1000 ∧ Small 9 ss ∧ ss.length ≤ c ∧ w.grownBy w' (some b) ∧ (∃ g, x = some ⟨g, 0, none⟩) ∧ ∃ k', Src N w' b a n cap k' ∧ k' ≤ k + 200

def TwoPostD (N b : Nat) (a : Option Addr) (n cap : Nat) (w : World) (e : Ending) (w' : World) : Prop := ∃ (a1 : Option Addr) (c1 : Nat) (xs : List ByteArray) (a2 : Option Addr) (c2 : Nat) (ys : List ByteArray), e = .returned (.tuple #[.slice a1 xs.length c1, .slice a2 ys.length c2]) ∧ SS w' a1 xs ∧ SS w' a2 ys ∧ xs.length ≤ 1000 ∧ ys.length ≤ 1000 ∧ Small 9 xs ∧ Small 9 ys ∧ xs.length ≤ c1 ∧ ys.length ≤ c2 ∧ w.grownBy w' (some b) ∧ (∃ g, a1 = some ⟨g, 0, none⟩) ∧ (∃ g, a2 = some ⟨g, 0, none⟩) ∧ ∃ k', Src N w' b a n cap k' ∧ k' ≤ 1000000

set_option maxHeartbeats 800000 in
theorem l1Pick (N b : Nat) (a : Option Addr) (n cap : Nat) (k : Int) (g m c : Nat) (P : Int → Prop) (w : World) (h : Src N w b a n cap k) (hk : k ≤ 4294967296) (hm : 0 < m) (hm2 : m ≤ 1000) (hg : g ≠ b) (_ : g < w.heap.size)
    (hl : ∀ j, j < m → ∃ v, w.cell? ⟨g, j, none⟩ = some (.int .i64 v) ∧ P v) :
    Calls Tryz.prog 43 #[.pointer (some ⟨b, 0, none⟩), .slice (some ⟨g, 0, none⟩) m c] w fun e w' => ∃ v, e = .returned (.int .i64 v) ∧ P v ∧ Src N w' b a n cap (k + 1) ∧ w.grownBy w' (some b) := by
  have hlt := h.lt
  go_enter Tryz.func43, Tryz.ntmps43
  go_wp2_with fail
  refine (l1Next N b a n cap k m _ h hk).mono ?_; rintro e w2 ⟨r, rfl, hd, hs, gg⟩
  have hd0 := hd.1
  have hd1 : r < m := hd.2.1 (by omega)
  obtain ⟨j, rfl⟩ := Int.eq_ofNat_of_zero_le hd0
  have hj : j < m := by omega
  obtain ⟨v, hv, hP⟩ := hl j hj
  have hv2 : w2.cell? ⟨g, j, none⟩ = some (.int .i64 v) := gg.cell hv (by simp; exact hg)
  clear hd hd0 hl hv
  go_wp2_with fail
  go_ret
  exact ⟨v, rfl, hP, hs, gg⟩
def HoPost (w : World) (e : Ending) (w' : World) : Prop := ∃ (g1 : Nat) (c1 : Nat) (xs : List ByteArray) (g2 : Nat) (c2 : Nat) (ys : List ByteArray) (cx : Int), e = .returned (.tuple #[.slice (some ⟨g1, 0, none⟩) xs.length c1, .slice (some ⟨g2, 0, none⟩) ys.length c2, .int .i64 cx]) ∧ SS w' (some ⟨g1, 0, none⟩) xs ∧ SS w' (some ⟨g2, 0, none⟩) ys ∧ xs.length ≤ 1000 ∧ ys.length ≤ 1000 ∧ tot xs ≤ 9000 ∧ tot ys ≤ 9000 ∧ xs.length ≤ c1 ∧ ys.length ≤ c2 ∧ Below w.heap.size w w'
end Go.Proofs.YtkgcpndnlefkoaaGreatDoor
