/- What stands while hunks are read. No statement is proved here. -/
import Derived.Test.YtnkbjbbaoddfkaaGreatDoorRows
import Derived.Test.YtnkbjbbaoddfkaaGreatDoorLemQ
import Derived.Test.YtnkbjbbaoddfkaaGreatDoorDTabQ
import Derived.Test.YtnkbjbbaoddfkaaGreatDoorHkLQ
import Derived.Test.YtnkbjbbaoddfkaaGreatDoorHkTQ
import Derived.Test.YtnkbjbbaoddfkaaGreatDoorHnLQ
import Derived.Test.YtnkbjbbaoddfkaaGreatDoorHrRQ
import Derived.Test.YtnkbjbbaoddfkaaGreatDoorRvLQ
import Derived.Test.YtnkbjbbaoddfkaaGreatDoorPpMQ
import Derived.Test.YtnkbjbbaoddfkaaGreatDoorPpRQ
import Derived.Test.YtnkbjbbaoddfkaaGreatDoorPqTQ
import Derived.Test.YtnkbjbbaoddfkaaGreatDoorPqJQ
import Derived.Test.YtnkbjbbaoddfkaaGreatDoorPqPQ
import Derived.WalkKit
import Derived.ProofKit
import Derived.Below
import Derived.Maps.AppendAt
import Derived.ScopeJumps
import Derived.WalkMore
set_option linter.unusedVariables false
namespace Go.Proofs.YtnkbjbbaoddfkaaGreatDoor.Pp
open Go.ChangeShapes Go.WideShapes Go.ChangeAt Go.RowKit

theorem setSize (w : World) (b o : Nat) (v : Value) : (w.setCell ⟨b, o, none⟩ v).heap.size = w.heap.size := by simp [World.setCell]
structure Cm (t : ByteArray) (R H : Nat) (w wr : World) (p : Nat) (a : Option Addr) (c : Nat) (L : List Hk) (sl : Nat → Value) : Prop where
  rf : Rf wr R [.string (rst t p), .slice a L.length c]
  ho : HO (H + 1) wr (.slice a L.length c) L sl
  bl : Below R w wr
  hz : H < wr.heap.size
theorem Cm.keep {t : ByteArray} {R H p c : Nat} {w wr w1 : World} {a : Option Addr} {L : List Hk} {sl : Nat → Value} (h : Cm t R H w wr p a c L sl) (hRH : R < H) (hb : Below wr.heap.size wr w1) : Cm t R H w w1 p a c L sl :=
  ⟨h.rf.below (by have := h.hz; omega) hb, h.ho.below hb, h.bl.trans (hb.mono (by have := h.hz; omega)), Nat.lt_of_lt_of_le h.hz hb.size⟩
theorem Cm.move {t : ByteArray} {R H p c : Nat} {w wr w1 : World} {a : Option Addr} {L : List Hk} {sl : Nat → Value} (h : Cm t R H w wr p a c L sl) (hRH : R < H) (hb : Below wr.heap.size wr w1) (q : Nat) : Cm t R H w (w1.setCell ⟨R, 0, none⟩ (.string (rst t q))) q a c L sl := by
  have k := h.keep hRH hb
  exact ⟨k.rf.set (o := 0) (by simp) _, k.ho.grown (grownSet _ _ _ _) (by omega), k.bl.setCell (p := ⟨R, 0, none⟩) (Nat.le_refl _) _, by rw [setSize]; exact k.hz⟩
theorem Cm.put {t : ByteArray} {R H p c : Nat} {w wr : World} {a : Option Addr} {L : List Hk} {sl : Nat → Value} (h : Cm t R H w wr p a c L sl) (hRH : R < H) (o : Nat) (v : Value) : Cm t R H w (wr.setCell ⟨H, o, none⟩ v) p a c L sl :=
  ⟨h.rf.other (by omega) _, h.ho.grown (grownSet _ _ _ _) (by omega), h.bl.setCell (p := ⟨H, o, none⟩) (by show R ≤ H; omega) _, by rw [setSize]; exact h.hz⟩
theorem Cm.pan {t : ByteArray} {R H p c : Nat} {w wr w' : World} {a : Option Addr} {L : List Hk} {sl : Nat → Value} {e : Ending} (h : Cm t R H w wr p a c L sl) (hRH : R < H) (hb : Below wr.heap.size wr w') (hp : pp t = (L, false)) (hL : L.length ≤ t.size) (he : Pan e) : RhP t R w e w' :=
  have k := h.keep hRH hb
  .inr ⟨L, a, c, _, hp, hL, he, k.rf, k.bl⟩
theorem Cm.fin {t : ByteArray} {R H p c : Nat} {w wr : World} {a : Option Addr} {L : List Hk} {sl : Nat → Value} (h : Cm t R H w wr p a c L sl) (hRH : R < H) (hp : pp t = (L, true)) (hL : L.length ≤ t.size) (hT : Tiny t.size L) : RhP t R w (.returned (.tuple #[])) wr :=
  .inl ⟨L, sl, a, c, _, hp, hT, hL, rfl, h.ho.mono (by omega), h.rf, h.bl⟩
/-- The hunk that is being read. -/
structure Rw (H : Nat) (wr : World) (x0 x1 : Int) (v : Value) (ss : List ByteArray) (hv : Value) (L : List Hk) (sl : Nat → Value) : Prop where
  rf : Rf wr H [.int .i64 x0, .int .i64 x1, v]
  own : wr.ownsRow (H + 1) 9 1 v ss.length (ss.map Value.string)
  off : ∀ j, v.ownBlock = some j → hv.ownBlock = some j → False
  each : ∀ k, k < L.length → ∀ j, v.ownBlock = some j → (sl k).ownBlock = some j → False
theorem Rw.keep {H : Nat} {wr w1 : World} {x0 x1 : Int} {v hv : Value} {ss : List ByteArray} {L : List Hk} {sl : Nat → Value} (h : Rw H wr x0 x1 v ss hv L sl) (hz : H < wr.heap.size) (hb : Below wr.heap.size wr w1) : Rw H w1 x0 x1 v ss hv L sl :=
  ⟨h.rf.below hz hb, (Fr.ofBelow (lo := 0) (hi := 0) hb).own h.own (fun _ _ => .inr (Nat.zero_le _)), h.off, h.each⟩
theorem Rw.move {R H : Nat} {wr w1 : World} {x0 x1 : Int} {v hv u : Value} {ss : List ByteArray} {L : List Hk} {sl : Nat → Value} (h : Rw H wr x0 x1 v ss hv L sl) (hRH : R < H) (hz : H < wr.heap.size) (hb : Below wr.heap.size wr w1) : Rw H (w1.setCell ⟨R, 0, none⟩ u) x0 x1 v ss hv L sl := by
  have k := h.keep hz hb
  exact ⟨k.rf.other (by omega) _, k.own.kept (grownSet _ _ _ _) (blockCases _ _ fun j c1 c2 => by cases c2; have := (k.own.lt _ c1).1; omega), k.off, k.each⟩
theorem fst_step {t : ByteArray} {a k q q1 q2 : Nat} {ns : List Int} (h : fstK t a k = some (ns, q)) (hw : wd t (mkW k) q = (q1 : Nat)) (hn : nmE t q1 = (q2 : Nat)) : fstK t a (k + 1) = some (ns ++ [nmV t q1], q2) := by
  rw [fstK, h]
  show stp t k (ns, q) = _
  unfold stp
  simp only [hw]
  rw [if_neg (by omega)]
  simp only [Int.toNat_natCast, hn]
  rw [if_neg (by omega)]
theorem fst_badW {t : ByteArray} {a k q : Nat} {ns : List Int} (h : fstK t a k = some (ns, q)) (hw : wd t (mkW k) q < 0) (hk : k < 4) : fst1 t a = none := by
  refine fst_none (3 - k) (k + 1) ?_ (by omega)
  rw [fstK, h]
  show stp t k (ns, q) = _
  unfold stp
  rw [if_pos hw]
theorem fst_badN {t : ByteArray} {a k q q1 : Nat} {ns : List Int} (h : fstK t a k = some (ns, q)) (hw : wd t (mkW k) q = (q1 : Nat)) (hn : nmE t q1 < 0) (hk : k < 4) : fst1 t a = none := by
  refine fst_none (3 - k) (k + 1) ?_ (by omega)
  rw [fstK, h]
  show stp t k (ns, q) = _
  unfold stp
  simp only [hw]
  rw [if_neg (by omega)]
  simp only [Int.toNat_natCast]
  rw [if_pos hn]
theorem fst_end {t : ByteArray} {a q q1 : Nat} {ns : List Int} (h : fstK t a 4 = some (ns, q)) (hw : wd t (mkW 4) q = (q1 : Nat)) : fst1 t a = some (ns, q1) := by
  unfold fst1
  rw [h]
  show (if wd t (mkW 4) q < 0 then none else some (ns, (wd t (mkW 4) q).toNat)) = _
  rw [hw, if_neg (by omega)]
  rfl
theorem fst_bad4 {t : ByteArray} {a q : Nat} {ns : List Int} (h : fstK t a 4 = some (ns, q)) (hw : wd t (mkW 4) q < 0) : fst1 t a = none := by
  unfold fst1
  rw [h]
  show (if wd t (mkW 4) q < 0 then none else some (ns, (wd t (mkW 4) q).toNat)) = _
  rw [if_pos hw]
theorem hk_none {t : ByteArray} {p : Nat} (h : fst1 t p = none) : hkP t p = none := by unfold hkP; rw [h]; rfl
theorem hk_some {t : ByteArray} {p q : Nat} {x0 o x1 n : Int} (h : fst1 t p = some ([x0, o, x1, n], q)) : hkP t p = (rdL t (t.size + 1) o n q).map fun r => ((x0, x1, ([] : List ByteArray) ++ r.1), r.2) := by
  unfold hkP
  rw [h]
  rfl
/-- Where the reading of a hunk stands. -/
def At2 (t : ByteArray) (p0 p : Nat) (x0 x1 o n : Int) (ss : List ByteArray) : Prop := ∃ f, t.size < p + f ∧ hkP t p0 = (rdL t f o n p).map fun r => ((x0, x1, ss ++ r.1), r.2)
theorem At2.no {t : ByteArray} {p0 p : Nat} {x0 x1 o n : Int} {ss : List ByteArray} (h : At2 t p0 p x0 x1 o n ss) (hp : p ≤ t.size) (ho : 0 < o ∨ 0 < n) (e : lnP t p = none) : hkP t p0 = none := by
  obtain ⟨f, hf, h⟩ := h
  obtain ⟨f, rfl⟩ : ∃ g, f = g + 1 := ⟨f - 1, by omega⟩
  rw [h, rdL_none ho e]
  rfl
theorem At2.done {t : ByteArray} {p0 p : Nat} {x0 x1 : Int} {ss : List ByteArray} (h : At2 t p0 p x0 x1 0 0 ss) (hp : p ≤ t.size) : hkP t p0 = some ((x0, x1, ss), p) := by
  obtain ⟨f, hf, h⟩ := h
  obtain ⟨f, rfl⟩ : ∃ g, f = g + 1 := ⟨f - 1, by omega⟩
  rw [h, rdL_end (by omega) (by omega)]
  simp
theorem At2.go {t : ByteArray} {p0 p q : Nat} {x0 x1 o n : Int} {ss : List ByteArray} {s : ByteArray} (h : At2 t p0 p x0 x1 o n ss) (hp : p ≤ t.size) (hq : p < q) (ho : 0 < o ∨ 0 < n) (e : lnP t p = some (s, q)) : At2 t p0 q x0 x1 (o - old1 (mark0 s)) (n - new1 (mark0 s)) (ss ++ [s]) := by
  obtain ⟨f, hf, h⟩ := h
  obtain ⟨f, rfl⟩ : ∃ g, f = g + 1 := ⟨f - 1, by omega⟩
  refine ⟨f, by omega, ?_⟩
  rw [h, rdL_go ho e, Option.map_map]
  congr 1
  funext r
  simp
theorem At2.below0 {t : ByteArray} {p0 p q : Nat} {x0 x1 o n : Int} {ss : List ByteArray} {s : ByteArray} (h : At2 t p0 p x0 x1 o n ss) (hp : p ≤ t.size) (ho : 0 < o ∨ 0 < n) (e : lnP t p = some (s, q)) (hn : o - old1 (mark0 s) < 0 ∨ n - new1 (mark0 s) < 0) : hkP t p0 = none := by
  obtain ⟨f, hf, h⟩ := h
  obtain ⟨f, rfl⟩ : ∃ g, f = g + 1 := ⟨f - 1, by omega⟩
  rw [h, rdL_go ho e, rdL_neg _ _ _ _ _ hn]
  rfl
theorem lnP_bd {t : ByteArray} {p q : Nat} {s : ByteArray} (h : lnP t p = some (s, q)) : p < q ∧ q ≤ t.size ∧ s.size ≤ t.size ∧ okH s = true := by
  unfold lnP at h
  split at h
  · cases h
  · rename_i h1
    split at h
    · rename_i h2
      have := lnQ_bd t p (by omega)
      have e := Option.some.inj h
      rw [e] at this h2
      exact ⟨this.1, this.2.1, this.2.2, h2⟩
    · cases h
theorem pp_none {t : ByteArray} {p f : Nat} {L : List Hk} (h : pp t = (L ++ (ppL t f p).1, (ppL t f p).2)) (hf : t.size < p + f) (hp : p < t.size) (e : hkP t p = none) : pp t = (L, false) := by
  obtain ⟨f, rfl⟩ : ∃ g, f = g + 1 := ⟨f - 1, by omega⟩
  rw [h, ppL_bad (by omega) e]
  simp
theorem pp_all' {t : ByteArray} {p f : Nat} {L : List Hk} (h : pp t = (L ++ (ppL t f p).1, (ppL t f p).2)) (hf : t.size < p + f) (hp : t.size ≤ p) (hp2 : p ≤ t.size) : pp t = (L, true) := by
  by_cases h0 : f = 0
  · omega
  obtain ⟨f, rfl⟩ : ∃ g, f = g + 1 := ⟨f - 1, by omega⟩
  rw [h, ppL_end hp]
  simp
theorem pp_more {t : ByteArray} {p f r : Nat} {L : List Hk} {x : Hk} (h : pp t = (L ++ (ppL t f p).1, (ppL t f p).2)) (hf : t.size < p + f) (hp : p < t.size) (e : hkP t p = some (x, r)) (hr : p < r) : ∃ g, t.size < r + g ∧ pp t = ((L ++ [x]) ++ (ppL t g r).1, (ppL t g r).2) := by
  obtain ⟨f, rfl⟩ : ∃ g, f = g + 1 := ⟨f - 1, by omega⟩
  refine ⟨f, by omega, ?_⟩
  rw [h, ppL_go (by omega) e]
  simp
/-- A hunk's lines: each no longer than the text, and no more than its bytes. -/
def Sh (t : ByteArray) (p0 p : Nat) (ss : List ByteArray) : Prop := p0 + ss.length ≤ p ∧ ∀ s ∈ ss, s.size ≤ t.size
theorem Sh.snoc {t : ByteArray} {p0 p q : Nat} {ss : List ByteArray} {s : ByteArray} (h : Sh t p0 p ss) (hq : p < q) (hs : s.size ≤ t.size) : Sh t p0 q (ss ++ [s]) := by
  refine ⟨by rw [List.length_append, List.length_singleton]; have := h.1; omega, fun x hx => ?_⟩
  rcases List.mem_append.1 hx with hx | hx
  · exact h.2 x hx
  · rw [List.mem_singleton.1 hx]; exact hs
theorem Tiny.snoc {t : ByteArray} {p0 p : Nat} {L : List Hk} {x0 x1 : Int} {ss : List ByteArray} (h : Tiny t.size L) (hs : Sh t p0 p ss) (hp : p ≤ t.size) : Tiny t.size (L ++ [(x0, x1, ss)]) := by
  intro y hy
  rcases List.mem_append.1 hy with k | k
  · exact h y k
  · rw [List.mem_singleton.1 k]; exact ⟨by have := hs.1; show ss.length ≤ _; omega, hs.2⟩
theorem step_app2 {P : Program} {ops : Array Oper} {o : Oper} {a : Act} {w : World} {K : Act → World → Prop} {Q : Exit → Act → World → Prop} {E : Prop}
    (hg : o.guard = none) (s x : Operand) (t : TypeId) (hop : o.op = Op.call { callee := Callee.builtin Builtin.append, args := #[s, x], argTypes := #[t, t] })
    (base : Nat) (e : TypeId) (i : TypeInfo) (z : Value) (size bytes : Nat) (ht : P.underlying t = some (.slice e)) (hi : P.info? e = some i) (hz : i.zero = some z)
    (hsize : i.size = size) (hby : i.bytes = bytes) (hzs : z.cells.size = size) (hsz : 0 < size)
    (v : Value) (n : Nat) (xs : List Value) (hs : a.eval s = v) (hown : w.ownsRow base e size v n xs)
    (ad : Addr) (m c : Nat) (news : List Value) (hx : a.eval x = .slice (some ad) m c) (hl : news.length = m * size) (hnews : ∀ j u, news[j]? = some u → w.cell? (ad.add j) = some u) (h1 : ∀ u ∈ news, u.oneCell' = true)
    (h63 : n + m ≤ maxLen) (hbytes : (n + m) * bytes ≤ 140737488355328) (hbase : base ≤ w.heap.size)
    (hK : ∀ v' w', w'.ownsRow base e size v' (n + m) (xs ++ news) → w.grownBy w' v.ownBlock → (v'.ownBlock = v.ownBlock ∨ v'.ownBlock = some w.heap.size) → K (a.put o.dst v') w') :
    if Region.wanted o (yielded ops a.tmps) = true then Oper.wp P o a w K Q else E := by
  have hw : Region.wanted o (yielded ops a.tmps) = true := by simp [Region.wanted, hg]
  rw [if_pos hw]
  obtain ⟨v', w', hr, h2, h3, h4, h5⟩ := run_append_own_at (P := P) w base t o.type e i z size bytes ht hi hz hsize hby hzs hsz v n xs hown ad m c news hl hnews h1 h63 hbytes hbase
  unfold Oper.wp
  simp only [execOp, hop, resolve, invoke, builtin, Sem.run_bind, Sem.run_pure, Result.andThen_ok, List.map_toArray, List.map_cons, List.map_nil, hs, hx, hr]
  exact hK v' w' h2 h3 h5
theorem Cm.drew {t : ByteArray} {R H p c : Nat} {w wr : World} {a : Option Addr} {L : List Hk} {sl : Nat → Value} (h : Cm t R H w wr p a c L sl) (hRH : R < H) : Cm t R H w wr.drew p a c L sl := h.keep hRH ((Below.refl _ _).drew)
theorem Rw.drew {H : Nat} {wr : World} {x0 x1 : Int} {v hv : Value} {ss : List ByteArray} {L : List Hk} {sl : Nat → Value} (h : Rw H wr x0 x1 v ss hv L sl) (hz : H < wr.heap.size) : Rw H wr.drew x0 x1 v ss hv L sl := h.keep hz ((Below.refl _ _).drew)
/-- A line more. -/
theorem Rw.line {t : ByteArray} {R H p hc : Nat} {w U W5 : World} {ha : Option Addr} {x0 x1 : Int} {v v5 : Value} {ss : List ByteArray} {L : List Hk} {sl : Nat → Value} {s : ByteArray} {ob : Obj} (C : Cm t R H w U p ha hc L sl) (W : Rw H U x0 x1 v ss (.slice ha L.length hc) L sl) (hRH : R < H)
    (o5 : W5.ownsRow (H + 1) 9 1 v5 (ss.length + 1) (ss.map Value.string ++ [.string s])) (g5 : (U.alloc ob).grownBy W5 v.ownBlock) (k5 : v5.ownBlock = v.ownBlock ∨ v5.ownBlock = some (U.alloc ob).heap.size) :
    Cm t R H w (W5.setCell ⟨H, 2, none⟩ v5) p ha hc L sl ∧ Rw H (W5.setCell ⟨H, 2, none⟩ v5) x0 x1 v5 (ss ++ [s]) (.slice ha L.length hc) L sl := by
  have hz := C.hz
  have hb : ∀ j, v.ownBlock = some j → H + 1 ≤ j := fun j hj => (W.own.lt j hj).1
  have C1 := C.keep hRH (allocBelow U ob)
  have W1 := W.keep hz (allocBelow U ob)
  have hz1 := C1.hz
  have C5 : Cm t R H w W5 p ha hc L sl := by
    refine ⟨rfG C1.rf g5 hb ⟨by omega, by omega⟩, ⟨C1.ho.row.kept g5 (blockCases _ _ fun j c1 c2 => W.off j c2 c1), fun k hk => (C1.ho.each k hk).kept g5 (blockCases _ _ fun j c1 c2 => W.each k hk j c2 c1), C1.ho.apart, C1.ho.off⟩, C1.bl.grown g5 (by omega) (fun j hj => by have := hb j hj; omega), Nat.lt_of_lt_of_le hz1 g5.size⟩
  have r5 := rfG W1.rf g5 hb ⟨by omega, by omega⟩
  refine ⟨C5.put hRH 2 _, r5.set (o := 2) (by simp) _, ?_, ?_, ?_⟩
  · have o6 := o5.kept (grownSet W5 H 2 v5) (blockCases _ _ fun j c1 c2 => by cases c2; have := (o5.lt _ c1).1; omega)
    rw [List.length_append, List.length_singleton, List.map_append]
    exact o6
  · intro j c1 c2
    rcases k5 with k | k
    · rw [k] at c1; exact W.off j c1 c2
    · rw [k] at c1; cases c1; have := (C1.ho.row.lt _ c2).2; omega
  · intro k hk j c1 c2
    rcases k5 with q | q
    · rw [q] at c1; exact W.each k hk j c1 c2
    · rw [q] at c1; cases c1; have := ((C1.ho.each k hk).lt _ c2).2; omega
/-- A hunk more. -/
theorem Cm.hunk {t : ByteArray} {R H p hc : Nat} {w U W5 : World} {ha : Option Addr} {x0 x1 : Int} {v v5 : Value} {ss : List ByteArray} {L : List Hk} {sl : Nat → Value} {ob : Obj} (C : Cm t R H w U p ha hc L sl) (W : Rw H U x0 x1 v ss (.slice ha L.length hc) L sl) (hRH : R < H)
    (o5 : W5.ownsRow (H + 1) 35 3 v5 (L.length + 1) (rowF (hcell L sl) (L.length * 3) ++ [.int .i64 x0, .int .i64 x1, v])) (g5 : (U.alloc ob).grownBy W5 (Value.slice ha L.length hc).ownBlock) (k5 : v5.ownBlock = (Value.slice ha L.length hc).ownBlock ∨ v5.ownBlock = some (U.alloc ob).heap.size) :
    ∃ (a5 : Option Addr) (c5 : Nat) (sl' : Nat → Value), v5 = .slice a5 (L ++ [(x0, x1, ss)]).length c5 ∧ Cm t R H w (W5.setCell ⟨R, 1, none⟩ v5) p a5 c5 (L ++ [(x0, x1, ss)]) sl' ∧ ∃ y0 y1 y2, Rf (W5.setCell ⟨R, 1, none⟩ v5) H [y0, y1, y2] := by
  have hz := C.hz
  have hb : ∀ j, (Value.slice ha L.length hc).ownBlock = some j → H + 1 ≤ j := fun j hj => (C.ho.row.lt j hj).1
  have HH := HO.push (h := (x0, x1, ss)) C.ho W.own (fun j c1 c2 => W.off j c1 c2) (fun k hk j c1 c2 => W.each k hk j c1 c2) o5 g5 k5
  obtain ⟨a5, c5, e5⟩ := shape3 o5
  subst e5
  have C1 := C.keep hRH (allocBelow U ob)
  have W1 := W.keep hz (allocBelow U ob)
  have hz1 := C1.hz
  have r5 := rfG C1.rf g5 hb ⟨by omega, by omega⟩
  have q5 := rfG W1.rf g5 hb ⟨by omega, by omega⟩
  refine ⟨a5, c5, (fun i => if i = L.length then v else sl i), by rw [List.length_append, List.length_singleton], ⟨?_, ?_, ?_, ?_⟩, _, _, _, q5.other (by omega) _⟩
  · have := r5.set (o := 1) (by simp) (.slice a5 (L.length + 1) c5)
    rw [List.length_append, List.length_singleton]
    exact this
  · have := HH.grown (grownSet W5 R 1 (.slice a5 (L.length + 1) c5)) (by omega)
    rw [List.length_append, List.length_singleton]
    exact this
  · exact (C1.bl.grown g5 (by omega) (fun j hj => by have := hb j hj; omega)).setCell (p := ⟨R, 1, none⟩) (Nat.le_refl _) _
  · rw [setSize]; exact Nat.lt_of_lt_of_le hz1 g5.size
end Go.Proofs.YtnkbjbbaoddfkaaGreatDoor.Pp
/- A scope with several labels: what holds at every jump to each, and a measure. No statement is proved here. -/
set_option linter.unusedVariables false
namespace Go.Proofs.YtnkbjbbaoddfkaaGreatDoor.Pp
open Go

/-- As Q; by a goto to label l: J l. -/
def jumps (J : Nat → Act → World → Prop) (Q : Exit → Act → World → Prop) : Exit → Act → World → Prop
  | .goto l, a, w => J l a w
  | e, a, w => Q e a w

theorem scope_labels {P : Program} {a : Act} {w : World} {Q : Exit → Act → World → Prop} {c : Code} (J : Nat → Act → World → Prop) (μ : Nat → Act → World → Nat) (rest : Nat → Code) (hf : ∀ l a w, J l a w → findLabel c l = some (rest l))
    (first : c.wp P (jumps J Q) a w)
    (pass : ∀ l a w, J l a w → (rest l).wp P (jumps (fun l' a' w' => J l' a' w' ∧ μ l' a' w' < μ l a w) Q) a w) : (Code.scope c).wp P Q a w := by
  intro b k cs
  have hg : ∀ l a w, J l a w → gotoIn l (.inScope c :: k) = some (.code (rest l) :: .inScope c :: k) := fun l a w h => by simp [gotoIn, hf l a w h]
  have key : ∀ n l a w, μ l a w = n → J l a w → ∃ e a' w', Q e a' w' ∧ Arrives P (lone (b.at a (.code (rest l) :: .inScope c :: k)) cs w) b k cs e a' w' := by
    intro n
    induction n using Nat.strongRecOn with
    | _ n ih =>
      intro l a w hn hJ
      obtain ⟨e, a₁, w₁, hq, harr⟩ := pass l a w hJ b (.inScope c :: k) cs
      cases e with
      | normal => exact ⟨.normal, a₁, w₁, hq, Steps.trans harr (.one step_inScope)⟩
      | exit id => exact ⟨.exit id, a₁, w₁, hq, fun k' hk => harr k' (by simp [exitTo, hk])⟩
      | goto l' =>
        obtain ⟨hJ', hlt⟩ := hq
        obtain ⟨e₂, a₂, w₂, hq₂, harr₂⟩ := ih _ (by omega) l' a₁ w₁ rfl hJ'
        exact ⟨e₂, a₂, w₂, hq₂, .of_steps (harr _ (hg _ _ _ hJ')) harr₂⟩
      | ret => exact ⟨_, a₁, w₁, hq, harr⟩
      | panic ch => exact ⟨_, a₁, w₁, hq, harr⟩
      | outgrown => exact ⟨_, a₁, w₁, hq, harr⟩
  obtain ⟨e, a₁, w₁, hq, harr⟩ := first b (.inScope c :: k) cs
  cases e with
  | normal => exact ⟨.normal, a₁, w₁, hq, .head step_scope (Steps.trans harr (.one step_inScope))⟩
  | exit id => exact ⟨.exit id, a₁, w₁, hq, fun k' hk => .head step_scope (harr k' (by simp [exitTo, hk]))⟩
  | goto l' =>
    obtain ⟨e₂, a₂, w₂, hq₂, harr₂⟩ := key _ l' a₁ w₁ rfl hq
    exact ⟨e₂, a₂, w₂, hq₂, .of_steps (.head step_scope (harr _ (hg _ _ _ hq))) harr₂⟩
  | ret => exact ⟨_, a₁, w₁, hq, .of_steps (.one step_scope) harr⟩
  | panic ch => exact ⟨_, a₁, w₁, hq, .of_steps (.one step_scope) harr⟩
  | outgrown => exact ⟨_, a₁, w₁, hq, .of_steps (.one step_scope) harr⟩
/-- The same for three labels, each told apart. -/
def jumps3 (J0 J1 J2 : Act → World → Prop) (Q : Exit → Act → World → Prop) : Exit → Act → World → Prop
  | .goto l, a, w => (l = 0 ∧ J0 a w) ∨ (l = 1 ∧ J1 a w) ∨ (l = 2 ∧ J2 a w)
  | e, a, w => Q e a w
theorem jumps_of {J0 J1 J2 : Act → World → Prop} {J : Nat → Act → World → Prop} {Q : Exit → Act → World → Prop} (h0 : ∀ a w, J0 a w → J 0 a w) (h1 : ∀ a w, J1 a w → J 1 a w) (h2 : ∀ a w, J2 a w → J 2 a w) (e : Exit) (a : Act) (w : World) (h : jumps3 J0 J1 J2 Q e a w) : jumps J Q e a w := by
  cases e with
  | goto l =>
    rcases h with ⟨rfl, h⟩ | ⟨rfl, h⟩ | ⟨rfl, h⟩
    · exact h0 a w h
    · exact h1 a w h
    · exact h2 a w h
  | _ => exact h
theorem wp_up {P : Program} {a : Act} {w : World} {Q Q' : Exit → Act → World → Prop} {c : Code} (h : c.wp P Q a w) (hq : ∀ e a w, Q e a w → Q' e a w) : c.wp P Q' a w := by
  intro b k cs
  obtain ⟨e, a', w', h1, h2⟩ := h b k cs
  exact ⟨e, a', w', hq _ _ _ h1, h2⟩
theorem scope3 {P : Program} {a : Act} {w : World} {Q : Exit → Act → World → Prop} {c r0 r1 r2 : Code} (J0 J1 J2 : Act → World → Prop) (μ : World → Nat) (hf0 : findLabel c 0 = some r0) (hf1 : findLabel c 1 = some r1) (hf2 : findLabel c 2 = some r2)
    (first : c.wp P (jumps3 J0 J1 J2 Q) a w)
    (p0 : ∀ a w, J0 a w → r0.wp P (jumps3 (fun a' w' => J0 a' w' ∧ μ w' < μ w) (fun a' w' => J1 a' w' ∧ μ w' < μ w) (fun a' w' => J2 a' w' ∧ μ w' < μ w) Q) a w)
    (p1 : ∀ a w, J1 a w → r1.wp P (jumps3 (fun a' w' => J0 a' w' ∧ μ w' ≤ μ w) (fun a' w' => False) (fun a' w' => J2 a' w' ∧ μ w' < μ w) Q) a w)
    (p2 : ∀ a w, J2 a w → r2.wp P (jumps3 (fun a' w' => J0 a' w' ∧ μ w' ≤ μ w) (fun a' w' => J1 a' w' ∧ μ w' ≤ μ w) (fun a' w' => J2 a' w' ∧ μ w' < μ w) Q) a w) : (Code.scope c).wp P Q a w := by
  refine scope_labels (J := fun l a w => (l = 0 ∧ J0 a w) ∨ (l = 1 ∧ J1 a w) ∨ (l = 2 ∧ J2 a w)) (μ := fun l a w => 3 * μ w + l) (rest := fun l => if l = 0 then r0 else if l = 1 then r1 else r2) ?_ ?_ ?_
  · rintro l a w (⟨rfl, _⟩ | ⟨rfl, _⟩ | ⟨rfl, _⟩)
    · exact hf0
    · exact hf1
    · exact hf2
  · exact wp_up first (jumps_of (fun a w h => .inl ⟨rfl, h⟩) (fun a w h => .inr (.inl ⟨rfl, h⟩)) (fun a w h => .inr (.inr ⟨rfl, h⟩)))
  · rintro l a w (⟨rfl, h⟩ | ⟨rfl, h⟩ | ⟨rfl, h⟩)
    · exact wp_up (p0 a w h) (jumps_of (fun a' w' h => ⟨.inl ⟨rfl, h.1⟩, by have := h.2; omega⟩) (fun a' w' h => ⟨.inr (.inl ⟨rfl, h.1⟩), by have := h.2; omega⟩) (fun a' w' h => ⟨.inr (.inr ⟨rfl, h.1⟩), by have := h.2; omega⟩))
    · exact wp_up (p1 a w h) (jumps_of (fun a' w' h => ⟨.inl ⟨rfl, h.1⟩, by have := h.2; omega⟩) (fun a' w' h => h.elim) (fun a' w' h => ⟨.inr (.inr ⟨rfl, h.1⟩), by have := h.2; omega⟩))
    · exact wp_up (p2 a w h) (jumps_of (fun a' w' h => ⟨.inl ⟨rfl, h.1⟩, by have := h.2; omega⟩) (fun a' w' h => ⟨.inr (.inl ⟨rfl, h.1⟩), by have := h.2; omega⟩) (fun a' w' h => ⟨.inr (.inr ⟨rfl, h.1⟩), by have := h.2; omega⟩))
/-- The same, where the run falls from label 0's part into label 2's, and from the beginning into label 0's: each is handed what it falls into. -/
theorem scope3h {P : Program} {a : Act} {w : World} {Q : Exit → Act → World → Prop} {c r0 r1 r2 : Code} (J0 J1 J2 : Act → World → Prop) (μ : World → Nat) (hf0 : findLabel c 0 = some r0) (hf1 : findLabel c 1 = some r1) (hf2 : findLabel c 2 = some r2)
    (p1 : ∀ a w, J1 a w → r1.wp P (jumps3 (fun a' w' => J0 a' w' ∧ μ w' ≤ μ w) (fun a' w' => False) (fun a' w' => J2 a' w' ∧ μ w' < μ w) Q) a w)
    (p2 : ∀ a w, J2 a w → r2.wp P (jumps3 (fun a' w' => J0 a' w' ∧ μ w' ≤ μ w) (fun a' w' => J1 a' w' ∧ μ w' ≤ μ w) (fun a' w' => J2 a' w' ∧ μ w' < μ w) Q) a w)
    (p0 : (∀ a w m, J2 a w → μ w < m → r2.wp P (jumps3 (fun a' w' => J0 a' w' ∧ μ w' < m) (fun a' w' => J1 a' w' ∧ μ w' < m) (fun a' w' => J2 a' w' ∧ μ w' < m) Q) a w) → ∀ a w, J0 a w → r0.wp P (jumps3 (fun a' w' => J0 a' w' ∧ μ w' < μ w) (fun a' w' => J1 a' w' ∧ μ w' < μ w) (fun a' w' => J2 a' w' ∧ μ w' < μ w) Q) a w)
    (first : (∀ a w, J0 a w → r0.wp P (jumps3 J0 J1 J2 Q) a w) → c.wp P (jumps3 J0 J1 J2 Q) a w) : (Code.scope c).wp P Q a w := by
  have up : ∀ {A0 A1 A2 B0 B1 B2 : Act → World → Prop}, (∀ a w, A0 a w → B0 a w) → (∀ a w, A1 a w → B1 a w) → (∀ a w, A2 a w → B2 a w) → ∀ e a w, jumps3 A0 A1 A2 Q e a w → jumps3 B0 B1 B2 Q e a w := by
    intro A0 A1 A2 B0 B1 B2 h0 h1 h2 e a w h
    cases e with
    | goto l =>
      rcases h with ⟨q, h⟩ | ⟨q, h⟩ | ⟨q, h⟩
      · exact .inl ⟨q, h0 _ _ h⟩
      · exact .inr (.inl ⟨q, h1 _ _ h⟩)
      · exact .inr (.inr ⟨q, h2 _ _ h⟩)
    | _ => exact h
  have p0' := p0 (fun a w m hJ hm => wp_up (p2 a w hJ) (up (fun _ _ h => ⟨h.1, Nat.lt_of_le_of_lt h.2 hm⟩) (fun _ _ h => ⟨h.1, Nat.lt_of_le_of_lt h.2 hm⟩) (fun _ _ h => ⟨h.1, Nat.lt_trans h.2 hm⟩)))
  exact scope3 J0 J1 J2 μ hf0 hf1 hf2 (first (fun a w hJ => wp_up (p0' a w hJ) (up (fun _ _ h => h.1) (fun _ _ h => h.1) (fun _ _ h => h.1)))) p0' p1 p2
theorem wp_skip_seq {P : Program} {a : Act} {w : World} {Q : Exit → Act → World → Prop} {c : Code} (h : c.wp P Q a w) : (Code.skip.seq c).wp P Q a w := wp_seq (wp_skip h)
/-- The same, the parts told without what stands for the label. -/
theorem scope3k {P : Program} {a : Act} {w : World} {Q : Exit → Act → World → Prop} {c r0 r1 r2 : Code} (J0 J1 J2 : Act → World → Prop) (μ : World → Nat) (hf0 : findLabel c 0 = some (Code.skip.seq r0)) (hf1 : findLabel c 1 = some (Code.skip.seq r1)) (hf2 : findLabel c 2 = some (Code.skip.seq r2))
    (p1 : ∀ a w, J1 a w → r1.wp P (jumps3 (fun a' w' => J0 a' w' ∧ μ w' ≤ μ w) (fun a' w' => False) (fun a' w' => J2 a' w' ∧ μ w' < μ w) Q) a w)
    (p2 : ∀ a w, J2 a w → r2.wp P (jumps3 (fun a' w' => J0 a' w' ∧ μ w' ≤ μ w) (fun a' w' => J1 a' w' ∧ μ w' ≤ μ w) (fun a' w' => J2 a' w' ∧ μ w' < μ w) Q) a w)
    (p0 : (∀ a w m, J2 a w → μ w < m → r2.wp P (jumps3 (fun a' w' => J0 a' w' ∧ μ w' < m) (fun a' w' => J1 a' w' ∧ μ w' < m) (fun a' w' => J2 a' w' ∧ μ w' < m) Q) a w) → ∀ a w, J0 a w → r0.wp P (jumps3 (fun a' w' => J0 a' w' ∧ μ w' < μ w) (fun a' w' => J1 a' w' ∧ μ w' < μ w) (fun a' w' => J2 a' w' ∧ μ w' < μ w) Q) a w)
    (first : (∀ a w, J0 a w → r0.wp P (jumps3 J0 J1 J2 Q) a w) → c.wp P (jumps3 J0 J1 J2 Q) a w) : (Code.scope c).wp P Q a w := by
  have up : ∀ {A0 A1 A2 B0 B1 B2 : Act → World → Prop}, (∀ a w, A0 a w → B0 a w) → (∀ a w, A1 a w → B1 a w) → (∀ a w, A2 a w → B2 a w) → ∀ e a w, jumps3 A0 A1 A2 Q e a w → jumps3 B0 B1 B2 Q e a w := by
    intro A0 A1 A2 B0 B1 B2 h0 h1 h2 e a w h
    cases e with
    | goto l =>
      rcases h with ⟨q, h⟩ | ⟨q, h⟩ | ⟨q, h⟩
      · exact .inl ⟨q, h0 _ _ h⟩
      · exact .inr (.inl ⟨q, h1 _ _ h⟩)
      · exact .inr (.inr ⟨q, h2 _ _ h⟩)
    | _ => exact h
  have p0' := p0 (fun a w m hJ hm => wp_up (p2 a w hJ) (up (fun _ _ h => ⟨h.1, Nat.lt_of_le_of_lt h.2 hm⟩) (fun _ _ h => ⟨h.1, Nat.lt_of_le_of_lt h.2 hm⟩) (fun _ _ h => ⟨h.1, Nat.lt_trans h.2 hm⟩)))
  exact scope3 J0 J1 J2 μ hf0 hf1 hf2 (first (fun a w hJ => wp_up (p0' a w hJ) (up (fun _ _ h => h.1) (fun _ _ h => h.1) (fun _ _ h => h.1)))) (fun a w h => wp_skip_seq (p0' a w h)) (fun a w h => wp_skip_seq (p1 a w h)) (fun a w h => wp_skip_seq (p2 a w h))
end Go.Proofs.YtnkbjbbaoddfkaaGreatDoor.Pp
