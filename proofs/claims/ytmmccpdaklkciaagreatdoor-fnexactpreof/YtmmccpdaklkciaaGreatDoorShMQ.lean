/- A map of objects by their ids: what it holds, told by a list. No statement is proved here. -/
import Derived.Test.YtmmccpdaklkciaaGreatDoorRows
import Derived.Test.YtmmccpdaklkciaaGreatDoorLemQ
import Derived.Test.YtmmccpdaklkciaaGreatDoorDTabQ
import Derived.Test.YtmmccpdaklkciaaGreatDoorHkTQ
import Derived.Test.YtmmccpdaklkciaaGreatDoorObLQ
import Derived.WalkKit
import Derived.ProofKit
import Derived.Below
import Derived.WideKeyPair
import Derived.DeepKeys4
import Derived.Maps.OwnSet
import Derived.Maps.Views
import Derived.Test.YtmmccpdaklkciaaGreatDoorDigCQ
import Derived.WalkSpells
import Derived.Laws.IdiomCopy
import Derived.Laws.Cover1
import Derived.Defers
import Derived.Deep.RegionWith
import Derived.Deep.RegionHeld
namespace Go.Proofs.YtmmccpdaklkciaaGreatDoor
open Go.ChangeShapes Go.WideShapes Go.ChangeAt Go.RowKit Go.Maps

theorem laidOutP : laidOutB Tryz.prog = true := by kernel_rfl
theorem rowKey : (173 : TypeId) < Tryz.prog.types.size := of_decide_eq_true (by kernel_rfl)
theorem undKey : Tryz.prog.underlying 173 = some (.array 5 5) := by kernel_rfl
theorem cellsKey : Tryz.prog.cellsOf 173 = 5 := by kernel_rfl
theorem arrKey : WideMaps.ArrKey Tryz.prog 173 5 5 := ⟨undKey, by kernel_rfl, by kernel_rfl, cellsKey⟩
theorem lawKey : Keyed Tryz.prog 173 := Keyed.of_law (deep_law_laid laidOutP (m := 2) (by omega) rowKey (by kernel_rfl) (by rw [undKey]))
theorem undMap : Tryz.prog.underlying 142 = some (.map 173 72) := by kernel_rfl
theorem zeroObj (w : World) : (zeroValue 72).run Tryz.prog w = .ok (.agg #[.string ⟨#[]⟩, .int .i64 0, .string ⟨#[]⟩]) w := by kernel_rfl

/-- An id of five bytes as an array, and what it reads as. -/
def u8 (n : UInt8) : Value := .int .u8 (n.toNat : Int)
def kc (id : ByteArray) (j : Nat) : UInt8 := id.data.toList.getD j 0
def kv (id : ByteArray) : Value := .agg #[u8 (kc id 0), u8 (kc id 1), u8 (kc id 2), u8 (kc id 3), u8 (kc id 4)]
def lu8 (n : UInt8) : Lit := .int .u8 (n.toNat : Int)
def kl (id : ByteArray) : Lit := .string (keyBytes [lu8 (kc id 0), lu8 (kc id 1), lu8 (kc id 2), lu8 (kc id 3), lu8 (kc id 4)])
theorem wfU8 (n : UInt8) : (Lit.int .u8 (n.toNat : Int)).wf = true := by
  have := n.toNat_lt
  have : n.toNat < 256 := this
  have h1 : IntKind.u8.min = 0 := by decide
  have h2 : IntKind.u8.max = 255 := by decide
  simp only [Lit.wf, h1, h2, Bool.and_eq_true, decide_eq_true_eq]
  omega
theorem keyOf_kv (id : ByteArray) : keyOf Tryz.prog 173 (kv id) = some (kl id) := by
  have A := arrKey
  have hsz : ∃ m, Tryz.prog.types.size = m + 1 := ⟨_, rfl⟩
  have hkt := A.keyType hsz
  obtain ⟨m, hm⟩ := hsz
  unfold keyOf kv u8
  simp only [A.hu]
  rw [if_pos (by simp [hkt, Value.formed, A.hu, A.size]), hm]
  unfold Program.keyLits
  simp only [A.hu, Value.cells]
  rw [if_pos (by rw [A.size]; rfl), show List.range 5 = [0, 1, 2, 3, 4] from rfl, List.mapM_cons, List.mapM_cons, List.mapM_cons, List.mapM_cons, List.mapM_cons, List.mapM_nil]
  simp [A.one, Program.keyLits, wfU8, kl, lu8]
theorem bytes_ext {a b : ByteArray} (h : a.data.toList = b.data.toList) : a = b := by
  obtain ⟨⟨x⟩⟩ := a
  obtain ⟨⟨y⟩⟩ := b
  simpa using h
theorem kc_list {a : ByteArray} (h : a.size = 5) : a.data.toList = [kc a 0, kc a 1, kc a 2, kc a 3, kc a 4] := by
  unfold kc
  have h5 : a.data.toList.length = 5 := by simpa using h
  generalize a.data.toList = l at h5
  match l, h5 with
  | [_, _, _, _, _], _ => rfl
theorem kv_inj {a b : ByteArray} (ha : a.size = 5) (hb : b.size = 5) (h : kv a = kv b) : a = b := by
  unfold kv u8 at h
  simp only [Value.agg.injEq, Array.mk.injEq, List.cons.injEq, Value.int.injEq, true_and, and_true] at h
  obtain ⟨h0, h1, h2, h3, h4⟩ := h
  have k : ∀ x y : UInt8, (x.toNat : Int) = y.toNat → x = y := fun x y e => UInt8.toNat_inj.1 (by omega)
  apply bytes_ext
  rw [kc_list ha, kc_list hb, k _ _ h0, k _ _ h1, k _ _ h2, k _ _ h3, k _ _ h4]
theorem kl_ne {a b : ByteArray} (ha : a.size = 5) (hb : b.size = 5) (h : a ≠ b) : kl a ≠ kl b := fun e => h (kv_inj ha hb (lawKey.inj (keyOf_kv a) (e ▸ keyOf_kv b)))
theorem kl_key (a : ByteArray) : WideAt.IsKeyLit (kl a) := trivial

/-- An object as a value of the map, and what it reads as. -/
def obV (o : Ob) : Value := .agg #[.string o.1, .int .i64 o.2.1, .string o.2.2]
def obD (o : Ob) : DataW Unit := .agg [.lit (.string o.1.data.toList), .lit (.int .i64 o.2.1), .lit (.string o.2.2.data.toList)]
def obR (v : Value) : Option (DataW Unit × List MemPlace) :=
  match v with
  | .agg ⟨[.string s, .int .i64 k, .string t]⟩ => some (obD (s, k, t), [])
  | _ => none
theorem obR_mk (o : Ob) : obR (obV o) = some (obD o, []) := rfl
theorem obD_inj {o p : Ob} (h : obD o = obD p) : o = p := by
  unfold obD at h
  simp only [DataW.agg.injEq, List.cons.injEq, DataW.lit.injEq, Lit.string.injEq, Lit.int.injEq, true_and, and_true] at h
  obtain ⟨h0, h1, h2⟩ := h
  obtain ⟨a, b, c⟩ := o
  obtain ⟨x, y, z⟩ := p
  simp only at h0 h1 h2
  rw [bytes_ext h0, h1, bytes_ext h2]
theorem obR_inv {v : Value} {o : Ob} {ps : List MemPlace} (h : obR v = some (obD o, ps)) : v = obV o := by
  unfold obR at h
  split at h
  · simp only [Option.some.injEq, Prod.mk.injEq] at h
    rw [← obD_inj h.1]; rfl
  · cases h

/-- BLOCK b IS A MAP OF THESE OBJECTS, BY THEIR IDS. -/
def Sh (w : World) (b : Nat) (l : List Ob) : Prop :=
  ∃ D : DataW Unit, w.ownsMap Tryz.prog 173 obR b l.length D ∧ Tidy D ∧ size D = l.length ∧ (∀ o ∈ l, o.1.size = 5 ∧ has D (kl o.1) = true ∧ ∀ z, D.atKey (kl o.1) z = obD o) ∧ (∀ z : Lit, has D z = true → ∃ o ∈ l, z = kl o.1)
theorem noKey {D : DataW Unit} {l : List Ob} (h4 : ∀ o ∈ l, o.1.size = 5 ∧ has D (kl o.1) = true ∧ ∀ z, D.atKey (kl o.1) z = obD o) (h5 : ∀ z : Lit, has D z = true → ∃ o ∈ l, z = kl o.1) {id : ByteArray} (hs : id.size = 5) (hn : ∀ o ∈ l, o.1 ≠ id) : has D (kl id) = false := by
  cases e : has D (kl id) with
  | false => rfl
  | true =>
    obtain ⟨o, ho, he⟩ := h5 _ e
    exact absurd he (kl_ne hs (h4 o ho).1 (fun e => hn o ho e.symm))
theorem Sh.new (w : World) : Sh (w.alloc (.map #[] 0)) w.heap.size [] :=
  ⟨_, World.ownsMap_made w _ _ _, tidy_empty, rfl, (fun o ho => by cases ho), fun z hz => by cases hz⟩
theorem Sh.kept {w w' : World} {b : Nat} {l : List Ob} {row : Option Nat} (h : Sh w b l) (hg : w.grownBy w' row) (hne : some b ≠ row) : Sh w' b l := by
  obtain ⟨D, h1, h2⟩ := h
  exact ⟨D, h1.kept hg hne, h2⟩
theorem Sh.lt {w : World} {b : Nat} {l : List Ob} (h : Sh w b l) : b < w.heap.size := by
  obtain ⟨D, h1, h2⟩ := h
  exact h1.lt
theorem Sh.setCell {w : World} {b : Nat} {l : List Ob} (h : Sh w b l) {a : Addr} (ha : b ≠ a.block) (u : Value) : Sh (w.setCell a u) b l := by
  obtain ⟨D, h1, h2⟩ := h
  exact ⟨D, h1.setCell ha u, h2⟩
theorem Sh.below {w w' : World} {b : Nat} {l : List Ob} (h : Sh w b l) (hb : Below w.heap.size w w') : Sh w' b l := h.kept (grownOfBelow hb none) (by simp)
/-- The look-up of an id that is there. -/
theorem Sh.hit {w : World} {b : Nat} {l : List Ob} (h : Sh w b l) {o : Ob} (ho : o ∈ l) : (Instr.lookup 142 (.map (some b)) (kv o.1) true).run Tryz.prog w = .ok (.tuple #[obV o, .bool true]) w := by
  obtain ⟨D, h1, h2, h3, h4, h5⟩ := h
  obtain ⟨v, ps, hrun, hv⟩ := h1.look_ok lawKey undMap (zeroObj w) (zd := obD onil) (zp := []) rfl (keyOf_kv o.1)
  obtain ⟨_, e1, e2⟩ := h4 o ho
  rw [e2] at hv
  rw [hrun, e1, obR_inv hv]
/-- The look-up of an id that is not there. -/
theorem Sh.miss {w : World} {b : Nat} {l : List Ob} (h : Sh w b l) {id : ByteArray} (hs : id.size = 5) (hn : ∀ o ∈ l, o.1 ≠ id) : (Instr.lookup 142 (.map (some b)) (kv id) true).run Tryz.prog w = .ok (.tuple #[obV onil, .bool false]) w := by
  obtain ⟨D, h1, h2, h3, h4, h5⟩ := h
  obtain ⟨v, ps, hrun, hv⟩ := h1.look_ok lawKey undMap (zeroObj w) (zd := obD onil) (zp := []) rfl (keyOf_kv id)
  have e1 := noKey h4 h5 hs hn
  rw [atKey_of_not_has e1] at hv
  rw [hrun, e1, obR_inv hv]
theorem Sh.len {w : World} {b : Nat} {l : List Ob} (h : Sh w b l) (ty : TypeId) : (Builtin.len_ #[142] ty #[.map (some b)]).run Tryz.prog w = .ok (.int .i64 (l.length : Int)) w := by
  obtain ⟨D, h1, h2, h3, h4, h5⟩ := h
  rw [h1.len undMap ty, h3]
/-- A store of a new one. -/
theorem Sh.put {w : World} {b : Nat} {l : List Ob} (h : Sh w b l) {o : Ob} (hs : o.1.size = 5) (hn : ∀ p ∈ l, p.1 ≠ o.1) (hl : l.length < 1048576) :
    ∃ w', (Instr.mapUpdate 142 (.map (some b)) (kv o.1) (obV o)).run Tryz.prog w = .ok () w' ∧ Sh w' b (l ++ [o]) ∧ w.grownBy w' (some b) := by
  obtain ⟨D, h1, h2, h3, h4, h5⟩ := h
  obtain ⟨w', hrun, hown, hg⟩ := h1.update lawKey undMap (by unfold maxLen; omega) (keyOf_kv o.1) (obR_mk o)
  refine ⟨w', hrun, ⟨_, by rw [List.length_append]; exact hown, h2.put (kl_key _) _, ?_, ?_, ?_⟩, hg⟩
  · rw [size_put h2, noKey h4 h5 hs hn, h3]; simp
  · intro p hp
    rcases List.mem_append.1 hp with hp | hp
    · obtain ⟨e0, e1, e2⟩ := h4 p hp
      have hne := kl_ne e0 hs (hn p hp)
      exact ⟨e0, by rw [has_put_other hne]; exact e1, fun z => by rw [atKey_put_other hne]; exact e2 z⟩
    · cases List.mem_singleton.1 hp
      exact ⟨hs, has_put_same h2.isMap (kl_key _) _, fun z => atKey_put_same h2.isMap (kl_key _) _ z⟩
  · intro z hz
    by_cases e : z = kl o.1
    · exact ⟨o, by simp, e⟩
    · rw [has_put_other e] at hz
      obtain ⟨p, hp, e2⟩ := h5 z hz
      exact ⟨p, by simp [hp], e2⟩
end Go.Proofs.YtmmccpdaklkciaaGreatDoor
/- The contracts of the program's shelf: keyOf, cloneObject, put, find. No statement is proved here. -/
namespace Go.Proofs.YtmmccpdaklkciaaGreatDoor
open Go.ChangeShapes Go.WideShapes Go.ChangeAt Go.RowKit

def set5 (w : World) (b : Nat) (v0 v1 v2 v3 v4 : Value) : World := ((((w.setCell ⟨b, 0, none⟩ v0).setCell ⟨b, 1, none⟩ v1).setCell ⟨b, 2, none⟩ v2).setCell ⟨b, 3, none⟩ v3).setCell ⟨b, 4, none⟩ v4
theorem undBytes : Tryz.prog.underlying 150 = some (.slice 5) := by kernel_rfl
theorem sizeU8 : (Tryz.prog.info? 5).map (·.size) = some 1 := by kernel_rfl
theorem run_copy5 (w : World) (b : Nat) (ty : TypeId) (id : ByteArray) (h : id.size = 5) (x0 x1 x2 x3 x4 : Value) (hr : Rf w b [x0, x1, x2, x3, x4]) :
    (Builtin.copy_ #[150, 9] ty #[.slice (some ⟨b, 0, none⟩) 5 5, .string id]).run Tryz.prog w = .ok (.int .i64 5) (set5 w b (u8 (kc id 0)) (u8 (kc id 1)) (u8 (kc id 2)) (u8 (kc id 3)) (u8 (kc id 4))) := by
  have hst := run_storeCells_cells (P := Tryz.prog) b 0 [u8 (kc id 0), u8 (kc id 1), u8 (kc id 2), u8 (kc id 3), u8 (kc id 4)] 0 w
    (fun j hj => by
      rw [show 0 + 0 + j = j by omega]
      have : j < ([x0, x1, x2, x3, x4] : List Value).length := hj
      rw [hr.at_ j _ (List.getElem?_eq_getElem this)]; rfl)
    (fun j hj => by rw [show 0 + 0 + j = j by omega]; exact hr.fz j)
    (by intro v hv; simp [u8] at hv; rcases hv with rfl | rfl | rfl | rfl | rfl <;> rfl)
  have hx : List.take 5 (List.map (fun b : UInt8 => Value.int .u8 (b.toNat : Int)) id.data.toList) = [u8 (kc id 0), u8 (kc id 1), u8 (kc id 2), u8 (kc id 3), u8 (kc id 4)] := by
    rw [kc_list h]
    rfl
  obtain ⟨i, hi, _⟩ : ∃ i, Tryz.prog.info? 5 = some i ∧ i.size = 1 := by
    have := sizeU8
    cases hq : Tryz.prog.info? 5 with
    | none => rw [hq] at this; cases this
    | some i => rw [hq] at this; exact ⟨i, rfl, by simpa using this⟩
  simp [Builtin.copy_, run_underlying undBytes, Builtin.lenOf, Builtin.firstCells, sizeOf, typeInfo, hi, h, hx, hst, set5, World.setCells, goInt]

set_option maxRecDepth 20000 in
set_option maxHeartbeats 1000000 in
theorem keyOfC (id : ByteArray) (w : World) (h : id.size = 5) : Calls Tryz.prog 145 #[.string id] w fun e w' => e = .returned (kv id) ∧ Below w.heap.size w w' := by
  obtain ⟨W1, hW1⟩ : ∃ W, w.alloc (.cells #[.int .u8 0, .int .u8 0, .int .u8 0, .int .u8 0, .int .u8 0] 173) = W := ⟨_, rfl⟩
  have b1 : Below w.heap.size w W1 := by rw [← hW1]; exact allocBelow _ _
  have z1 : W1.heap.size = w.heap.size + 1 := by rw [← hW1]; simp
  have r1 : Rf W1 w.heap.size [.int .u8 0, .int .u8 0, .int .u8 0, .int .u8 0, .int .u8 0] := by rw [← hW1]; exact Rf.new _ _ _
  obtain ⟨W2, hW2⟩ : ∃ W, W1.alloc (.cells #[.int .u8 0, .int .u8 0, .int .u8 0, .int .u8 0, .int .u8 0] 173) = W := ⟨_, rfl⟩
  have b2 : Below W1.heap.size W1 W2 := by rw [← hW2]; exact allocBelow _ _
  have z2 : W2.heap.size = w.heap.size + 2 := by rw [← hW2]; simp; omega
  have r2 : Rf W2 (w.heap.size + 1) [.int .u8 0, .int .u8 0, .int .u8 0, .int .u8 0, .int .u8 0] := by rw [← hW2, ← z1]; exact Rf.new _ _ _
  have r1' := r1.below (by omega) b2
  have hC := fun ty => run_copy5 W2 (w.heap.size + 1) ty id h _ _ _ _ _ r2
  obtain ⟨n0, e0⟩ : ∃ n : Int, u8 (kc id 0) = .int .u8 n := ⟨_, rfl⟩
  obtain ⟨n1, e1⟩ : ∃ n : Int, u8 (kc id 1) = .int .u8 n := ⟨_, rfl⟩
  obtain ⟨n2, e2⟩ : ∃ n : Int, u8 (kc id 2) = .int .u8 n := ⟨_, rfl⟩
  obtain ⟨n3, e3⟩ : ∃ n : Int, u8 (kc id 3) = .int .u8 n := ⟨_, rfl⟩
  obtain ⟨n4, e4⟩ : ∃ n : Int, u8 (kc id 4) = .int .u8 n := ⟨_, rfl⟩
  have HK : Hid (kv id = .agg #[.int .u8 n0, .int .u8 n1, .int .u8 n2, .int .u8 n3, .int .u8 n4]) := by show _ = _; rw [← e0, ← e1, ← e2, ← e3, ← e4]; rfl
  rw [e0, e1, e2, e3, e4] at hC
  clear e0 e1 e2 e3 e4
  have R2 : Rf (set5 W2 (w.heap.size + 1) (.int .u8 n0) (.int .u8 n1) (.int .u8 n2) (.int .u8 n3) (.int .u8 n4)) (w.heap.size + 1) [(.int .u8 n0), (.int .u8 n1), (.int .u8 n2), (.int .u8 n3), (.int .u8 n4)] := ((((r2.set (o := 0) (by simp) (.int .u8 n0)).set (o := 1) (by simp) (.int .u8 n1)).set (o := 2) (by simp) (.int .u8 n2)).set (o := 3) (by simp) (.int .u8 n3)).set (o := 4) (by simp) (.int .u8 n4)
  have R1 : Rf (set5 W2 (w.heap.size + 1) (.int .u8 n0) (.int .u8 n1) (.int .u8 n2) (.int .u8 n3) (.int .u8 n4)) w.heap.size [.int .u8 0, .int .u8 0, .int .u8 0, .int .u8 0, .int .u8 0] := ((((r1'.other (o := 0) (by omega) (.int .u8 n0)).other (o := 1) (by omega) (.int .u8 n1)).other (o := 2) (by omega) (.int .u8 n2)).other (o := 3) (by omega) (.int .u8 n3)).other (o := 4) (by omega) (.int .u8 n4)
  have B2 : Below w.heap.size w (set5 W2 (w.heap.size + 1) (.int .u8 n0) (.int .u8 n1) (.int .u8 n2) (.int .u8 n3) (.int .u8 n4)) := (((((b1.trans (b2.mono (by omega))).setCell (p := ⟨w.heap.size + 1, 0, none⟩) (Nat.le_succ _) (.int .u8 n0)).setCell (p := ⟨w.heap.size + 1, 1, none⟩) (Nat.le_succ _) (.int .u8 n1)).setCell (p := ⟨w.heap.size + 1, 2, none⟩) (Nat.le_succ _) (.int .u8 n2)).setCell (p := ⟨w.heap.size + 1, 3, none⟩) (Nat.le_succ _) (.int .u8 n3)).setCell (p := ⟨w.heap.size + 1, 4, none⟩) (Nat.le_succ _) (.int .u8 n4)
  obtain ⟨W3, hW3⟩ : ∃ W, set5 W2 (w.heap.size + 1) (.int .u8 n0) (.int .u8 n1) (.int .u8 n2) (.int .u8 n3) (.int .u8 n4) = W := ⟨_, rfl⟩
  rw [hW3] at hC R2 R1 B2
  have HB : Hid (Below w.heap.size w (set5 W3 w.heap.size (.int .u8 n0) (.int .u8 n1) (.int .u8 n2) (.int .u8 n3) (.int .u8 n4))) := ((((B2.setCell (p := ⟨w.heap.size, 0, none⟩) (Nat.le_refl _) (.int .u8 n0)).setCell (p := ⟨w.heap.size, 1, none⟩) (Nat.le_refl _) (.int .u8 n1)).setCell (p := ⟨w.heap.size, 2, none⟩) (Nat.le_refl _) (.int .u8 n2)).setCell (p := ⟨w.heap.size, 3, none⟩) (Nat.le_refl _) (.int .u8 n3)).setCell (p := ⟨w.heap.size, 4, none⟩) (Nat.le_refl _) (.int .u8 n4)
  have d0 := R1.at_ 0 _ rfl
  have d1 := R1.at_ 1 _ rfl
  have d2 := R1.at_ 2 _ rfl
  have d3 := R1.at_ 3 _ rfl
  have d4 := R1.at_ 4 _ rfl
  have f0 := R1.fz 0
  have f1 := R1.fz 1
  have f2 := R1.fz 2
  have f3 := R1.fz 3
  have f4 := R1.fz 4
  have k0 := R2.at_ 0 _ rfl
  have k1 := R2.at_ 1 _ rfl
  have k2 := R2.at_ 2 _ rfl
  have k3 := R2.at_ 3 _ rfl
  have k4 := R2.at_ 4 _ rfl
  clear R1 R2 r1 r2 r1' B2 b1 b2 hW3
  go_enter Tryz.func145, Tryz.ntmps145
  go_wp2
  refine bodyPost_ret (v := .agg #[.int .u8 n0, .int .u8 n1, .int .u8 n2, .int .u8 n3, .int .u8 n4]) (by simp [results, Tryz.results145, go_sem, d0, d1, d2, d3, d4]) rfl ?_
  exact ⟨by rw [HK.out], HB.out⟩
end Go.Proofs.YtmmccpdaklkciaaGreatDoor
/- The contracts of the program's shelf: put, find. No statement is proved here. -/
namespace Go.Proofs.YtmmccpdaklkciaaGreatDoor
open Go.ChangeShapes Go.WideShapes Go.ChangeAt Go.RowKit

theorem Sh.drew {w : World} {b : Nat} {l : List Ob} (h : Sh w b l) : Sh w.drew b l := by
  obtain ⟨D, h1, h2⟩ := h
  exact ⟨D, h1.drew, h2⟩

set_option maxRecDepth 20000 in
set_option maxHeartbeats 1000000 in
theorem putDone (q p b : Nat) (l : List Ob) (x : Value) (u : _) (w : World) (hq : w.cell? ⟨q, 0, none⟩ = some (.pointer (some ⟨p, 0, none⟩))) (hR : Rf w p [.map (some b), x]) (hS : Sh w b l) :
    CallsD Tryz.prog 144 #[.pointer (some ⟨q, 0, none⟩)] u w fun e u' w' => u' = u ∧ (e = .returned (.tuple #[]) ∧ w' = w.drew.setCell ⟨p, 1, none⟩ (.int .i64 (l.length : Int))) := by
  have hL := fun ty => hS.drew.len ty
  have d0 := hR.at_ 0 _ rfl
  have d1 := hR.at_ 1 _ rfl
  have f1 := hR.fz 1
  clear hS hR
  go_enter_d Tryz.func144, Tryz.ntmps144
  go_wp2
  go_region
  go_end0
  exact ⟨rfl, rfl⟩

theorem Rf.five {w : World} {b k : Nat} {vs : List Value} (h : Rf w b vs) (hne : b ≠ k) (v0 v1 v2 v3 v4 : Value) : Rf (set5 w k v0 v1 v2 v3 v4) b vs :=
  ((((h.other (o := 0) hne v0).other (o := 1) hne v1).other (o := 2) hne v2).other (o := 3) hne v3).other (o := 4) hne v4
theorem Rf.fiveAt {w : World} {k : Nat} {x0 x1 x2 x3 x4 : Value} (h : Rf w k [x0, x1, x2, x3, x4]) (v0 v1 v2 v3 v4 : Value) : Rf (set5 w k v0 v1 v2 v3 v4) k [v0, v1, v2, v3, v4] :=
  ((((h.set (o := 0) (by simp) v0).set (o := 1) (by simp) v1).set (o := 2) (by simp) v2).set (o := 3) (by simp) v3).set (o := 4) (by simp) v4
theorem Sh.five {w : World} {b k : Nat} {l : List Ob} (h : Sh w b l) (hne : b ≠ k) (v0 v1 v2 v3 v4 : Value) : Sh (set5 w k v0 v1 v2 v3 v4) b l :=
  ((((h.setCell (a := ⟨k, 0, none⟩) hne v0).setCell (a := ⟨k, 1, none⟩) hne v1).setCell (a := ⟨k, 2, none⟩) hne v2).setCell (a := ⟨k, 3, none⟩) hne v3).setCell (a := ⟨k, 4, none⟩) hne v4
theorem below5 {B k : Nat} {w0 w : World} (h : Below B w0 w) (hk : B ≤ k) (v0 v1 v2 v3 v4 : Value) : Below B w0 (set5 w k v0 v1 v2 v3 v4) :=
  ((((h.setCell (p := ⟨k, 0, none⟩) hk v0).setCell (p := ⟨k, 1, none⟩) hk v1).setCell (p := ⟨k, 2, none⟩) hk v2).setCell (p := ⟨k, 3, none⟩) hk v3).setCell (p := ⟨k, 4, none⟩) hk v4
def set3 (w : World) (b : Nat) (v0 v1 v2 : Value) : World := ((w.setCell ⟨b, 0, none⟩ v0).setCell ⟨b, 1, none⟩ v1).setCell ⟨b, 2, none⟩ v2
theorem Rf.three {w : World} {b k : Nat} {vs : List Value} (h : Rf w b vs) (hne : b ≠ k) (v0 v1 v2 : Value) : Rf (set3 w k v0 v1 v2) b vs :=
  ((h.other (o := 0) hne v0).other (o := 1) hne v1).other (o := 2) hne v2
theorem Sh.three {w : World} {b k : Nat} {l : List Ob} (h : Sh w b l) (hne : b ≠ k) (v0 v1 v2 : Value) : Sh (set3 w k v0 v1 v2) b l :=
  ((h.setCell (a := ⟨k, 0, none⟩) hne v0).setCell (a := ⟨k, 1, none⟩) hne v1).setCell (a := ⟨k, 2, none⟩) hne v2
theorem below3 {B k : Nat} {w0 w : World} (h : Below B w0 w) (hk : B ≤ k) (v0 v1 v2 : Value) : Below B w0 (set3 w k v0 v1 v2) :=
  ((h.setCell (p := ⟨k, 0, none⟩) hk v0).setCell (p := ⟨k, 1, none⟩) hk v1).setCell (p := ⟨k, 2, none⟩) hk v2
theorem Rf.grewM {w w' : World} {b : Nat} {vs : List Value} {row : Option Nat} (h : Rf w b vs) (hg : w.grownBy w' row) (hne : some b ≠ row) (hlt : b < w.heap.size) : Rf w' b vs :=
  ⟨fun k v hk => hg.cell (h.at_ k v hk) hne, fun k => by
    have e := hg.block b hlt hne
    have h1 := h.fz k
    unfold World.frozen? at h1 ⊢
    rw [e]; exact h1⟩
theorem Rf.drewM {w : World} {b : Nat} {vs : List Value} (h : Rf w b vs) : Rf w.drew b vs := ⟨fun k v hk => h.at_ k v hk, fun k => h.fz k⟩
theorem kv_ints (id : ByteArray) : ∃ n0 n1 n2 n3 n4 : Int, kv id = .agg #[.int .u8 n0, .int .u8 n1, .int .u8 n2, .int .u8 n3, .int .u8 n4] := ⟨_, _, _, _, _, rfl⟩

/-- Of the old blocks none but b and p has turned. -/
def PK (b p : Nat) (w w' : World) : Prop := ∀ k, k < w.heap.size → k ≠ b → k ≠ p → w'.heap[k]? = w.heap[k]?
theorem pk_set {b p o : Nat} {w w' : World} {v : Value} (h : PK b p w w') : PK b p w (w'.drew.setCell ⟨p, o, none⟩ v) := fun k hk hb hp =>
  (Below.heap_setCell w'.drew ⟨p, o, none⟩ v k (by simpa using hp)).trans (h k hk hb hp)
set_option maxRecDepth 20000 in
set_option maxHeartbeats 2000000 in
theorem putNew (p b : Nat) (l : List Ob) (x0 x2 : ByteArray) (x1 : Int) (w : World) (hR : Rf w p [.map (some b), .int .i64 (l.length : Int)]) (hbp : b < p) (hp : p < w.heap.size) (hS : Sh w b l) (h5 : x0.size = 5) (hn : ∀ o ∈ l, o.1 ≠ x0) (hl : l.length < 200) :
    Calls Tryz.prog 91 #[.pointer (some ⟨p, 0, none⟩), .agg #[.string x0, .int .i64 x1, .string x2]] w fun e w' => e = .returned (.int .i64 0) ∧ Rf w' p [.map (some b), .int .i64 ((l.length + 1 : Nat) : Int)] ∧ Sh w' b (l ++ [(x0, x1, x2)]) ∧ Below b w w' ∧ w.heap.size ≤ w'.heap.size ∧ PK b p w w' := by
  obtain ⟨n0, n1, n2, n3, n4, hkv⟩ := kv_ints x0
  have hKO := fun w => keyOfC x0 w h5
  rw [hkv] at hKO
  have hmf : ∀ (fn : Fn) (first cap : Array Value) (w : World), (Instr.makeFunc fn first cap).run Tryz.prog w = .ok (.func fn first cap) w := fun _ _ _ _ => rfl
  have q200 : ¬ (200 : Int) ≤ (l.length : Int) := by omega
  obtain ⟨WA, hWA⟩ : ∃ W, w.alloc (.cells #[.pointer (some ⟨p, 0, none⟩)] 79) = W := ⟨_, rfl⟩
  have bA : Below w.heap.size w WA := by rw [← hWA]; exact allocBelow _ _
  have zA : WA.heap.size = w.heap.size + 1 := by rw [← hWA]; simp
  have rqA : Rf WA w.heap.size [.pointer (some ⟨p, 0, none⟩)] := by rw [← hWA]; exact Rf.new _ _ _
  obtain ⟨W0, hW0⟩ : ∃ W, WA.alloc (.cells #[.string x0, .int .i64 x1, .string x2] 72) = W := ⟨_, rfl⟩
  have b0 : Below WA.heap.size WA W0 := by rw [← hW0]; exact allocBelow _ _
  have z0 : W0.heap.size = w.heap.size + 1 + 1 := by rw [← hW0]; simp [zA]
  have ro0 : Rf W0 (w.heap.size + 1) [.string x0, .int .i64 x1, .string x2] := by rw [← hW0, ← zA]; exact Rf.new _ _ _
  have rq0 := rqA.below (by omega) b0
  have B0 : Below w.heap.size w W0 := bA.trans (b0.mono (by omega))
  have rp0 := hR.below hp B0
  have S0 := hS.below B0
  have hb := hS.lt
  have c0 := ro0.at_ 0 _ rfl
  clear rqA b0 bA hR hS
  go_enter_defers Tryz.func91, Tryz.ntmps91
  go_wp2_with fail
  refine (hKO _).mono ?_; rintro e w1 ⟨rfl, b1⟩
  have z1 := b1.size
  have rq1 := rq0.below (by omega) b1
  have ro1 := ro0.below (by omega) b1
  have rp1 := rp0.below (by omega) b1
  have S1 := S0.below b1
  have B1 : Below w.heap.size w w1 := B0.trans (b1.mono (by omega))
  clear rq0 ro0 rp0 S0 b1 B0 c0 hW0 hWA
  obtain ⟨W1, hW1⟩ : ∃ W, w1.alloc (.cells #[.int .u8 0, .int .u8 0, .int .u8 0, .int .u8 0, .int .u8 0] 173) = W := ⟨_, rfl⟩
  have b2 : Below w1.heap.size w1 W1 := by rw [← hW1]; exact allocBelow _ _
  have zz : W1.heap.size = w1.heap.size + 1 := by rw [← hW1]; simp
  have rk1 : Rf W1 w1.heap.size [.int .u8 0, .int .u8 0, .int .u8 0, .int .u8 0, .int .u8 0] := by rw [← hW1]; exact Rf.new _ _ _
  have rq2 := (rq1.below (by omega) b2).five (k := w1.heap.size) (by omega) (.int .u8 n0) (.int .u8 n1) (.int .u8 n2) (.int .u8 n3) (.int .u8 n4)
  have ro2 := (ro1.below (by omega) b2).five (k := w1.heap.size) (by omega) (.int .u8 n0) (.int .u8 n1) (.int .u8 n2) (.int .u8 n3) (.int .u8 n4)
  have rp2 := (rp1.below (by omega) b2).five (k := w1.heap.size) (by omega) (.int .u8 n0) (.int .u8 n1) (.int .u8 n2) (.int .u8 n3) (.int .u8 n4)
  have S2 := (S1.below b2).five (k := w1.heap.size) (by omega) (.int .u8 n0) (.int .u8 n1) (.int .u8 n2) (.int .u8 n3) (.int .u8 n4)
  have rk2 := rk1.fiveAt (.int .u8 n0) (.int .u8 n1) (.int .u8 n2) (.int .u8 n3) (.int .u8 n4)
  have B2 := below5 (B1.trans (b2.mono (by omega))) (show w.heap.size ≤ w1.heap.size by omega) (.int .u8 n0) (.int .u8 n1) (.int .u8 n2) (.int .u8 n3) (.int .u8 n4)
  have k0 := rk1.at_ 0 _ rfl
  have k1 := rk1.at_ 1 _ rfl
  have k2 := rk1.at_ 2 _ rfl
  have k3 := rk1.at_ 3 _ rfl
  have k4 := rk1.at_ 4 _ rfl
  have g0 := rk1.fz 0
  have g1 := rk1.fz 1
  have g2 := rk1.fz 2
  have g3 := rk1.fz 3
  have g4 := rk1.fz 4
  have zs : (set5 W1 w1.heap.size (.int .u8 n0) (.int .u8 n1) (.int .u8 n2) (.int .u8 n3) (.int .u8 n4)).heap.size = w1.heap.size + 1 := by unfold set5; simp [zz]
  obtain ⟨W2, hW2⟩ : ∃ W, set5 W1 w1.heap.size (.int .u8 n0) (.int .u8 n1) (.int .u8 n2) (.int .u8 n3) (.int .u8 n4) = W := ⟨_, rfl⟩
  rw [hW2] at rq2 ro2 rp2 S2 rk2 B2 zs
  unfold set5 at hW2
  clear rq1 ro1 rp1 S1 b2 B1 rk1
  have bX : Below W2.heap.size W2 (W2.alloc (.cells #[.string ⟨#[]⟩, .int .i64 0, .string ⟨#[]⟩] 72)) := allocBelow _ _
  have hlk := S2.drew.miss h5 hn
  have hlk' := (S2.below bX).drew.miss h5 hn
  rw [hkv, show obV onil = .agg #[.string ⟨#[]⟩, .int .i64 0, .string ⟨#[]⟩] from rfl] at hlk hlk'
  have rqX := rq2.below (by omega) bX
  have rpX := rp2.below (by omega) bX
  have rkX := rk2.below (by omega) bX
  have rxX : Rf (W2.alloc (.cells #[.string ⟨#[]⟩, .int .i64 0, .string ⟨#[]⟩] 72)) W2.heap.size [.string ⟨#[]⟩, .int .i64 0, .string ⟨#[]⟩] := Rf.new _ _ _
  have cq := rq2.at_ 0 _ rfl
  have cp0 := rp2.at_ 0 _ rfl
  have m0 := rk2.at_ 0 _ rfl
  have m1 := rk2.at_ 1 _ rfl
  have m2 := rk2.at_ 2 _ rfl
  have m3 := rk2.at_ 3 _ rfl
  have m4 := rk2.at_ 4 _ rfl
  have cqX := rqX.at_ 0 _ rfl
  have cp0X := rpX.at_ 0 _ rfl
  have m0X := rkX.at_ 0 _ rfl
  have m1X := rkX.at_ 1 _ rfl
  have m2X := rkX.at_ 2 _ rfl
  have m3X := rkX.at_ 3 _ rfl
  have m4X := rkX.at_ 4 _ rfl
  have x0X := rxX.at_ 0 _ rfl
  have x1X := rxX.at_ 1 _ rfl
  have x2X := rxX.at_ 2 _ rfl
  have f0X := rxX.fz 0
  have f1X := rxX.fz 1
  have f2X := rxX.fz 2
  clear rqX rpX rkX rxX bX
  have HS2 : Hid (Sh W2 b l) := S2
  have HB2 : Hid (Below w.heap.size w W2) := B2
  have Hrp2 : Hid (Rf W2 p _) := rp2
  have Hrq2 : Hid (Rf W2 w.heap.size _) := rq2
  have Hro2 : Hid (Rf W2 (w.heap.size + 1) _) := ro2
  have Hrk2 : Hid (Rf W2 w1.heap.size _) := rk2
  clear S2 B2 rp2 rq2 ro2 rk2 hKO
  go_wp2
  go_region
  all_goals
    obtain ⟨W3, hW3⟩ : ∃ W, (W2.alloc (.cells #[.string ⟨#[]⟩, .int .i64 0, .string ⟨#[]⟩] 72)).drew = W := ⟨_, rfl⟩
    rw [hW3]
    have bX : Below W2.heap.size W2 W3 := by rw [← hW3]; exact below_drew (allocBelow _ _)
    have z3 := bX.size
    have S3 := HS2.out.below bX
    have rq3 := Hrq2.out.below (by omega) bX
    have rp3 := Hrp2.out.below (by omega) bX
    have ro3 := Hro2.out.below (by omega) bX
    have rk3 := Hrk2.out.below (by omega) bX
    have B3 : Below b w W3 := (HB2.out.mono (by omega)).trans (bX.mono (by omega))
    obtain ⟨W4, hup, S4, g4⟩ := S3.drew.put (o := (x0, x1, x2)) h5 hn (by omega)
    rw [show kv ((x0, x1, x2) : Ob).1 = _ from hkv, show obV (x0, x1, x2) = .agg #[.string x0, .int .i64 x1, .string x2] from rfl] at hup
    have R4 := rp3.drewM.grewM g4 (by simp; omega) (by show p < W3.heap.size; omega)
    have q4 := (rq3.drewM.grewM g4 (by simp; omega) (by show w.heap.size < W3.heap.size; omega)).at_ 0 _ rfl
    have PK4 : PK b p w W4 := fun j hj hjb _ => (g4.block j (by show j < W3.heap.size; omega) (fun e => hjb (by cases e; rfl))).trans ((bX.block j (by omega)).trans (HB2.out.block j hj))
    have B4 : Below b w W4 := B3.drew.grown g4 (by show b ≤ W3.heap.size; omega) (fun i hi => by cases hi; exact Nat.le_refl _)
    have z4 : w.heap.size ≤ W4.heap.size := by have := g4.size; have e : W3.drew.heap.size = W3.heap.size := rfl; omega
    have cq := rq3.at_ 0 _ rfl
    have cp0 := rp3.at_ 0 _ rfl
    have cp1 := rp3.at_ 1 _ rfl
    have m0 := rk3.at_ 0 _ rfl
    have m1 := rk3.at_ 1 _ rfl
    have m2 := rk3.at_ 2 _ rfl
    have m3 := rk3.at_ 3 _ rfl
    have m4 := rk3.at_ 4 _ rfl
    have o0 := ro3.at_ 0 _ rfl
    have o1 := ro3.at_ 1 _ rfl
    have o2 := ro3.at_ 2 _ rfl
    have HS4 : Hid (Sh W4 b _) := S4
    have HR4 : Hid (Rf W4 p _) := R4
    have HB4 : Hid (Below b w W4) := B4
    have HF : Hid (Rf (W4.drew.setCell ⟨p, 1, none⟩ (.int .i64 ((l ++ [(x0, x1, x2)]).length : Int))) p [.map (some b), .int .i64 ((l.length + 1 : Nat) : Int)] ∧ Sh (W4.drew.setCell ⟨p, 1, none⟩ (.int .i64 ((l ++ [(x0, x1, x2)]).length : Int))) b (l ++ [(x0, x1, x2)]) ∧ Below b w (W4.drew.setCell ⟨p, 1, none⟩ (.int .i64 ((l ++ [(x0, x1, x2)]).length : Int))) ∧ w.heap.size ≤ (W4.drew.setCell ⟨p, 1, none⟩ (.int .i64 ((l ++ [(x0, x1, x2)]).length : Int))).heap.size ∧ PK b p w (W4.drew.setCell ⟨p, 1, none⟩ (.int .i64 ((l ++ [(x0, x1, x2)]).length : Int)))) := by
      refine ⟨?_, S4.drew.setCell (a := ⟨p, 1, none⟩) (by show b ≠ p; omega) _, B4.drew.setCell (p := ⟨p, 1, none⟩) (by show b ≤ p; omega) _, ?_, pk_set PK4⟩
      · have h := R4.drewM.set (o := 1) (by simp) (.int .i64 ((l ++ [(x0, x1, x2)]).length : Int))
        rw [show (l ++ [(x0, x1, x2)]).length = l.length + 1 by simp] at h ⊢
        exact h
      · simpa using z4
    clear S3 rq3 rp3 ro3 rk3 B3 bX S4 R4 B4 PK4 g4 hW3 HS2 HB2 Hrp2 Hrq2 Hro2 Hrk2 hW2 hW1 hlk hlk'
    go_wp2
    go_region
    go_wp2
    refine leaves_cons (f := 144) (args := #[.pointer (some ⟨w.heap.size, 0, none⟩)]) (by simp) (by simp [go_sem]) ?_
    refine (putDone w.heap.size p b (l ++ [(x0, x1, x2)]) _ .returning W4 q4 HR4.out HS4.out).mono ?_
    rintro e u' w'' ⟨rfl, rfl, rfl⟩
    exact ⟨_, results_tmp rfl _ _ _, rfl, HF.out.1, HF.out.2.1, HF.out.2.2.1, HF.out.2.2.2.1, HF.out.2.2.2.2⟩
end Go.Proofs.YtmmccpdaklkciaaGreatDoor
