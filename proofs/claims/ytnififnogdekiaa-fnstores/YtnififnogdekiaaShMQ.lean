/- A map of objects by their ids: what it holds, told by a list. No statement is proved here. -/
import Derived.Test.YtnififnogdekiaaRows
import Derived.Test.YtnififnogdekiaaLemQ
import Derived.Test.YtnififnogdekiaaDTabQ
import Derived.Test.YtnififnogdekiaaHkTQ
import Derived.Test.YtnififnogdekiaaObLQ
import Derived.WalkKit
import Derived.ProofKit
import Derived.Below
import Derived.WideKeyPair
import Derived.DeepKeys4
import Derived.Maps.OwnSet
import Derived.Maps.Views
import Derived.Test.YtnififnogdekiaaSfCQ
import Derived.WalkSpells
import Derived.Laws.IdiomCopy
import Derived.Laws.Cover1
import Derived.Defers
namespace Go.Proofs.Ytnififnogdekiaa
open Go.ChangeShapes Go.WideShapes Go.ChangeAt Go.RowKit Go.Maps

theorem laidOutP : laidOutB Try.prog = true := by kernel_rfl
theorem rowKey : (81 : TypeId) < Try.prog.types.size := of_decide_eq_true (by kernel_rfl)
theorem undKey : Try.prog.underlying 81 = some (.array 5 5) := by kernel_rfl
theorem cellsKey : Try.prog.cellsOf 81 = 5 := by kernel_rfl
theorem arrKey : WideMaps.ArrKey Try.prog 81 5 5 := ⟨undKey, by kernel_rfl, by kernel_rfl, cellsKey⟩
theorem lawKey : Keyed Try.prog 81 := Keyed.of_law (deep_law_laid laidOutP (m := 2) (by omega) rowKey (by kernel_rfl) (by rw [undKey]))
theorem undMap : Try.prog.underlying 76 = some (.map 81 31) := by kernel_rfl
theorem zeroObj (w : World) : (zeroValue 31).run Try.prog w = .ok (.agg #[.string ⟨#[]⟩, .int .i64 0, .string ⟨#[]⟩]) w := by kernel_rfl

/-- An id of five bytes as an array, and what it reads as. -/
def u8 (n : UInt8) : Value := .int .u8 (n.toNat : Int)
def kc (id : ByteArray) (j : Nat) : UInt8 := id.data.toList.getD j 0
def kv (id : ByteArray) : Value := .agg #[u8 (kc id 0), u8 (kc id 1), u8 (kc id 2), u8 (kc id 3), u8 (kc id 4)]
def lu8 (n : UInt8) : Lit := .int .u8 (n.toNat : Int)
def kl (id : ByteArray) : Lit := .string (keyBytes [lu8 (kc id 0), lu8 (kc id 1), lu8 (kc id 2), lu8 (kc id 3), lu8 (kc id 4)])
theorem wfU8 (n : UInt8) : (Lit.int .u8 (n.toNat : Int)).wf = true := by
  have := n.toNat_lt
  have : n.toNat < 256 := this
  have h1 : IntKind.u8.min = 0 := by decide
  have h2 : IntKind.u8.max = 255 := by decide
  simp only [Lit.wf, h1, h2, Bool.and_eq_true, decide_eq_true_eq]
  omega
theorem keyOf_kv (id : ByteArray) : keyOf Try.prog 81 (kv id) = some (kl id) := by
  have A := arrKey
  have hsz : ∃ m, Try.prog.types.size = m + 1 := ⟨_, rfl⟩
  have hkt := A.keyType hsz
  obtain ⟨m, hm⟩ := hsz
  unfold keyOf kv u8
  simp only [A.hu]
  rw [if_pos (by simp [hkt, Value.formed, A.hu, A.size]), hm]
  unfold Program.keyLits
  simp only [A.hu, Value.cells]
  rw [if_pos (by rw [A.size]; rfl), show List.range 5 = [0, 1, 2, 3, 4] from rfl, List.mapM_cons, List.mapM_cons, List.mapM_cons, List.mapM_cons, List.mapM_cons, List.mapM_nil]
  simp [A.one, Program.keyLits, wfU8, kl, lu8]
theorem bytes_ext {a b : ByteArray} (h : a.data.toList = b.data.toList) : a = b := by
  obtain ⟨⟨x⟩⟩ := a
  obtain ⟨⟨y⟩⟩ := b
  simpa using h
theorem kc_list {a : ByteArray} (h : a.size = 5) : a.data.toList = [kc a 0, kc a 1, kc a 2, kc a 3, kc a 4] := by
  unfold kc
  have h5 : a.data.toList.length = 5 := by simpa using h
  generalize a.data.toList = l at h5
  match l, h5 with
  | [_, _, _, _, _], _ => rfl
theorem kv_inj {a b : ByteArray} (ha : a.size = 5) (hb : b.size = 5) (h : kv a = kv b) : a = b := by
  unfold kv u8 at h
  simp only [Value.agg.injEq, Array.mk.injEq, List.cons.injEq, Value.int.injEq, true_and, and_true] at h
  obtain ⟨h0, h1, h2, h3, h4⟩ := h
  have k : ∀ x y : UInt8, (x.toNat : Int) = y.toNat → x = y := fun x y e => UInt8.toNat_inj.1 (by omega)
  apply bytes_ext
  rw [kc_list ha, kc_list hb, k _ _ h0, k _ _ h1, k _ _ h2, k _ _ h3, k _ _ h4]
theorem kl_ne {a b : ByteArray} (ha : a.size = 5) (hb : b.size = 5) (h : a ≠ b) : kl a ≠ kl b := fun e => h (kv_inj ha hb (lawKey.inj (keyOf_kv a) (e ▸ keyOf_kv b)))
theorem kl_key (a : ByteArray) : WideAt.IsKeyLit (kl a) := trivial

/-- An object as a value of the map, and what it reads as. -/
def obV (o : Ob) : Value := .agg #[.string o.1, .int .i64 o.2.1, .string o.2.2]
def obD (o : Ob) : DataW Unit := .agg [.lit (.string o.1.data.toList), .lit (.int .i64 o.2.1), .lit (.string o.2.2.data.toList)]
def obR (v : Value) : Option (DataW Unit × List MemPlace) :=
  match v with
  | .agg ⟨[.string s, .int .i64 k, .string t]⟩ => some (obD (s, k, t), [])
  | _ => none
theorem obR_mk (o : Ob) : obR (obV o) = some (obD o, []) := rfl
theorem obD_inj {o p : Ob} (h : obD o = obD p) : o = p := by
  unfold obD at h
  simp only [DataW.agg.injEq, List.cons.injEq, DataW.lit.injEq, Lit.string.injEq, Lit.int.injEq, true_and, and_true] at h
  obtain ⟨h0, h1, h2⟩ := h
  obtain ⟨a, b, c⟩ := o
  obtain ⟨x, y, z⟩ := p
  simp only at h0 h1 h2
  rw [bytes_ext h0, h1, bytes_ext h2]
theorem obR_inv {v : Value} {o : Ob} {ps : List MemPlace} (h : obR v = some (obD o, ps)) : v = obV o := by
  unfold obR at h
  split at h
  · simp only [Option.some.injEq, Prod.mk.injEq] at h
    rw [← obD_inj h.1]; rfl
  · cases h

/-- BLOCK b IS A MAP OF THESE OBJECTS, BY THEIR IDS. -/
def Sh (w : World) (b : Nat) (l : List Ob) : Prop :=
  ∃ D : DataW Unit, w.ownsMap Try.prog 81 obR b l.length D ∧ Tidy D ∧ size D = l.length ∧ (∀ o ∈ l, o.1.size = 5 ∧ has D (kl o.1) = true ∧ ∀ z, D.atKey (kl o.1) z = obD o) ∧ (∀ z : Lit, has D z = true → ∃ o ∈ l, z = kl o.1)
theorem noKey {D : DataW Unit} {l : List Ob} (h4 : ∀ o ∈ l, o.1.size = 5 ∧ has D (kl o.1) = true ∧ ∀ z, D.atKey (kl o.1) z = obD o) (h5 : ∀ z : Lit, has D z = true → ∃ o ∈ l, z = kl o.1) {id : ByteArray} (hs : id.size = 5) (hn : ∀ o ∈ l, o.1 ≠ id) : has D (kl id) = false := by
  cases e : has D (kl id) with
  | false => rfl
  | true =>
    obtain ⟨o, ho, he⟩ := h5 _ e
    exact absurd he (kl_ne hs (h4 o ho).1 (fun e => hn o ho e.symm))
theorem Sh.new (w : World) : Sh (w.alloc (.map #[] 0)) w.heap.size [] :=
  ⟨_, World.ownsMap_made w _ _ _, tidy_empty, rfl, (fun o ho => by cases ho), fun z hz => by cases hz⟩
theorem Sh.kept {w w' : World} {b : Nat} {l : List Ob} {row : Option Nat} (h : Sh w b l) (hg : w.grownBy w' row) (hne : some b ≠ row) : Sh w' b l := by
  obtain ⟨D, h1, h2⟩ := h
  exact ⟨D, h1.kept hg hne, h2⟩
theorem Sh.lt {w : World} {b : Nat} {l : List Ob} (h : Sh w b l) : b < w.heap.size := by
  obtain ⟨D, h1, h2⟩ := h
  exact h1.lt
theorem Sh.setCell {w : World} {b : Nat} {l : List Ob} (h : Sh w b l) {a : Addr} (ha : b ≠ a.block) (u : Value) : Sh (w.setCell a u) b l := by
  obtain ⟨D, h1, h2⟩ := h
  exact ⟨D, h1.setCell ha u, h2⟩
theorem Sh.below {w w' : World} {b : Nat} {l : List Ob} (h : Sh w b l) (hb : Below w.heap.size w w') : Sh w' b l := h.kept (grownOfBelow hb none) (by simp)
/-- The look-up of an id that is there. -/
theorem Sh.hit {w : World} {b : Nat} {l : List Ob} (h : Sh w b l) {o : Ob} (ho : o ∈ l) : (Instr.lookup 76 (.map (some b)) (kv o.1) true).run Try.prog w = .ok (.tuple #[obV o, .bool true]) w := by
  obtain ⟨D, h1, h2, h3, h4, h5⟩ := h
  obtain ⟨v, ps, hrun, hv⟩ := h1.look_ok lawKey undMap (zeroObj w) (zd := obD onil) (zp := []) rfl (keyOf_kv o.1)
  obtain ⟨_, e1, e2⟩ := h4 o ho
  rw [e2] at hv
  rw [hrun, e1, obR_inv hv]
/-- The look-up of an id that is not there. -/
theorem Sh.miss {w : World} {b : Nat} {l : List Ob} (h : Sh w b l) {id : ByteArray} (hs : id.size = 5) (hn : ∀ o ∈ l, o.1 ≠ id) : (Instr.lookup 76 (.map (some b)) (kv id) true).run Try.prog w = .ok (.tuple #[obV onil, .bool false]) w := by
  obtain ⟨D, h1, h2, h3, h4, h5⟩ := h
  obtain ⟨v, ps, hrun, hv⟩ := h1.look_ok lawKey undMap (zeroObj w) (zd := obD onil) (zp := []) rfl (keyOf_kv id)
  have e1 := noKey h4 h5 hs hn
  rw [atKey_of_not_has e1] at hv
  rw [hrun, e1, obR_inv hv]
theorem Sh.len {w : World} {b : Nat} {l : List Ob} (h : Sh w b l) (ty : TypeId) : (Builtin.len_ #[76] ty #[.map (some b)]).run Try.prog w = .ok (.int .i64 (l.length : Int)) w := by
  obtain ⟨D, h1, h2, h3, h4, h5⟩ := h
  rw [h1.len undMap ty, h3]
/-- A store of a new one. -/
theorem Sh.put {w : World} {b : Nat} {l : List Ob} (h : Sh w b l) {o : Ob} (hs : o.1.size = 5) (hn : ∀ p ∈ l, p.1 ≠ o.1) (hl : l.length < 1048576) :
    ∃ w', (Instr.mapUpdate 76 (.map (some b)) (kv o.1) (obV o)).run Try.prog w = .ok () w' ∧ Sh w' b (l ++ [o]) ∧ w.grownBy w' (some b) := by
  obtain ⟨D, h1, h2, h3, h4, h5⟩ := h
  obtain ⟨w', hrun, hown, hg⟩ := h1.update lawKey undMap (by unfold maxLen; omega) (keyOf_kv o.1) (obR_mk o)
  refine ⟨w', hrun, ⟨_, by rw [List.length_append]; exact hown, h2.put (kl_key _) _, ?_, ?_, ?_⟩, hg⟩
  · rw [size_put h2, noKey h4 h5 hs hn, h3]; simp
  · intro p hp
    rcases List.mem_append.1 hp with hp | hp
    · obtain ⟨e0, e1, e2⟩ := h4 p hp
      have hne := kl_ne e0 hs (hn p hp)
      exact ⟨e0, by rw [has_put_other hne]; exact e1, fun z => by rw [atKey_put_other hne]; exact e2 z⟩
    · cases List.mem_singleton.1 hp
      exact ⟨hs, has_put_same h2.isMap (kl_key _) _, fun z => atKey_put_same h2.isMap (kl_key _) _ z⟩
  · intro z hz
    by_cases e : z = kl o.1
    · exact ⟨o, by simp, e⟩
    · rw [has_put_other e] at hz
      obtain ⟨p, hp, e2⟩ := h5 z hz
      exact ⟨p, by simp [hp], e2⟩
end Go.Proofs.Ytnififnogdekiaa
/- The contracts of the program's shelf: keyOf, cloneObject, put, find. No statement is proved here. -/
namespace Go.Proofs.Ytnififnogdekiaa
open Go.ChangeShapes Go.WideShapes Go.ChangeAt Go.RowKit

def set5 (w : World) (b : Nat) (v0 v1 v2 v3 v4 : Value) : World := ((((w.setCell ⟨b, 0, none⟩ v0).setCell ⟨b, 1, none⟩ v1).setCell ⟨b, 2, none⟩ v2).setCell ⟨b, 3, none⟩ v3).setCell ⟨b, 4, none⟩ v4
theorem undBytes : Try.prog.underlying 22 = some (.slice 5) := by kernel_rfl
theorem sizeU8 : (Try.prog.info? 5).map (·.size) = some 1 := by kernel_rfl
theorem run_copy5 (w : World) (b : Nat) (ty : TypeId) (id : ByteArray) (h : id.size = 5) (x0 x1 x2 x3 x4 : Value) (hr : Rf w b [x0, x1, x2, x3, x4]) :
    (Builtin.copy_ #[22, 9] ty #[.slice (some ⟨b, 0, none⟩) 5 5, .string id]).run Try.prog w = .ok (.int .i64 5) (set5 w b (u8 (kc id 0)) (u8 (kc id 1)) (u8 (kc id 2)) (u8 (kc id 3)) (u8 (kc id 4))) := by
  have hst := run_storeCells_cells (P := Try.prog) b 0 [u8 (kc id 0), u8 (kc id 1), u8 (kc id 2), u8 (kc id 3), u8 (kc id 4)] 0 w
    (fun j hj => by
      rw [show 0 + 0 + j = j by omega]
      have : j < ([x0, x1, x2, x3, x4] : List Value).length := hj
      rw [hr.at_ j _ (List.getElem?_eq_getElem this)]; rfl)
    (fun j hj => by rw [show 0 + 0 + j = j by omega]; exact hr.fz j)
    (by intro v hv; simp [u8] at hv; rcases hv with rfl | rfl | rfl | rfl | rfl <;> rfl)
  have hx : List.take 5 (List.map (fun b : UInt8 => Value.int .u8 (b.toNat : Int)) id.data.toList) = [u8 (kc id 0), u8 (kc id 1), u8 (kc id 2), u8 (kc id 3), u8 (kc id 4)] := by
    rw [kc_list h]
    rfl
  obtain ⟨i, hi, _⟩ : ∃ i, Try.prog.info? 5 = some i ∧ i.size = 1 := by
    have := sizeU8
    cases hq : Try.prog.info? 5 with
    | none => rw [hq] at this; cases this
    | some i => rw [hq] at this; exact ⟨i, rfl, by simpa using this⟩
  simp [Builtin.copy_, run_underlying undBytes, Builtin.lenOf, Builtin.firstCells, sizeOf, typeInfo, hi, h, hx, hst, set5, World.setCells, goInt]

set_option maxRecDepth 20000 in
set_option maxHeartbeats 1000000 in
theorem keyOfC (id : ByteArray) (w : World) (h : id.size = 5) : Calls Try.prog 44 #[.string id] w fun e w' => e = .returned (kv id) ∧ Below w.heap.size w w' := by
  obtain ⟨W1, hW1⟩ : ∃ W, w.alloc (.cells #[.int .u8 0, .int .u8 0, .int .u8 0, .int .u8 0, .int .u8 0] 81) = W := ⟨_, rfl⟩
  have b1 : Below w.heap.size w W1 := by rw [← hW1]; exact allocBelow _ _
  have z1 : W1.heap.size = w.heap.size + 1 := by rw [← hW1]; simp
  have r1 : Rf W1 w.heap.size [.int .u8 0, .int .u8 0, .int .u8 0, .int .u8 0, .int .u8 0] := by rw [← hW1]; exact Rf.new _ _ _
  obtain ⟨W2, hW2⟩ : ∃ W, W1.alloc (.cells #[.int .u8 0, .int .u8 0, .int .u8 0, .int .u8 0, .int .u8 0] 81) = W := ⟨_, rfl⟩
  have b2 : Below W1.heap.size W1 W2 := by rw [← hW2]; exact allocBelow _ _
  have z2 : W2.heap.size = w.heap.size + 2 := by rw [← hW2]; simp; omega
  have r2 : Rf W2 (w.heap.size + 1) [.int .u8 0, .int .u8 0, .int .u8 0, .int .u8 0, .int .u8 0] := by rw [← hW2, ← z1]; exact Rf.new _ _ _
  have r1' := r1.below (by omega) b2
  have hC := fun ty => run_copy5 W2 (w.heap.size + 1) ty id h _ _ _ _ _ r2
  obtain ⟨n0, e0⟩ : ∃ n : Int, u8 (kc id 0) = .int .u8 n := ⟨_, rfl⟩
  obtain ⟨n1, e1⟩ : ∃ n : Int, u8 (kc id 1) = .int .u8 n := ⟨_, rfl⟩
  obtain ⟨n2, e2⟩ : ∃ n : Int, u8 (kc id 2) = .int .u8 n := ⟨_, rfl⟩
  obtain ⟨n3, e3⟩ : ∃ n : Int, u8 (kc id 3) = .int .u8 n := ⟨_, rfl⟩
  obtain ⟨n4, e4⟩ : ∃ n : Int, u8 (kc id 4) = .int .u8 n := ⟨_, rfl⟩
  have HK : Hid (kv id = .agg #[.int .u8 n0, .int .u8 n1, .int .u8 n2, .int .u8 n3, .int .u8 n4]) := by show _ = _; rw [← e0, ← e1, ← e2, ← e3, ← e4]; rfl
  rw [e0, e1, e2, e3, e4] at hC
  clear e0 e1 e2 e3 e4
  have R2 : Rf (set5 W2 (w.heap.size + 1) (.int .u8 n0) (.int .u8 n1) (.int .u8 n2) (.int .u8 n3) (.int .u8 n4)) (w.heap.size + 1) [(.int .u8 n0), (.int .u8 n1), (.int .u8 n2), (.int .u8 n3), (.int .u8 n4)] := ((((r2.set (o := 0) (by simp) (.int .u8 n0)).set (o := 1) (by simp) (.int .u8 n1)).set (o := 2) (by simp) (.int .u8 n2)).set (o := 3) (by simp) (.int .u8 n3)).set (o := 4) (by simp) (.int .u8 n4)
  have R1 : Rf (set5 W2 (w.heap.size + 1) (.int .u8 n0) (.int .u8 n1) (.int .u8 n2) (.int .u8 n3) (.int .u8 n4)) w.heap.size [.int .u8 0, .int .u8 0, .int .u8 0, .int .u8 0, .int .u8 0] := ((((r1'.other (o := 0) (by omega) (.int .u8 n0)).other (o := 1) (by omega) (.int .u8 n1)).other (o := 2) (by omega) (.int .u8 n2)).other (o := 3) (by omega) (.int .u8 n3)).other (o := 4) (by omega) (.int .u8 n4)
  have B2 : Below w.heap.size w (set5 W2 (w.heap.size + 1) (.int .u8 n0) (.int .u8 n1) (.int .u8 n2) (.int .u8 n3) (.int .u8 n4)) := (((((b1.trans (b2.mono (by omega))).setCell (p := ⟨w.heap.size + 1, 0, none⟩) (Nat.le_succ _) (.int .u8 n0)).setCell (p := ⟨w.heap.size + 1, 1, none⟩) (Nat.le_succ _) (.int .u8 n1)).setCell (p := ⟨w.heap.size + 1, 2, none⟩) (Nat.le_succ _) (.int .u8 n2)).setCell (p := ⟨w.heap.size + 1, 3, none⟩) (Nat.le_succ _) (.int .u8 n3)).setCell (p := ⟨w.heap.size + 1, 4, none⟩) (Nat.le_succ _) (.int .u8 n4)
  obtain ⟨W3, hW3⟩ : ∃ W, set5 W2 (w.heap.size + 1) (.int .u8 n0) (.int .u8 n1) (.int .u8 n2) (.int .u8 n3) (.int .u8 n4) = W := ⟨_, rfl⟩
  rw [hW3] at hC R2 R1 B2
  have HB : Hid (Below w.heap.size w (set5 W3 w.heap.size (.int .u8 n0) (.int .u8 n1) (.int .u8 n2) (.int .u8 n3) (.int .u8 n4))) := ((((B2.setCell (p := ⟨w.heap.size, 0, none⟩) (Nat.le_refl _) (.int .u8 n0)).setCell (p := ⟨w.heap.size, 1, none⟩) (Nat.le_refl _) (.int .u8 n1)).setCell (p := ⟨w.heap.size, 2, none⟩) (Nat.le_refl _) (.int .u8 n2)).setCell (p := ⟨w.heap.size, 3, none⟩) (Nat.le_refl _) (.int .u8 n3)).setCell (p := ⟨w.heap.size, 4, none⟩) (Nat.le_refl _) (.int .u8 n4)
  have d0 := R1.at_ 0 _ rfl
  have d1 := R1.at_ 1 _ rfl
  have d2 := R1.at_ 2 _ rfl
  have d3 := R1.at_ 3 _ rfl
  have d4 := R1.at_ 4 _ rfl
  have f0 := R1.fz 0
  have f1 := R1.fz 1
  have f2 := R1.fz 2
  have f3 := R1.fz 3
  have f4 := R1.fz 4
  have k0 := R2.at_ 0 _ rfl
  have k1 := R2.at_ 1 _ rfl
  have k2 := R2.at_ 2 _ rfl
  have k3 := R2.at_ 3 _ rfl
  have k4 := R2.at_ 4 _ rfl
  clear R1 R2 r1 r2 r1' B2 b1 b2 hW3
  go_enter Try.func44, Try.ntmps44
  go_wp2
  refine bodyPost_ret (v := .agg #[.int .u8 n0, .int .u8 n1, .int .u8 n2, .int .u8 n3, .int .u8 n4]) (by simp [results, Try.results44, go_sem, d0, d1, d2, d3, d4]) rfl ?_
  exact ⟨by rw [HK.out], HB.out⟩
end Go.Proofs.Ytnififnogdekiaa
