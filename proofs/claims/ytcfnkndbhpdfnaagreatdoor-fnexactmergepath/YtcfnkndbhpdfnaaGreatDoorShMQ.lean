/- A map of objects by their ids: what it holds, told by a list. No statement is proved here. -/
import Derived.Test.YtcfnkndbhpdfnaaGreatDoorDigCQ
import Derived.Test.YtcfnkndbhpdfnaaGreatDoorWvCQ
import Derived.Test.YtcfnkndbhpdfnaaGreatDoorIdLQ
import Derived.Test.YtcfnkndbhpdfnaaGreatDoorFlLQ
import Derived.WideKeyPair
import Derived.DeepKeys4
import Derived.Maps.OwnSet
import Derived.Maps.Views
import Derived.Laws.IdiomCopy
import Derived.Defers
import Derived.Deep.Cut
namespace Go.Proofs.YtcfnkndbhpdfnaaGreatDoor
open Go.ChangeShapes Go.WideShapes Go.ChangeAt Go.RowKit Go.Maps
theorem laidOutP : laidOutB Tryz.prog = true := by kernel_rfl
theorem rowKey : (119 : TypeId) < Tryz.prog.types.size := of_decide_eq_true (by kernel_rfl)
theorem undKey : Tryz.prog.underlying 119 = some (.array 5 5) := by kernel_rfl
theorem cellsKey : Tryz.prog.cellsOf 119 = 5 := by kernel_rfl
theorem arrKey : WideMaps.ArrKey Tryz.prog 119 5 5 := ⟨undKey, by kernel_rfl, by kernel_rfl, cellsKey⟩
theorem lawKey : Keyed Tryz.prog 119 := Keyed.of_law (deep_law_laid laidOutP (m := 2) (by omega) rowKey (by kernel_rfl) (by rw [undKey]))
theorem undMap : Tryz.prog.underlying 89 = some (.map 119 50) := by kernel_rfl
theorem zeroObj (w : World) : (zeroValue 50).run Tryz.prog w = .ok (.agg #[.string ⟨#[]⟩, .int .i64 0, .string ⟨#[]⟩]) w := by kernel_rfl
def u8 (n : UInt8) : Value := .int .u8 (n.toNat : Int)
def kc (id : ByteArray) (j : Nat) : UInt8 := id.data.toList.getD j 0
def kv (id : ByteArray) : Value := .agg #[u8 (kc id 0), u8 (kc id 1), u8 (kc id 2), u8 (kc id 3), u8 (kc id 4)]
def lu8 (n : UInt8) : Lit := .int .u8 (n.toNat : Int)
def kl (id : ByteArray) : Lit := .string (keyBytes [lu8 (kc id 0), lu8 (kc id 1), lu8 (kc id 2), lu8 (kc id 3), lu8 (kc id 4)])
theorem wfU8 (n : UInt8) : (Lit.int .u8 (n.toNat : Int)).wf = true := by
 have := n.toNat_lt
 have : n.toNat < 256 := this
 have h1 : IntKind.u8.min = 0 := by decide
 have h2 : IntKind.u8.max = 255 := by decide
 simp only [Lit.wf, h1, h2, Bool.and_eq_true, decide_eq_true_eq]
 omega
theorem keyOf_kv (id : ByteArray) : keyOf Tryz.prog 119 (kv id) = some (kl id) := by
 have A := arrKey
 have hsz : ∃ m, Tryz.prog.types.size = m + 1 := ⟨_, rfl⟩
 have hkt := A.keyType hsz
 obtain ⟨m, hm⟩ := hsz
 unfold keyOf kv u8
 simp only [A.hu]
 rw [if_pos (by simp [hkt, Value.formed, A.hu, A.size]), hm]
 unfold Program.keyLits
 simp only [A.hu, Value.cells]
 rw [if_pos (by rw [A.size]; rfl), show List.range 5 = [0, 1, 2, 3, 4] from rfl, List.mapM_cons, List.mapM_cons, List.mapM_cons, List.mapM_cons, List.mapM_cons, List.mapM_nil]
 simp [A.one, Program.keyLits, wfU8, kl, lu8]
theorem bytes_ext {a b : ByteArray} (h : a.data.toList = b.data.toList) : a = b := by
 obtain ⟨⟨x⟩⟩ := a
 obtain ⟨⟨y⟩⟩ := b
 simpa using h
theorem kc_list {a : ByteArray} (h : a.size = 5) : a.data.toList = [kc a 0, kc a 1, kc a 2, kc a 3, kc a 4] := by
 unfold kc
 have h5 : a.data.toList.length = 5 := by simpa using h
 generalize a.data.toList = l at h5
 match l, h5 with
 | [_, _, _, _, _], _ => rfl
theorem kv_inj {a b : ByteArray} (ha : a.size = 5) (hb : b.size = 5) (h : kv a = kv b) : a = b := by
 unfold kv u8 at h
 simp only [Value.agg.injEq, Array.mk.injEq, List.cons.injEq, Value.int.injEq, true_and, and_true] at h
 obtain ⟨h0, h1, h2, h3, h4⟩ := h
 have k : ∀ x y : UInt8, (x.toNat : Int) = y.toNat -> x = y := fun x y e => UInt8.toNat_inj.1 (by omega)
 apply bytes_ext
 rw [kc_list ha, kc_list hb, k _ _ h0, k _ _ h1, k _ _ h2, k _ _ h3, k _ _ h4]
theorem kl_ne {a b : ByteArray} (ha : a.size = 5) (hb : b.size = 5) (h : a ≠ b) : kl a ≠ kl b := fun e => h (kv_inj ha hb (lawKey.inj (keyOf_kv a) (e ▸ keyOf_kv b)))
theorem kl_key (a : ByteArray) : WideAt.IsKeyLit (kl a) := trivial
def obV (o : Ob) : Value := .agg #[.string o.1, .int .i64 o.2.1, .string o.2.2]
def obD (o : Ob) : DataW Unit := .agg [.lit (.string o.1.data.toList), .lit (.int .i64 o.2.1), .lit (.string o.2.2.data.toList)]
def obR (v : Value) : Option (DataW Unit × List MemPlace) :=
 match v with
 | .agg ⟨[.string s, .int .i64 k, .string t]⟩ => some (obD (s, k, t), [])
 | _ => none
theorem obR_mk (o : Ob) : obR (obV o) = some (obD o, []) := rfl
theorem obD_inj {o p : Ob} (h : obD o = obD p) : o = p := by
 unfold obD at h
 simp only [DataW.agg.injEq, List.cons.injEq, DataW.lit.injEq, Lit.string.injEq, Lit.int.injEq, true_and, and_true] at h
 obtain ⟨h0, h1, h2⟩ := h
 obtain ⟨a, b, c⟩ := o
 obtain ⟨x, y, z⟩ := p
 simp only at h0 h1 h2
 rw [bytes_ext h0, h1, bytes_ext h2]
theorem obR_inv {v : Value} {o : Ob} {ps : List MemPlace} (h : obR v = some (obD o, ps)) : v = obV o := by
 unfold obR at h
 split at h
 ·simp only [Option.some.injEq, Prod.mk.injEq] at h
  rw [<- obD_inj h.1]; rfl
 ·cases h
def Sh (w : World) (b : Nat) (l : List Ob) : Prop :=
 ∃ D : DataW Unit, w.ownsMap Tryz.prog 119 obR b l.length D /\ Tidy D /\ size D = l.length /\ (∀ o ∈ l, o.1.size = 5 /\ has D (kl o.1) = true /\ ∀ z, D.atKey (kl o.1) z = obD o) /\ (∀ z : Lit, has D z = true -> ∃ o ∈ l, z = kl o.1)
theorem noKey {D : DataW Unit} {l : List Ob} (h4 : ∀ o ∈ l, o.1.size = 5 /\ has D (kl o.1) = true /\ ∀ z, D.atKey (kl o.1) z = obD o) (h5 : ∀ z : Lit, has D z = true -> ∃ o ∈ l, z = kl o.1) {id : ByteArray} (hs : id.size = 5) (hn : ∀ o ∈ l, o.1 ≠ id) : has D (kl id) = false := by
 cases e : has D (kl id) with
 | false => rfl
 | true =>
  obtain ⟨o, ho, he⟩ := h5 _ e
  exact absurd he (kl_ne hs (h4 o ho).1 (fun e => hn o ho e.symm))
theorem Sh.new (w : World) : Sh (w.alloc (.map #[] 0)) w.heap.size [] :=
 ⟨_, World.ownsMap_made w _ _ _, tidy_empty, rfl, (fun o ho => by cases ho), fun z hz => by cases hz⟩
theorem Sh.kept {w w' : World} {b : Nat} {l : List Ob} {row : Option Nat} (h : Sh w b l) (hg : w.grownBy w' row) (hne : some b ≠ row) : Sh w' b l := by
 obtain ⟨D, h1, h2⟩ := h
 exact ⟨D, h1.kept hg hne, h2⟩
theorem Sh.lt {w : World} {b : Nat} {l : List Ob} (h : Sh w b l) : b < w.heap.size := by
 obtain ⟨D, h1, h2⟩ := h
 exact h1.lt
theorem Sh.setCell {w : World} {b : Nat} {l : List Ob} (h : Sh w b l) {a : Addr} (ha : b ≠ a.block) (u : Value) : Sh (w.setCell a u) b l := by
 obtain ⟨D, h1, h2⟩ := h
 exact ⟨D, h1.setCell ha u, h2⟩
theorem Sh.below {w w' : World} {b : Nat} {l : List Ob} (h : Sh w b l) (hb : Below w.heap.size w w') : Sh w' b l := h.kept (grownOfBelow hb none) (by simp)
theorem Sh.hit {w : World} {b : Nat} {l : List Ob} (h : Sh w b l) {o : Ob} (ho : o ∈ l) : (Instr.lookup 89 (.map (some b)) (kv o.1) true).run Tryz.prog w = .ok (.tuple #[obV o, .bool true]) w := by
 obtain ⟨D, h1, h2, h3, h4, h5⟩ := h
 obtain ⟨v, ps, hrun, hv⟩ := h1.look_ok lawKey undMap (zeroObj w) (zd := obD onil) (zp := []) rfl (keyOf_kv o.1)
 obtain ⟨_, e1, e2⟩ := h4 o ho
 rw [e2] at hv
 rw [hrun, e1, obR_inv hv]
theorem Sh.miss {w : World} {b : Nat} {l : List Ob} (h : Sh w b l) {id : ByteArray} (hs : id.size = 5) (hn : ∀ o ∈ l, o.1 ≠ id) : (Instr.lookup 89 (.map (some b)) (kv id) true).run Tryz.prog w = .ok (.tuple #[obV onil, .bool false]) w := by
 obtain ⟨D, h1, h2, h3, h4, h5⟩ := h
 obtain ⟨v, ps, hrun, hv⟩ := h1.look_ok lawKey undMap (zeroObj w) (zd := obD onil) (zp := []) rfl (keyOf_kv id)
 have e1 := noKey h4 h5 hs hn
 rw [atKey_of_not_has e1] at hv
 rw [hrun, e1, obR_inv hv]
theorem Sh.len {w : World} {b : Nat} {l : List Ob} (h : Sh w b l) (ty : TypeId) : (Builtin.len_ #[89] ty #[.map (some b)]).run Tryz.prog w = .ok (.int .i64 (l.length : Int)) w := by
 obtain ⟨D, h1, h2, h3, h4, h5⟩ := h
 rw [h1.len undMap ty, h3]
theorem Sh.put {w : World} {b : Nat} {l : List Ob} (h : Sh w b l) {o : Ob} (hs : o.1.size = 5) (hn : ∀ p ∈ l, p.1 ≠ o.1) (hl : l.length < 1048576) :
  ∃ w', (Instr.mapUpdate 89 (.map (some b)) (kv o.1) (obV o)).run Tryz.prog w = .ok () w' /\ Sh w' b (l ++ [o]) /\ w.grownBy w' (some b) := by
 obtain ⟨D, h1, h2, h3, h4, h5⟩ := h
 obtain ⟨w', hrun, hown, hg⟩ := h1.update lawKey undMap (by unfold maxLen; omega) (keyOf_kv o.1) (obR_mk o)
 refine ⟨w', hrun, ⟨_, by rw [List.length_append]; exact hown, h2.put (kl_key _) _, ?_, ?_, ?_⟩, hg⟩
 ·rw [size_put h2, noKey h4 h5 hs hn, h3]; simp
 ·intro p hp
  rcases List.mem_append.1 hp with hp | hp
  ·obtain ⟨e0, e1, e2⟩ := h4 p hp
   have hne := kl_ne e0 hs (hn p hp)
   exact ⟨e0, by rw [has_put_other hne]; exact e1, fun z => by rw [atKey_put_other hne]; exact e2 z⟩
  ·cases List.mem_singleton.1 hp
   exact ⟨hs, has_put_same h2.isMap (kl_key _) _, fun z => atKey_put_same h2.isMap (kl_key _) _ z⟩
 ·intro z hz
  by_cases e : z = kl o.1
  ·exact ⟨o, by simp, e⟩
  ·rw [has_put_other e] at hz
   obtain ⟨p, hp, e2⟩ := h5 z hz
   exact ⟨p, by simp [hp], e2⟩
end Go.Proofs.YtcfnkndbhpdfnaaGreatDoor
namespace Go.Proofs.YtcfnkndbhpdfnaaGreatDoor
open Go.ChangeShapes Go.WideShapes Go.ChangeAt Go.RowKit
def set5 (w : World) (b : Nat) (v0 v1 v2 v3 v4 : Value) : World := ((((w.setCell ⟨b, 0, none⟩ v0).setCell ⟨b, 1, none⟩ v1).setCell ⟨b, 2, none⟩ v2).setCell ⟨b, 3, none⟩ v3).setCell ⟨b, 4, none⟩ v4
theorem undBytes : Tryz.prog.underlying 102 = some (.slice 5) := by kernel_rfl
theorem sizeU8 : (Tryz.prog.info? 5).map (·.size) = some 1 := by kernel_rfl
theorem run_copy5 (w : World) (b : Nat) (ty : TypeId) (id : ByteArray) (h : id.size = 5) (x0 x1 x2 x3 x4 : Value) (hr : Rf w b [x0, x1, x2, x3, x4]) :
  (Builtin.copy_ #[102, 9] ty #[.slice (some ⟨b, 0, none⟩) 5 5, .string id]).run Tryz.prog w = .ok (.int .i64 5) (set5 w b (u8 (kc id 0)) (u8 (kc id 1)) (u8 (kc id 2)) (u8 (kc id 3)) (u8 (kc id 4))) := by
 have hst := run_storeCells_cells (P := Tryz.prog) b 0 [u8 (kc id 0), u8 (kc id 1), u8 (kc id 2), u8 (kc id 3), u8 (kc id 4)] 0 w
  (fun j hj => by
   rw [show 0 + 0 + j = j by omega]
   have : j < ([x0, x1, x2, x3, x4] : List Value).length := hj
   rw [hr.at_ j _ (List.getElem?_eq_getElem this)]; rfl)
  (fun j hj => by rw [show 0 + 0 + j = j by omega]; exact hr.fz j)
  (by intro v hv; simp [u8] at hv; rcases hv with rfl | rfl | rfl | rfl | rfl <;> rfl)
 have hx : List.take 5 (List.map (fun b : UInt8 => Value.int .u8 (b.toNat : Int)) id.data.toList) = [u8 (kc id 0), u8 (kc id 1), u8 (kc id 2), u8 (kc id 3), u8 (kc id 4)] := by
  rw [kc_list h]
  rfl
 obtain ⟨i, hi, _⟩ : ∃ i, Tryz.prog.info? 5 = some i /\ i.size = 1 := by
  have := sizeU8
  cases hq : Tryz.prog.info? 5 with
  | none => rw [hq] at this; cases this
  | some i => rw [hq] at this; exact ⟨i, rfl, by simpa using this⟩
 simp [Builtin.copy_, run_underlying undBytes, Builtin.lenOf, Builtin.firstCells, sizeOf, typeInfo, hi, h, hx, hst, set5, World.setCells, goInt]
set_option maxRecDepth 20000 in
set_option maxHeartbeats 1000000 in
theorem keyOfC (id : ByteArray) (w : World) (h : id.size = 5) : Calls Tryz.prog 86 #[.string id] w fun e w' => e = .returned (kv id) /\ Below w.heap.size w w' := by
 obtain ⟨W1, hW1⟩ : ∃ W, w.alloc (.cells #[.int .u8 0, .int .u8 0, .int .u8 0, .int .u8 0, .int .u8 0] 119) = W := ⟨_, rfl⟩
 have b1 : Below w.heap.size w W1 := by rw [<- hW1]; exact allocBelow _ _
 have z1 : W1.heap.size = w.heap.size + 1 := by rw [<- hW1]; simp
 have r1 : Rf W1 w.heap.size [.int .u8 0, .int .u8 0, .int .u8 0, .int .u8 0, .int .u8 0] := by rw [<- hW1]; exact Rf.new _ _ _
 obtain ⟨W2, hW2⟩ : ∃ W, W1.alloc (.cells #[.int .u8 0, .int .u8 0, .int .u8 0, .int .u8 0, .int .u8 0] 119) = W := ⟨_, rfl⟩
 have b2 : Below W1.heap.size W1 W2 := by rw [<- hW2]; exact allocBelow _ _
 have z2 : W2.heap.size = w.heap.size + 2 := by rw [<- hW2]; simp; omega
 have r2 : Rf W2 (w.heap.size + 1) [.int .u8 0, .int .u8 0, .int .u8 0, .int .u8 0, .int .u8 0] := by rw [<- hW2, <- z1]; exact Rf.new _ _ _
 have r1' := r1.below (by omega) b2
 have hC := fun ty => run_copy5 W2 (w.heap.size + 1) ty id h _ _ _ _ _ r2
 obtain ⟨n0, e0⟩ : ∃ n : Int, u8 (kc id 0) = .int .u8 n := ⟨_, rfl⟩
 obtain ⟨n1, e1⟩ : ∃ n : Int, u8 (kc id 1) = .int .u8 n := ⟨_, rfl⟩
 obtain ⟨n2, e2⟩ : ∃ n : Int, u8 (kc id 2) = .int .u8 n := ⟨_, rfl⟩
 obtain ⟨n3, e3⟩ : ∃ n : Int, u8 (kc id 3) = .int .u8 n := ⟨_, rfl⟩
 obtain ⟨n4, e4⟩ : ∃ n : Int, u8 (kc id 4) = .int .u8 n := ⟨_, rfl⟩
 have HK : Hid (kv id = .agg #[.int .u8 n0, .int .u8 n1, .int .u8 n2, .int .u8 n3, .int .u8 n4]) := by show _ = _; rw [<- e0, <- e1, <- e2, <- e3, <- e4]; rfl
 rw [e0, e1, e2, e3, e4] at hC
 clear e0 e1 e2 e3 e4
 have R2 : Rf (set5 W2 (w.heap.size + 1) (.int .u8 n0) (.int .u8 n1) (.int .u8 n2) (.int .u8 n3) (.int .u8 n4)) (w.heap.size + 1) [(.int .u8 n0), (.int .u8 n1), (.int .u8 n2), (.int .u8 n3), (.int .u8 n4)] := ((((r2.set (o := 0) (by simp) (.int .u8 n0)).set (o := 1) (by simp) (.int .u8 n1)).set (o := 2) (by simp) (.int .u8 n2)).set (o := 3) (by simp) (.int .u8 n3)).set (o := 4) (by simp) (.int .u8 n4)
 have R1 : Rf (set5 W2 (w.heap.size + 1) (.int .u8 n0) (.int .u8 n1) (.int .u8 n2) (.int .u8 n3) (.int .u8 n4)) w.heap.size [.int .u8 0, .int .u8 0, .int .u8 0, .int .u8 0, .int .u8 0] := ((((r1'.other (o := 0) (by omega) (.int .u8 n0)).other (o := 1) (by omega) (.int .u8 n1)).other (o := 2) (by omega) (.int .u8 n2)).other (o := 3) (by omega) (.int .u8 n3)).other (o := 4) (by omega) (.int .u8 n4)
 have B2 : Below w.heap.size w (set5 W2 (w.heap.size + 1) (.int .u8 n0) (.int .u8 n1) (.int .u8 n2) (.int .u8 n3) (.int .u8 n4)) := (((((b1.trans (b2.mono (by omega))).setCell (p := ⟨w.heap.size + 1, 0, none⟩) (Nat.le_succ _) (.int .u8 n0)).setCell (p := ⟨w.heap.size + 1, 1, none⟩) (Nat.le_succ _) (.int .u8 n1)).setCell (p := ⟨w.heap.size + 1, 2, none⟩) (Nat.le_succ _) (.int .u8 n2)).setCell (p := ⟨w.heap.size + 1, 3, none⟩) (Nat.le_succ _) (.int .u8 n3)).setCell (p := ⟨w.heap.size + 1, 4, none⟩) (Nat.le_succ _) (.int .u8 n4)
 obtain ⟨W3, hW3⟩ : ∃ W, set5 W2 (w.heap.size + 1) (.int .u8 n0) (.int .u8 n1) (.int .u8 n2) (.int .u8 n3) (.int .u8 n4) = W := ⟨_, rfl⟩
 rw [hW3] at hC R2 R1 B2
 have HB : Hid (Below w.heap.size w (set5 W3 w.heap.size (.int .u8 n0) (.int .u8 n1) (.int .u8 n2) (.int .u8 n3) (.int .u8 n4))) := ((((B2.setCell (p := ⟨w.heap.size, 0, none⟩) (Nat.le_refl _) (.int .u8 n0)).setCell (p := ⟨w.heap.size, 1, none⟩) (Nat.le_refl _) (.int .u8 n1)).setCell (p := ⟨w.heap.size, 2, none⟩) (Nat.le_refl _) (.int .u8 n2)).setCell (p := ⟨w.heap.size, 3, none⟩) (Nat.le_refl _) (.int .u8 n3)).setCell (p := ⟨w.heap.size, 4, none⟩) (Nat.le_refl _) (.int .u8 n4)
 have d0 := R1.at_ 0 _ rfl
 have d1 := R1.at_ 1 _ rfl
 have d2 := R1.at_ 2 _ rfl
 have d3 := R1.at_ 3 _ rfl
 have d4 := R1.at_ 4 _ rfl
 have f0 := R1.fz 0
 have f1 := R1.fz 1
 have f2 := R1.fz 2
 have f3 := R1.fz 3
 have f4 := R1.fz 4
 have k0 := R2.at_ 0 _ rfl
 have k1 := R2.at_ 1 _ rfl
 have k2 := R2.at_ 2 _ rfl
 have k3 := R2.at_ 3 _ rfl
 have k4 := R2.at_ 4 _ rfl
 clear R1 R2 r1 r2 r1' B2 b1 b2 hW3
 go_enter Tryz.func86, Tryz.ntmps86
 go_wp2
 refine bodyPost_ret (v := .agg #[.int .u8 n0, .int .u8 n1, .int .u8 n2, .int .u8 n3, .int .u8 n4]) (by simp [results, Tryz.results86, go_sem, d0, d1, d2, d3, d4]) rfl ?_
 exact ⟨by rw [HK.out], HB.out⟩
end Go.Proofs.YtcfnkndbhpdfnaaGreatDoor
namespace Go.Proofs.YtcfnkndbhpdfnaaGreatDoor
open Go.ChangeShapes Go.WideShapes Go.ChangeAt Go.RowKit
theorem Sh.drew {w : World} {b : Nat} {l : List Ob} (h : Sh w b l) : Sh w.drew b l := by
 obtain ⟨D, h1, h2⟩ := h
 exact ⟨D, h1.drew, h2⟩
set_option maxRecDepth 20000 in
set_option maxHeartbeats 1000000 in
theorem putDone (q p b : Nat) (l : List Ob) (x : Value) (u : _) (w : World) (hq : w.cell? ⟨q, 0, none⟩ = some (.pointer (some ⟨p, 0, none⟩))) (hR : Rf w p [.map (some b), x]) (hS : Sh w b l) :
  CallsD Tryz.prog 85 #[.pointer (some ⟨q, 0, none⟩)] u w fun e u' w' => u' = u /\ (e = .returned (.tuple #[]) /\ w' = w.drew.setCell ⟨p, 1, none⟩ (.int .i64 (l.length : Int))) := by
 have hL := fun ty => hS.drew.len ty
 have d0 := hR.at_ 0 _ rfl
 have d1 := hR.at_ 1 _ rfl
 have f1 := hR.fz 1
 clear hS hR
 go_enter_d Tryz.func85, Tryz.ntmps85
 go_wp2
 go_region
 go_end0
 exact ⟨rfl, rfl⟩
theorem Rf.five {w : World} {b k : Nat} {vs : List Value} (h : Rf w b vs) (hne : b ≠ k) (v0 v1 v2 v3 v4 : Value) : Rf (set5 w k v0 v1 v2 v3 v4) b vs :=
 ((((h.other (o := 0) hne v0).other (o := 1) hne v1).other (o := 2) hne v2).other (o := 3) hne v3).other (o := 4) hne v4
theorem Rf.fiveAt {w : World} {k : Nat} {x0 x1 x2 x3 x4 : Value} (h : Rf w k [x0, x1, x2, x3, x4]) (v0 v1 v2 v3 v4 : Value) : Rf (set5 w k v0 v1 v2 v3 v4) k [v0, v1, v2, v3, v4] :=
 ((((h.set (o := 0) (by simp) v0).set (o := 1) (by simp) v1).set (o := 2) (by simp) v2).set (o := 3) (by simp) v3).set (o := 4) (by simp) v4
theorem Sh.five {w : World} {b k : Nat} {l : List Ob} (h : Sh w b l) (hne : b ≠ k) (v0 v1 v2 v3 v4 : Value) : Sh (set5 w k v0 v1 v2 v3 v4) b l :=
 ((((h.setCell (a := ⟨k, 0, none⟩) hne v0).setCell (a := ⟨k, 1, none⟩) hne v1).setCell (a := ⟨k, 2, none⟩) hne v2).setCell (a := ⟨k, 3, none⟩) hne v3).setCell (a := ⟨k, 4, none⟩) hne v4
theorem below5 {B k : Nat} {w0 w : World} (h : Below B w0 w) (hk : B <= k) (v0 v1 v2 v3 v4 : Value) : Below B w0 (set5 w k v0 v1 v2 v3 v4) :=
 ((((h.setCell (p := ⟨k, 0, none⟩) hk v0).setCell (p := ⟨k, 1, none⟩) hk v1).setCell (p := ⟨k, 2, none⟩) hk v2).setCell (p := ⟨k, 3, none⟩) hk v3).setCell (p := ⟨k, 4, none⟩) hk v4
def set3 (w : World) (b : Nat) (v0 v1 v2 : Value) : World := ((w.setCell ⟨b, 0, none⟩ v0).setCell ⟨b, 1, none⟩ v1).setCell ⟨b, 2, none⟩ v2
theorem Rf.three {w : World} {b k : Nat} {vs : List Value} (h : Rf w b vs) (hne : b ≠ k) (v0 v1 v2 : Value) : Rf (set3 w k v0 v1 v2) b vs :=
 ((h.other (o := 0) hne v0).other (o := 1) hne v1).other (o := 2) hne v2
theorem below3 {B k : Nat} {w0 w : World} (h : Below B w0 w) (hk : B <= k) (v0 v1 v2 : Value) : Below B w0 (set3 w k v0 v1 v2) :=
 ((h.setCell (p := ⟨k, 0, none⟩) hk v0).setCell (p := ⟨k, 1, none⟩) hk v1).setCell (p := ⟨k, 2, none⟩) hk v2
theorem Rf.grewM {w w' : World} {b : Nat} {vs : List Value} {row : Option Nat} (h : Rf w b vs) (hg : w.grownBy w' row) (hne : some b ≠ row) (hlt : b < w.heap.size) : Rf w' b vs :=
 ⟨fun k v hk => hg.cell (h.at_ k v hk) hne, fun k => by
  have e := hg.block b hlt hne
  have h1 := h.fz k
  unfold World.frozen? at h1 ⊢
  rw [e]; exact h1⟩
theorem Rf.drewM {w : World} {b : Nat} {vs : List Value} (h : Rf w b vs) : Rf w.drew b vs := ⟨fun k v hk => h.at_ k v hk, fun k => h.fz k⟩
theorem kv_ints (id : ByteArray) : ∃ n0 n1 n2 n3 n4 : Int, kv id = .agg #[.int .u8 n0, .int .u8 n1, .int .u8 n2, .int .u8 n3, .int .u8 n4] := ⟨_, _, _, _, _, rfl⟩
def PK (b p : Nat) (w w' : World) : Prop := ∀ k, k < w.heap.size -> k ≠ b -> k ≠ p -> w'.heap[k]? = w.heap[k]?
theorem pk_set {b p o : Nat} {w w' : World} {v : Value} (h : PK b p w w') : PK b p w (w'.drew.setCell ⟨p, o, none⟩ v) := fun k hk hb hp =>
 (Below.heap_setCell w'.drew ⟨p, o, none⟩ v k (by simpa using hp)).trans (h k hk hb hp)
set_option maxRecDepth 20000 in
set_option maxHeartbeats 2000000 in
theorem putNew (p b : Nat) (l : List Ob) (x0 x2 : ByteArray) (x1 : Int) (w : World) (hR : Rf w p [.map (some b), .int .i64 (l.length : Int)]) (hbp : b < p) (hp : p < w.heap.size) (hS : Sh w b l) (h5 : x0.size = 5) (hn : ∀ o ∈ l, o.1 ≠ x0) (hl : l.length < 200) :
  Calls Tryz.prog 52 #[.pointer (some ⟨p, 0, none⟩), .agg #[.string x0, .int .i64 x1, .string x2]] w fun e w' => e = .returned (.int .i64 0) /\ Rf w' p [.map (some b), .int .i64 ((l.length + 1 : Nat) : Int)] /\ Sh w' b (l ++ [(x0, x1, x2)]) /\ Below b w w' /\ w.heap.size <= w'.heap.size /\ PK b p w w' := by
 obtain ⟨n0, n1, n2, n3, n4, hkv⟩ := kv_ints x0
 have hKO := fun w => keyOfC x0 w h5
 rw [hkv] at hKO
 have hmf : ∀ (fn : Fn) (first cap : Array Value) (w : World), (Instr.makeFunc fn first cap).run Tryz.prog w = .ok (.func fn first cap) w := fun _ _ _ _ => rfl
 have q200 : ¬ (200 : Int) <= (l.length : Int) := by omega
 obtain ⟨WA, hWA⟩ : ∃ W, w.alloc (.cells #[.pointer (some ⟨p, 0, none⟩)] 57) = W := ⟨_, rfl⟩
 have bA : Below w.heap.size w WA := by rw [<- hWA]; exact allocBelow _ _
 have zA : WA.heap.size = w.heap.size + 1 := by rw [<- hWA]; simp
 have rqA : Rf WA w.heap.size [.pointer (some ⟨p, 0, none⟩)] := by rw [<- hWA]; exact Rf.new _ _ _
 obtain ⟨W0, hW0⟩ : ∃ W, WA.alloc (.cells #[.string x0, .int .i64 x1, .string x2] 50) = W := ⟨_, rfl⟩
 have b0 : Below WA.heap.size WA W0 := by rw [<- hW0]; exact allocBelow _ _
 have z0 : W0.heap.size = w.heap.size + 1 + 1 := by rw [<- hW0]; simp [zA]
 have ro0 : Rf W0 (w.heap.size + 1) [.string x0, .int .i64 x1, .string x2] := by rw [<- hW0, <- zA]; exact Rf.new _ _ _
 have rq0 := rqA.below (by omega) b0
 have B0 : Below w.heap.size w W0 := bA.trans (b0.mono (by omega))
 have rp0 := hR.below hp B0
 have S0 := hS.below B0
 have hb := hS.lt
 have c0 := ro0.at_ 0 _ rfl
 clear rqA b0 bA hR hS
 go_enter_defers Tryz.func52, Tryz.ntmps52
 go_wp2_with fail
 refine (hKO _).mono ?_; rintro e w1 ⟨rfl, b1⟩
 have z1 := b1.size
 have rq1 := rq0.below (by omega) b1
 have ro1 := ro0.below (by omega) b1
 have rp1 := rp0.below (by omega) b1
 have S1 := S0.below b1
 have B1 : Below w.heap.size w w1 := B0.trans (b1.mono (by omega))
 clear rq0 ro0 rp0 S0 b1 B0 c0 hW0 hWA
 obtain ⟨W1, hW1⟩ : ∃ W, w1.alloc (.cells #[.int .u8 0, .int .u8 0, .int .u8 0, .int .u8 0, .int .u8 0] 119) = W := ⟨_, rfl⟩
 have b2 : Below w1.heap.size w1 W1 := by rw [<- hW1]; exact allocBelow _ _
 have zz : W1.heap.size = w1.heap.size + 1 := by rw [<- hW1]; simp
 have rk1 : Rf W1 w1.heap.size [.int .u8 0, .int .u8 0, .int .u8 0, .int .u8 0, .int .u8 0] := by rw [<- hW1]; exact Rf.new _ _ _
 have rq2 := (rq1.below (by omega) b2).five (k := w1.heap.size) (by omega) (.int .u8 n0) (.int .u8 n1) (.int .u8 n2) (.int .u8 n3) (.int .u8 n4)
 have ro2 := (ro1.below (by omega) b2).five (k := w1.heap.size) (by omega) (.int .u8 n0) (.int .u8 n1) (.int .u8 n2) (.int .u8 n3) (.int .u8 n4)
 have rp2 := (rp1.below (by omega) b2).five (k := w1.heap.size) (by omega) (.int .u8 n0) (.int .u8 n1) (.int .u8 n2) (.int .u8 n3) (.int .u8 n4)
 have S2 := (S1.below b2).five (k := w1.heap.size) (by omega) (.int .u8 n0) (.int .u8 n1) (.int .u8 n2) (.int .u8 n3) (.int .u8 n4)
 have rk2 := rk1.fiveAt (.int .u8 n0) (.int .u8 n1) (.int .u8 n2) (.int .u8 n3) (.int .u8 n4)
 have B2 := below5 (B1.trans (b2.mono (by omega))) (show w.heap.size <= w1.heap.size by omega) (.int .u8 n0) (.int .u8 n1) (.int .u8 n2) (.int .u8 n3) (.int .u8 n4)
 have k0 := rk1.at_ 0 _ rfl
 have k1 := rk1.at_ 1 _ rfl
 have k2 := rk1.at_ 2 _ rfl
 have k3 := rk1.at_ 3 _ rfl
 have k4 := rk1.at_ 4 _ rfl
 have g0 := rk1.fz 0
 have g1 := rk1.fz 1
 have g2 := rk1.fz 2
 have g3 := rk1.fz 3
 have g4 := rk1.fz 4
 have zs : (set5 W1 w1.heap.size (.int .u8 n0) (.int .u8 n1) (.int .u8 n2) (.int .u8 n3) (.int .u8 n4)).heap.size = w1.heap.size + 1 := by unfold set5; simp [zz]
 obtain ⟨W2, hW2⟩ : ∃ W, set5 W1 w1.heap.size (.int .u8 n0) (.int .u8 n1) (.int .u8 n2) (.int .u8 n3) (.int .u8 n4) = W := ⟨_, rfl⟩
 rw [hW2] at rq2 ro2 rp2 S2 rk2 B2 zs
 unfold set5 at hW2
 clear rq1 ro1 rp1 S1 b2 B1 rk1
 have bX : Below W2.heap.size W2 (W2.alloc (.cells #[.string ⟨#[]⟩, .int .i64 0, .string ⟨#[]⟩] 50)) := allocBelow _ _
 have hlk := S2.drew.miss h5 hn
 have hlk' := (S2.below bX).drew.miss h5 hn
 rw [hkv, show obV onil = .agg #[.string ⟨#[]⟩, .int .i64 0, .string ⟨#[]⟩] from rfl] at hlk hlk'
 have rqX := rq2.below (by omega) bX
 have rpX := rp2.below (by omega) bX
 have rkX := rk2.below (by omega) bX
 have rxX : Rf (W2.alloc (.cells #[.string ⟨#[]⟩, .int .i64 0, .string ⟨#[]⟩] 50)) W2.heap.size [.string ⟨#[]⟩, .int .i64 0, .string ⟨#[]⟩] := Rf.new _ _ _
 have cq := rq2.at_ 0 _ rfl
 have cp0 := rp2.at_ 0 _ rfl
 have m0 := rk2.at_ 0 _ rfl
 have m1 := rk2.at_ 1 _ rfl
 have m2 := rk2.at_ 2 _ rfl
 have m3 := rk2.at_ 3 _ rfl
 have m4 := rk2.at_ 4 _ rfl
 have cqX := rqX.at_ 0 _ rfl
 have cp0X := rpX.at_ 0 _ rfl
 have m0X := rkX.at_ 0 _ rfl
 have m1X := rkX.at_ 1 _ rfl
 have m2X := rkX.at_ 2 _ rfl
 have m3X := rkX.at_ 3 _ rfl
 have m4X := rkX.at_ 4 _ rfl
 have x0X := rxX.at_ 0 _ rfl
 have x1X := rxX.at_ 1 _ rfl
 have x2X := rxX.at_ 2 _ rfl
 have f0X := rxX.fz 0
 have f1X := rxX.fz 1
 have f2X := rxX.fz 2
 clear rqX rpX rkX rxX bX
 have HS2 : Hid (Sh W2 b l) := S2
 have HB2 : Hid (Below w.heap.size w W2) := B2
 have Hrp2 : Hid (Rf W2 p _) := rp2
 have Hrq2 : Hid (Rf W2 w.heap.size _) := rq2
 have Hro2 : Hid (Rf W2 (w.heap.size + 1) _) := ro2
 have Hrk2 : Hid (Rf W2 w1.heap.size _) := rk2
 clear S2 B2 rp2 rq2 ro2 rk2 hKO
 go_wp2
 go_region
 all_goals
  obtain ⟨W3, hW3⟩ : ∃ W, (W2.alloc (.cells #[.string ⟨#[]⟩, .int .i64 0, .string ⟨#[]⟩] 50)).drew = W := ⟨_, rfl⟩
  rw [hW3]
  have bX : Below W2.heap.size W2 W3 := by rw [<- hW3]; exact below_drew (allocBelow _ _)
  have z3 := bX.size
  have S3 := HS2.out.below bX
  have rq3 := Hrq2.out.below (by omega) bX
  have rp3 := Hrp2.out.below (by omega) bX
  have ro3 := Hro2.out.below (by omega) bX
  have rk3 := Hrk2.out.below (by omega) bX
  have B3 : Below b w W3 := (HB2.out.mono (by omega)).trans (bX.mono (by omega))
  obtain ⟨W4, hup, S4, g4⟩ := S3.drew.put (o := (x0, x1, x2)) h5 hn (by omega)
  rw [show kv ((x0, x1, x2) : Ob).1 = _ from hkv, show obV (x0, x1, x2) = .agg #[.string x0, .int .i64 x1, .string x2] from rfl] at hup
  have R4 := rp3.drewM.grewM g4 (by simp; omega) (by show p < W3.heap.size; omega)
  have q4 := (rq3.drewM.grewM g4 (by simp; omega) (by show w.heap.size < W3.heap.size; omega)).at_ 0 _ rfl
  have PK4 : PK b p w W4 := fun j hj hjb _ => (g4.block j (by show j < W3.heap.size; omega) (fun e => hjb (by cases e; rfl))).trans ((bX.block j (by omega)).trans (HB2.out.block j hj))
  have B4 : Below b w W4 := B3.drew.grown g4 (by show b <= W3.heap.size; omega) (fun i hi => by cases hi; exact Nat.le_refl _)
  have z4 : w.heap.size <= W4.heap.size := by have := g4.size; have e : W3.drew.heap.size = W3.heap.size := rfl; omega
  have cq := rq3.at_ 0 _ rfl
  have cp0 := rp3.at_ 0 _ rfl
  have cp1 := rp3.at_ 1 _ rfl
  have m0 := rk3.at_ 0 _ rfl
  have m1 := rk3.at_ 1 _ rfl
  have m2 := rk3.at_ 2 _ rfl
  have m3 := rk3.at_ 3 _ rfl
  have m4 := rk3.at_ 4 _ rfl
  have o0 := ro3.at_ 0 _ rfl
  have o1 := ro3.at_ 1 _ rfl
  have o2 := ro3.at_ 2 _ rfl
  have HS4 : Hid (Sh W4 b _) := S4
  have HR4 : Hid (Rf W4 p _) := R4
  have HB4 : Hid (Below b w W4) := B4
  have HF : Hid (Rf (W4.drew.setCell ⟨p, 1, none⟩ (.int .i64 ((l ++ [(x0, x1, x2)]).length : Int))) p [.map (some b), .int .i64 ((l.length + 1 : Nat) : Int)] /\ Sh (W4.drew.setCell ⟨p, 1, none⟩ (.int .i64 ((l ++ [(x0, x1, x2)]).length : Int))) b (l ++ [(x0, x1, x2)]) /\ Below b w (W4.drew.setCell ⟨p, 1, none⟩ (.int .i64 ((l ++ [(x0, x1, x2)]).length : Int))) /\ w.heap.size <= (W4.drew.setCell ⟨p, 1, none⟩ (.int .i64 ((l ++ [(x0, x1, x2)]).length : Int))).heap.size /\ PK b p w (W4.drew.setCell ⟨p, 1, none⟩ (.int .i64 ((l ++ [(x0, x1, x2)]).length : Int)))) := by
   refine ⟨?_, S4.drew.setCell (a := ⟨p, 1, none⟩) (by show b ≠ p; omega) _, B4.drew.setCell (p := ⟨p, 1, none⟩) (by show b <= p; omega) _, ?_, pk_set PK4⟩
   ·have h := R4.drewM.set (o := 1) (by simp) (.int .i64 ((l ++ [(x0, x1, x2)]).length : Int))
    rw [show (l ++ [(x0, x1, x2)]).length = l.length + 1 by simp] at h ⊢
    exact h
   ·simpa using z4
  clear S3 rq3 rp3 ro3 rk3 B3 bX S4 R4 B4 PK4 g4 hW3 HS2 HB2 Hrp2 Hrq2 Hro2 Hrk2 hW2 hW1 hlk hlk'
  go_wp2
  go_region
  go_wp2
  refine leaves_cons (f := 85) (args := #[.pointer (some ⟨w.heap.size, 0, none⟩)]) (by simp) (by simp [go_sem]) ?_
  refine (putDone w.heap.size p b (l ++ [(x0, x1, x2)]) _ .returning W4 q4 HR4.out HS4.out).mono ?_
  rintro e u' w'' ⟨rfl, rfl, rfl⟩
  exact ⟨_, results_tmp rfl _ _ _, rfl, HF.out.1, HF.out.2.1, HF.out.2.2.1, HF.out.2.2.2.1, HF.out.2.2.2.2⟩
end Go.Proofs.YtcfnkndbhpdfnaaGreatDoor
namespace Go.Proofs.YtcfnkndbhpdfnaaGreatDoor
open Go.ChangeShapes Go.WideShapes Go.ChangeAt Go.RowKit
theorem bl_irr : ∀ a : List UInt8, Op.bytesLess a a = false
 | [] => rfl
 | x :: a => by
  have := bl_irr a
  simp [Op.bytesLess, this]
theorem bl_trans : ∀ a b c : List UInt8, Op.bytesLess a b = true -> Op.bytesLess b c = true -> Op.bytesLess a c = true
 | _, [], _, h, _ => by simp [Op.bytesLess] at h
 | _, _ :: _, [], _, h => by simp [Op.bytesLess] at h
 | [], _ :: _, _ :: _, _, _ => rfl
 | x :: a, y :: b, z :: c, h, k => by
  simp only [Op.bytesLess, Bool.or_eq_true, Bool.and_eq_true, decide_eq_true_eq, beq_iff_eq] at h k ⊢
  rcases h with h | ⟨rfl, h⟩
  ·rcases k with k | ⟨rfl, k⟩
   ·exact .inl (UInt8.lt_trans h k)
   ·exact .inl h
  ·rcases k with k | ⟨rfl, k⟩
   ·exact .inl k
   ·exact .inr ⟨rfl, bl_trans a b c h k⟩
theorem bl_total : ∀ a b : List UInt8, Op.bytesLess a b = true \/ a = b \/ Op.bytesLess b a = true
 | [], [] => .inr (.inl rfl)
 | [], _ :: _ => .inl rfl
 | _ :: _, [] => .inr (.inr rfl)
 | x :: a, y :: b => by
  simp only [Op.bytesLess, Bool.or_eq_true, Bool.and_eq_true, decide_eq_true_eq, beq_iff_eq]
  by_cases h1 : x < y
  ·exact .inl (.inl h1)
  ·by_cases h2 : y < x
   ·exact .inr (.inr (.inl h2))
   ·have e : x = y := by
     apply UInt8.toNat_inj.1
     have a1 : ¬ x.toNat < y.toNat := h1
     have a2 : ¬ y.toNat < x.toNat := h2
     omega
    subst e
    rcases bl_total a b with h | h | h
    ·exact .inl (.inr ⟨rfl, h⟩)
    ·exact .inr (.inl (by rw [h]))
    ·exact .inr (.inr (.inr ⟨rfl, h⟩))
theorem sf_size {l : List Ob} (h : sf l = 0) (k : Nat) (hk : k < l.length) : (l.getD k onil).1.size = 5 := by
 have h0 := (sf_zero h).2 k hk
 unfold obF at h0
 split at h0
 ·rename_i e
  split at h0
  ·rename_i e2
   rw [<- e2]
   unfold idK at e
   unfold idT
   split at e
   ·rename_i e3
    rw [if_pos e3, if_pos e]
    rfl
   ·omega
  ·omega
 ·rename_i e; exact absurd h0 e
theorem sf_step {l : List Ob} (h : sf l = 0) (k : Nat) (hk : k + 1 < l.length) : Op.bytesLess (l.getD k onil).1.toList (l.getD (k + 1) onil).1.toList = true := by
 have h0 := (sf_zero h).2 (k + 1) hk
 unfold obF at h0
 split at h0
 ·split at h0
  ·split at h0
   ·omega
   ·rename_i e
    have e' : ¬ leS (l.getD (k + 1) onil).1 (l.getD k onil).1 = true := fun e2 => e ⟨by omega, e2⟩
    unfold leS at e'
    rcases bl_total (l.getD k onil).1.toList (l.getD (k + 1) onil).1.toList with a | a | a
    ·exact a
    ·rw [a] at e'; simp at e'
    ·rw [a] at e'; simp at e'
  ·omega
 ·rename_i e; exact absurd h0 e
theorem sf_less {l : List Ob} (h : sf l = 0) (j : Nat) : ∀ k, j < k -> k < l.length -> Op.bytesLess (l.getD j onil).1.toList (l.getD k onil).1.toList = true := by
 intro k
 induction k with
 | zero => intro h1; omega
 | succ k ih =>
  intro h1 h2
  have hs := sf_step h k h2
  by_cases e : j = k
  ·rw [e]; exact hs
  ·exact bl_trans _ _ _ (ih (by omega) (by omega)) hs
theorem sf_new {l : List Ob} (h : sf l = 0) (k : Nat) (hk : k < l.length) : ∀ o ∈ l.take k, o.1 ≠ (l.getD k onil).1 := by
 intro o ho e
 obtain ⟨j, hj, rfl⟩ := List.mem_iff_getElem.1 ho
 rw [List.length_take] at hj
 have := sf_less h j k (by omega) hk
 rw [List.getElem_take, show l[j] = l.getD j onil by rw [List.getD, List.getElem?_eq_getElem (by omega)]; rfl] at e
 rw [e, bl_irr] at this
 cases this
set_option maxRecDepth 20000 in
set_option maxHeartbeats 2000000 in
theorem shelfOfC (a : Option Addr) (c : Nat) (l : List Ob) (w : World) (h : OB w.heap.size w a l) (hf : sf l = 0) :
  Calls Tryz.prog 26 #[.slice a l.length c] w fun e w' => e = .returned (.pointer (some ⟨w.heap.size + 1, 0, none⟩)) /\ Rf w' (w.heap.size + 1) [.map (some w.heap.size), .int .i64 (l.length : Int)] /\ Sh w' w.heap.size l /\ Below w.heap.size w w' /\ w.heap.size + 1 < w'.heap.size := by
 have hmm := @run_makeMap Tryz.prog
 have hlen := (sf_zero hf).1
 obtain ⟨WA, hWA⟩ : ∃ W, w.alloc (.map #[] 0) = W := ⟨_, rfl⟩
 have bA : Below w.heap.size w WA := by rw [<- hWA]; exact allocBelow _ _
 have zA : WA.heap.size = w.heap.size + 1 := by rw [<- hWA]; simp
 have SA : Sh WA w.heap.size [] := by rw [<- hWA]; exact Sh.new w
 obtain ⟨W0, hW0⟩ : ∃ W, WA.alloc (.cells #[.map (some w.heap.size), .int .i64 0] 91) = W := ⟨_, rfl⟩
 have b0 : Below WA.heap.size WA W0 := by rw [<- hW0]; exact allocBelow _ _
 have z0 : W0.heap.size = w.heap.size + 1 + 1 := by rw [<- hW0]; simp [zA]
 have R0 : Rf W0 (w.heap.size + 1) [.map (some w.heap.size), .int .i64 0] := by rw [<- hW0, <- zA]; exact Rf.new _ _ _
 have S0 := SA.below b0
 have B0 : Below w.heap.size w W0 := bA.trans (b0.mono (by omega))
 clear SA b0 bA
 go_enter Tryz.func26, Tryz.ntmps26
 go_wp2
 go_loopw [5, 11] (fun _o i wr => ∃ k : Nat, k <= l.length /\ i = .int .i64 k /\ Rf wr (w.heap.size + 1) [.map (some w.heap.size), .int .i64 (k : Int)] /\ Sh wr w.heap.size (l.take k) /\ Below w.heap.size w wr /\ w.heap.size + 1 < wr.heap.size) (fun _ i _ => l.length - (intOf i).toNat)
 case atStart => exact ⟨0, Nat.zero_le _, rfl, R0, S0, B0, by omega⟩
 case round =>
  obtain ⟨k, hk, rfl, hR, hS, hB, hz⟩ := hrel
  by_cases hlt : k < l.length
  ·have q : (k : Int) < (l.length : Int) := by omega
   obtain ⟨g, off, e, hg, d0, d1, d2⟩ := h k hlt
   subst e
   have d0 := (hB.cell (p := ⟨g, off + k * 3, none⟩) hg).trans d0
   have d1 := (hB.cell (p := ⟨g, off + k * 3 + 1, none⟩) hg).trans d1
   have d2 := (hB.cell (p := ⟨g, off + k * 3 + 2, none⟩) hg).trans d2
   have h5 := sf_size hf k hlt
   have hn := sf_new hf k hlt
   have hT := ob_take l k hlt
   have hlk : (l.take k).length = k := by rw [List.length_take]; omega
   obtain ⟨C, hCe⟩ : ∃ C, l.getD k onil = C := ⟨_, rfl⟩
   obtain ⟨x0, x1, x2⟩ := C
   rw [hCe] at d0 d1 d2 h5 hn hT
   simp only [] at d0 d1 d2 h5 hn
   obtain ⟨W3, hW3⟩ : ∃ W, wr.alloc (.cells #[.string x0, .int .i64 x1, .string x2] 50) = W := ⟨_, rfl⟩
   have b3 : Below wr.heap.size wr W3 := by rw [<- hW3]; exact allocBelow _ _
   have o3 : Rs W3 wr.heap.size [.string x0, .int .i64 x1, .string x2] := by rw [<- hW3]; exact Rs.new _ _ _
   have m0 := o3 0 _ rfl
   have m1 := o3 1 _ rfl
   have m2 := o3 2 _ rfl
   have z3 := b3.size
   have R3 := hR.below hz b3
   have S3 := hS.below b3
   have B3 : Below w.heap.size w W3 := hB.trans (b3.mono (by omega))
   have hP := putNew (w.heap.size + 1) w.heap.size (l.take k) x0 x2 x1 W3 (by rw [hlk]; exact R3) (by omega) (by omega) S3 h5 hn (by omega)
   rw [hlk, <- hT] at hP
   clear hT hn h5 R3 S3 hR hS hB b3 o3 hCe
   go_wp2_with fail
   refine hP.mono ?_; rintro e w4 ⟨rfl, R4, S4, b4, z4, -⟩
   have B4 : Below w.heap.size w w4 := B3.trans b4
   have HR4 : Hid (Rf w4 _ _) := R4
   have HS4 : Hid (Sh w4 _ _) := S4
   have HB4 : Hid (Below _ w w4) := B4
   clear R4 S4 B4 B3 b4 hP
   go_wp2
   go_roundw
   case rel => exact ⟨k + 1, by omega, by first | rfl | go_num, HR4.out, HS4.out, HB4.out, by omega⟩
   case measure => first | (simp [intOf]; omega) | simp [intOf]
  ·have q : ¬ (k : Int) < (l.length : Int) := by omega
   have e : k = l.length := by omega
   subst e
   rw [List.take_of_length_le (by omega)] at hS
   have HR4 : Hid (Rf wr _ _) := hR
   have HS4 : Hid (Sh wr _ _) := hS
   have HB4 : Hid (Below _ w wr) := hB
   clear hR hS hB
   go_wp2
   go_ret
   exact ⟨rfl, HR4.out, HS4.out, HB4.out, hz⟩
end Go.Proofs.YtcfnkndbhpdfnaaGreatDoor
namespace Go.Proofs.YtcfnkndbhpdfnaaGreatDoor
open Go.ChangeShapes Go.WideShapes Go.ChangeAt Go.RowKit
theorem hexN_is (n : Nat) (h : n < 16) : isHex (hexN n) = true := by
 have key : ∀ m : Fin 16, isHex (hexN m.val) = true := by decide +kernel
 exact key ⟨n, h⟩
theorem letN_is (k : Int) : isLet (letN k) = true := by
 unfold letN
 split
 ·decide
 ·split <;> decide
theorem idB_idN (k : Int) (s : ByteArray) : idB (idN k s).data.toList = true := by
 unfold idN
 simp only [hexs, idB, letN_is, Bool.true_and]
 simp [hexN_is _ (Nat.mod_lt _ (by decide : 16 > 0))]
theorem sf_id {l : List Ob} (h : sf l = 0) (k : Nat) (hk : k < l.length) : idB (l.getD k onil).1.data.toList = true := by
 have h0 := (sf_zero h).2 k hk
 unfold obF at h0
 split at h0
 ·rename_i e
  split at h0
  ·rename_i e2
   rw [<- e2]
   unfold idK at e
   unfold idT
   split at e
   ·rename_i e3
    rw [if_pos e3, if_pos e]
    exact idB_idN _ _
   ·omega
  ·omega
 ·rename_i e; exact absurd h0 e
theorem fz_out {l : List Ob} {id : ByteArray} (h : fz l id = -1) : ∀ o ∈ l, o.1 ≠ id := by
 intro o ho e
 have : fnd l id < l.length := List.findIdx_lt_length_of_exists ⟨o, ho, by simp [e]⟩
 unfold fz at h
 rw [if_pos this] at h
 omega
theorem idB_size {id : ByteArray} (h : idB id.data.toList = true) : id.size = 5 := by
 by_cases e : id.data.toList.length = 5
 ·simpa using e
 ·rw [idB_len e] at h; cases h
theorem gt_noid {l : List Ob} {k : Int} {id : ByteArray} (hf : sf l = 0) (h : idB id.data.toList = false) : gt l k id = none := by
 rcases fz_cases l id with e | ⟨j, e, hj, e2⟩
 ·exact gt_less e
 ·have := sf_id hf j hj
  rw [e2, h] at this; cases this
set_option maxRecDepth 20000 in
set_option maxHeartbeats 1000000 in
theorem cloneObjectC (x0 x2 : ByteArray) (x1 : Int) (w : World) (h0 : x0.size <= 1048576) (h2 : x2.size <= 1048576) :
  Calls Tryz.prog 95 #[.agg #[.string x0, .int .i64 x1, .string x2]] w fun e w' => e = .returned (.agg #[.string x0, .int .i64 x1, .string x2]) /\ Below w.heap.size w w' := by
 obtain ⟨WA, hWA⟩ : ∃ W, w.alloc (.cells #[.string x0, .int .i64 x1, .string x2] 50) = W := ⟨_, rfl⟩
 have bA : Below w.heap.size w WA := by rw [<- hWA]; exact allocBelow _ _
 have zA : WA.heap.size = w.heap.size + 1 := by rw [<- hWA]; simp
 have rA : Rf WA w.heap.size [.string x0, .int .i64 x1, .string x2] := by rw [<- hWA]; exact Rf.new _ _ _
 obtain ⟨W0, hW0⟩ : ∃ W, WA.alloc (.cells #[.string ⟨#[]⟩, .int .i64 0, .string ⟨#[]⟩] 50) = W := ⟨_, rfl⟩
 have b0 : Below WA.heap.size WA W0 := by rw [<- hW0]; exact allocBelow _ _
 have z0 : W0.heap.size = w.heap.size + 1 + 1 := by rw [<- hW0]; simp [zA]
 have R0 : Rf W0 (w.heap.size + 1) [.string ⟨#[]⟩, .int .i64 0, .string ⟨#[]⟩] := by rw [<- hW0, <- zA]; exact Rf.new _ _ _
 have r0 := rA.below (by omega) b0
 have B0 : Below w.heap.size w W0 := bA.trans (b0.mono (by omega))
 have hc0 := fun w => cloneS x0 w (by omega)
 have hc2 := fun w => cloneS x2 w (by omega)
 have c0 := r0.at_ 0 _ rfl
 have c1 := r0.at_ 1 _ rfl
 have c2 := r0.at_ 2 _ rfl
 clear rA bA b0
 go_enter Tryz.func95, Tryz.ntmps95
 go_wp2
 go_region_held (fun w' => w'.cell? ⟨w.heap.size, 0, none⟩ = some (.string x0) /\ w'.cell? ⟨w.heap.size, 2, none⟩ = some (.string x2)) (first | with_reducible exact ⟨u0, u2⟩ | with_reducible exact ⟨v0, v2⟩ | with_reducible exact ⟨t0, t2⟩ | with_reducible exact ⟨s0, s2⟩ | exact ⟨c0, c2⟩)
  (first
   | (go_at_call 113; have gd := r1; clear gd; refine (hc2 _).mono ?_; rintro e w2 ⟨rfl, b2⟩; have r2 := Rf.below r1 (by omega) b2; have t0 := r2.at_ 0 _ rfl; have t1 := r2.at_ 1 _ rfl; have t2 := r2.at_ 2 _ rfl; have g0 := r2.fz 0; have g2 := r2.fz 2; have r3 := Rf.set r2 (o := 0) (by simp) (.string x0); have v0 := r3.at_ 0 _ rfl; have v2 := r3.at_ 2 _ rfl; have r4 := Rf.set r3 (o := 2) (by simp) (.string x2); have u0 := r4.at_ 0 _ rfl; have u1 := r4.at_ 1 _ rfl; have u2 := r4.at_ 2 _ rfl)
   | (go_at_call 113; refine (hc0 _).mono ?_; rintro e w1 ⟨rfl, b1⟩; have y1 : W0.heap.size <= w1.heap.size := b1.size; have r1 := Rf.below (Rf.drewM r0) (by show w.heap.size < W0.heap.size; omega) b1; have s0 := r1.at_ 0 _ rfl; have s1 := r1.at_ 1 _ rfl; have s2 := r1.at_ 2 _ rfl))
 obtain ⟨W5, hW5⟩ : ∃ W, (w2.setCell ⟨w.heap.size, 0, none⟩ (.string x0)).setCell ⟨w.heap.size, 2, none⟩ (.string x2) = W := ⟨_, rfl⟩
 have R1 := Rf.below (Rf.drewM R0) (by show w.heap.size + 1 < W0.heap.size; omega) b1
 have R2 := Rf.below R1 (by omega) b2
 have R4 := Rf.other (o := 2) (Rf.other (o := 0) R2 (show w.heap.size + 1 ≠ w.heap.size by omega) (.string x0)) (show w.heap.size + 1 ≠ w.heap.size by omega) (.string x2)
 have B1 : Below w.heap.size w w1 := B0.drew.trans (b1.mono (by show w.heap.size <= W0.heap.size; omega))
 have B2 : Below w.heap.size w w2 := B1.trans (b2.mono (by omega))
 have B4 := (B2.setCell (p := ⟨w.heap.size, 0, none⟩) (Nat.le_refl _) (.string x0)).setCell (p := ⟨w.heap.size, 2, none⟩) (Nat.le_refl _) (.string x2)
 rw [hW5] at u0 u1 u2 R4 B4 ⊢
 have HB := fun v0 v1 v2 => below3 B4 (show w.heap.size <= w.heap.size + 1 by omega) v0 v1 v2
 have d0 := R4.at_ 0 _ rfl
 have d1 := R4.at_ 1 _ rfl
 have d2 := R4.at_ 2 _ rfl
 have f0 := R4.fz 0
 have f1 := R4.fz 1
 have f2 := R4.fz 2
 have HB' : Hid (Below w.heap.size w (set3 W5 (w.heap.size + 1) (.string x0) (.int .i64 x1) (.string x2))) := HB _ _ _
 clear R1 R2 R4 B1 B2 B4 HB hW5 r1 r2 r3 r4 b1 b2 R0 r0 B0 hc0 hc2 s0 s1 s2 t0 t1 t2 v0 v2 c0 c1 c2 hW0 hWA
 go_wp2
 refine bodyPost_ret (v := .agg #[.string x0, .int .i64 x1, .string x2]) (by simp [results, Tryz.results95, go_sem, d0, d1, d2]) rfl ?_
 exact ⟨rfl, HB'.out⟩
end Go.Proofs.YtcfnkndbhpdfnaaGreatDoor
namespace Go.Proofs.YtcfnkndbhpdfnaaGreatDoor
open Go.ChangeShapes Go.WideShapes Go.ChangeAt Go.RowKit
set_option maxRecDepth 20000 in
set_option maxHeartbeats 2000000 in
theorem findNo (p : Nat) (kd : Int) (id : ByteArray) (w : World) (hid : idB id.data.toList = false) :
  Calls Tryz.prog 53 #[.pointer (some ⟨p, 0, none⟩), .int .i64 kd, .string id] w fun e w' => e = .returned (.tuple #[.agg #[.string ⟨#[]⟩, .int .i64 0, .string ⟨#[]⟩], .bool false]) /\ Below w.heap.size w w' := by
 have hI := fun w => implIsId id w
 rw [hid] at hI
 obtain ⟨W0, hW0⟩ : ∃ W, w.alloc (.cells #[.string ⟨#[]⟩, .int .i64 0, .string ⟨#[]⟩] 50) = W := ⟨_, rfl⟩
 have b0 : Below w.heap.size w W0 := by rw [<- hW0]; exact allocBelow _ _
 have R0 : Rf W0 w.heap.size [.string ⟨#[]⟩, .int .i64 0, .string ⟨#[]⟩] := by rw [<- hW0]; exact Rf.new _ _ _
 have d0 := R0.at_ 0 _ rfl
 have d1 := R0.at_ 1 _ rfl
 have d2 := R0.at_ 2 _ rfl
 have f0 := R0.fz 0
 have f1 := R0.fz 1
 have f2 := R0.fz 2
 have HB : Hid (Below w.heap.size w (set3 W0 w.heap.size (.string ⟨#[]⟩) (.int .i64 0) (.string ⟨#[]⟩))) := below3 b0 (Nat.le_refl _) _ _ _
 clear R0 b0
 go_enter Tryz.func53, Tryz.ntmps53
 go_wp2_with fail
 refine (hI _).mono ?_; rintro e w2 ⟨rfl, rfl⟩
 go_wp2
 refine bodyPost_ret (v := .tuple #[.agg #[.string ⟨#[]⟩, .int .i64 0, .string ⟨#[]⟩], .bool false]) (by simp [results, Tryz.results53, go_sem, d0, d1, d2]) rfl ?_
 exact ⟨rfl, HB.out⟩
theorem threeKeep {u : World} {p b o : Nat} {v0 v1 v2 x : Value} (hc : u.cell? ⟨b, o, none⟩ = some x) (h : b < p) : (((u.setCell ⟨p, 0, none⟩ v0).setCell ⟨p, 1, none⟩ v1).setCell ⟨p, 2, none⟩ v2).cell? ⟨b, o, none⟩ = some x := by
 rw [World.cell?_setCell_other _ _ _ _ (by intro c; simp only [Addr.mk.injEq] at c; omega), World.cell?_setCell_other _ _ _ _ (by intro c; simp only [Addr.mk.injEq] at c; omega), World.cell?_setCell_other _ _ _ _ (by intro c; simp only [Addr.mk.injEq] at c; omega)]
 exact hc
def FindMid (w : World) (ok : Bool) (v0 v2 : ByteArray) (v1 : Int) (s v : Value) (wx : World) : Prop := ∃ q : Nat, s = .pointer (some ⟨q, 0, none⟩) /\ v = .bool ok /\ w.heap.size < q /\ q < wx.heap.size /\ Rf wx q [.string v0, .int .i64 v1, .string v2] /\ Rf wx w.heap.size [.string ⟨#[]⟩, .int .i64 0, .string ⟨#[]⟩] /\ Below w.heap.size w wx
theorem FindMid.new {w w2 w3 : World} {ok : Bool} {v0 v2 : ByteArray} {v1 : Int} {t : TypeId} (z : w2.heap.size = w.heap.size + 1) (B : Below w.heap.size w w2) (b4 : Below w2.heap.size w2 w3) (R : Rf w2 w.heap.size [.string ⟨#[]⟩, .int .i64 0, .string ⟨#[]⟩]) :
  FindMid w ok v0 v2 v1 (.pointer (some ⟨w3.heap.size, 0, none⟩)) (.bool ok) (w3.alloc (.cells #[.string v0, .int .i64 v1, .string v2] t)) := by
 have := b4.size
 exact ⟨_, rfl, rfl, by omega, by simp, Rf.new _ _ _, (R.below (by omega) b4).below (by omega) (allocBelow _ _), (B.trans (b4.mono (by omega))).trans ((allocBelow _ _).mono (by omega))⟩
theorem FindMid.sets {w w2 w3 : World} {ok : Bool} {v0 v2 : ByteArray} {v1 : Int} (z : w2.heap.size = w.heap.size + 1) (B : Below w.heap.size w w2) (b4 : Below w2.heap.size w2 w3) (hz : w2.heap.size < w3.heap.size) (R : Rf w2 w.heap.size [.string ⟨#[]⟩, .int .i64 0, .string ⟨#[]⟩]) (y : Rf w3 w2.heap.size [.string ⟨#[]⟩, .int .i64 0, .string ⟨#[]⟩]) :
  FindMid w ok v0 v2 v1 (.pointer (some ⟨w2.heap.size, 0, none⟩)) (.bool ok) (((w3.setCell ⟨w2.heap.size, 0, none⟩ (.string v0)).setCell ⟨w2.heap.size, 1, none⟩ (.int .i64 v1)).setCell ⟨w2.heap.size, 2, none⟩ (.string v2)) := by
 refine ⟨_, rfl, rfl, by omega, by simpa using hz, ?_, (R.below (by omega) b4).three (k := w2.heap.size) (by omega) _ _ _, below3 (B.trans (b4.mono (by omega))) (by omega) _ _ _⟩
 exact ((y.set (o := 0) (by simp) (.string v0)).set (o := 1) (by simp) (.int .i64 v1)).set (o := 2) (by simp) (.string v2)
theorem newObj {w2 w3 : World} {t : TypeId} (b : Below ((w2.alloc (.cells #[.string ⟨#[]⟩, .int .i64 0, .string ⟨#[]⟩] t)).drew).heap.size ((w2.alloc (.cells #[.string ⟨#[]⟩, .int .i64 0, .string ⟨#[]⟩] t)).drew) w3) :
  Rf w3 w2.heap.size [.string ⟨#[]⟩, .int .i64 0, .string ⟨#[]⟩] /\ Below w2.heap.size w2 w3 /\ w2.heap.size < w3.heap.size := by
 have e : ((w2.alloc (.cells #[.string ⟨#[]⟩, .int .i64 0, .string ⟨#[]⟩] t)).drew).heap.size = w2.heap.size + 1 := by show (w2.alloc _).heap.size = _; simp
 have h := b.size
 exact ⟨(Rf.new w2 #[.string ⟨#[]⟩, .int .i64 0, .string ⟨#[]⟩] t).drewM.below (by rw [e]; omega) b, (below_drew (allocBelow _ _)).trans (b.mono (by omega)), by omega⟩
set_option maxRecDepth 20000 in
set_option maxHeartbeats 2000000 in
theorem findId (p b : Nat) (l : List Ob) (x v0 v2 : _) (v1 : Int) (ok B : Bool) (r0 r2 : ByteArray) (r1 : Int) (kd : Int) (id : ByteArray) (w : World) (hid : idB id.data.toList = true) (hR : Rf w p [.map (some b), x]) (hp : p < w.heap.size) (hS : Sh w b l)
  (hlk : ∀ w, Sh w b l -> (Instr.lookup 89 (.map (some b)) (kv id) true).run Tryz.prog w = .ok (.tuple #[.agg #[.string v0, .int .i64 v1, .string v2], .bool ok]) w)
  (hyes : ok = true -> v1 = kd -> B = true /\ r0 = v0 /\ r1 = v1 /\ r2 = v2) (hno : ok = false \/ ¬ v1 = kd -> B = false /\ r0 = ⟨#[]⟩ /\ r1 = 0 /\ r2 = ⟨#[]⟩) :
  Calls Tryz.prog 53 #[.pointer (some ⟨p, 0, none⟩), .int .i64 kd, .string id] w fun e w' => e = .returned (.tuple #[.agg #[.string r0, .int .i64 r1, .string r2], .bool B]) /\ Below w.heap.size w w' := by
 have hI := fun w => implIsId id w
 rw [hid] at hI
 obtain ⟨n0, n1, n2, n3, n4, hkv⟩ := kv_ints id
 have hKO := fun w => keyOfC id w (idB_size hid)
 rw [hkv] at hKO hlk
 obtain ⟨W0, hW0⟩ : ∃ W, w.alloc (.cells #[.string ⟨#[]⟩, .int .i64 0, .string ⟨#[]⟩] 50) = W := ⟨_, rfl⟩
 have b0 : Below w.heap.size w W0 := by rw [<- hW0]; exact allocBelow _ _
 have z0 : W0.heap.size = w.heap.size + 1 := by rw [<- hW0]; simp
 have R0 : Rf W0 w.heap.size [.string ⟨#[]⟩, .int .i64 0, .string ⟨#[]⟩] := by rw [<- hW0]; exact Rf.new _ _ _
 have S0 := hS.below b0
 have p0 := hR.below hp b0
 have c0 := p0.at_ 0 _ rfl
 have HZ0 : Hid (W0.heap.size = w.heap.size + 1) := z0
 have hp2 : p < W0.heap.size := by omega
 clear hR hS z0
 go_enter Tryz.func53, Tryz.ntmps53
 go_wp2_with fail
 refine (hI _).mono ?_; rintro e w2 ⟨rfl, rfl⟩
 clear hI hW0
 go_wp2
 go_cut [8, 9] from 14 to 23 (fun s v wx => FindMid w ok v0 v2 v1 s v wx)
 case first =>
  go_region_held (fun w' => w'.cell? ⟨p, 0, none⟩ = some (.map (some b))) (first | with_reducible exact t0 | exact c0 | exact zcell (allocBelow _ _) c0 | exact zcell (allocBelow _ _) t0 | (have q3 := b4.size; with_reducible refine threeKeep t0 ?_ <;> omega) | (have q3 := b4.size; with_reducible refine threeKeep (zcell (allocBelow _ _) t0) ?_ <;> omega) | (go_keep; done))
   (first | (go_at_call 86; refine (hKO _).mono ?_; rintro e w3 ⟨rfl, b3⟩; (first | (obtain ⟨y3, b4, z4⟩ := newObj b3; have d0 := y3.at_ 0 _ rfl; have d1 := y3.at_ 1 _ rfl; have d2 := y3.at_ 2 _ rfl; have f0 := y3.fz 0; have f1 := y3.fz 1; have f2 := y3.fz 2) | (have b4 : Below w2.heap.size w2 w3 := (below_drew (Below.refl _ _)).trans b3)); have t0 := zcell b4 c0; have S3 := Sh.below S0 b4; have L0 := hlk _ S3; have L1 := fun o => hlk _ (Sh.below S3 (allocBelow w3 o))))
  all_goals
   clear L0 L1 S3 t0 c0 hlk hKO hyes hno S0 p0
   go_wp2_with fail
   go_meet
   first | exact FindMid.new HZ0.out b0 b4 R0 | exact FindMid.sets HZ0.out b0 b4 z4 R0 y3
 case rest =>
  obtain ⟨q, rfl, rfl, hq1, hq2, hQ, hR, hB⟩ := hcut
  have d0 := hR.at_ 0 _ rfl
  have d1 := hR.at_ 1 _ rfl
  have d2 := hR.at_ 2 _ rfl
  have f0 := hR.fz 0
  have f1 := hR.fz 1
  have f2 := hR.fz 2
  have k0 := hQ.at_ 0 _ rfl
  have k1 := hQ.at_ 1 _ rfl
  have k2 := hQ.at_ 2 _ rfl
  have HB : ∀ a0 a1 a2, Hid (Below w.heap.size w (((wc.setCell ⟨w.heap.size, 0, none⟩ a0).setCell ⟨w.heap.size, 1, none⟩ a1).setCell ⟨w.heap.size, 2, none⟩ a2)) := fun a0 a1 a2 => below3 hB (Nat.le_refl _) _ _ _
  clear hR hQ hB hlk hKO S0 p0 R0 b0 c0
  cases ok with
  | false =>
   have hx := hno (.inl rfl)
   clear hno hyes
   obtain ⟨rfl, rfl, rfl, rfl⟩ := hx
   go_wp2
   refine bodyPost_ret (v := .tuple #[.agg #[.string ⟨#[]⟩, .int .i64 0, .string ⟨#[]⟩], .bool false]) (by simp [results, Tryz.results53, go_sem, d0, d1, d2]) rfl ?_
   exact ⟨rfl, (HB _ _ _).out⟩
  | true =>
   by_cases hk : v1 = kd
   ·have hx := hyes rfl hk
    clear hno hyes
    obtain ⟨rfl, rfl, rfl, rfl⟩ := hx
    have qk : (r1 != kd) = false := by simp [hk]
    clear hk
    go_wp2
    refine bodyPost_ret (v := .tuple #[.agg #[.string r0, .int .i64 r1, .string r2], .bool true]) (by simp [results, Tryz.results53, go_sem, d0, d1, d2]) rfl ?_
    exact ⟨rfl, (HB _ _ _).out⟩
   ·have hx := hno (.inr hk)
    clear hno hyes
    obtain ⟨rfl, rfl, rfl, rfl⟩ := hx
    have qk : (v1 == kd) = false := by simp [hk]
    have qk2 : (v1 != kd) = true := by simp [hk]
    clear hk
    go_wp2
    refine bodyPost_ret (v := .tuple #[.agg #[.string ⟨#[]⟩, .int .i64 0, .string ⟨#[]⟩], .bool false]) (by simp [results, Tryz.results53, go_sem, d0, d1, d2]) rfl ?_
    exact ⟨rfl, (HB _ _ _).out⟩
end Go.Proofs.YtcfnkndbhpdfnaaGreatDoor
namespace Go.Proofs.YtcfnkndbhpdfnaaGreatDoor
open Go.ChangeShapes Go.WideShapes Go.ChangeAt Go.RowKit
def fo (l : List Ob) (kd : Int) (id : ByteArray) : Ob := match gt l kd id with
 | some D => (id, kd, D)
 | none => onil
theorem findC (p b : Nat) (l : List Ob) (x : Value) (kd : Int) (id : ByteArray) (w : World) (hf : sf l = 0) (hR : Rf w p [.map (some b), x]) (hp : p < w.heap.size) (hS : Sh w b l) :
  Calls Tryz.prog 53 #[.pointer (some ⟨p, 0, none⟩), .int .i64 kd, .string id] w fun e w' => e = .returned (.tuple #[.agg #[.string (fo l kd id).1, .int .i64 (fo l kd id).2.1, .string (fo l kd id).2.2], .bool (gt l kd id).isSome]) /\ Below w.heap.size w w' := by
 cases hid : idB id.data.toList with
 | false =>
  have hg := gt_noid (k := kd) hf hid
  unfold fo
  rw [hg]
  exact findNo p kd id w hid
 | true =>
  rcases fz_cases l id with e | ⟨k, e, hk, e2⟩
  ·have hg := gt_less (k := kd) e
   unfold fo
   rw [hg]
   exact findId p b l x ⟨#[]⟩ ⟨#[]⟩ 0 false false ⟨#[]⟩ ⟨#[]⟩ 0 kd id w hid hR hp hS (fun w h => h.miss (idB_size hid) (fz_out e)) (fun h => by cases h) (fun _ => ⟨rfl, rfl, rfl, rfl⟩)
  ·obtain ⟨o, ho⟩ : ∃ o, l.getD k onil = o := ⟨_, rfl⟩
   have hm := ob_mem l k hk
   have hy := fun h => gt_yes (l := l) (k := kd) e h
   have hn := fun h => gt_no (l := l) (k := kd) e h
   rw [ho] at e2 hm hy hn
   have hlk : ∀ w, Sh w b l -> (Instr.lookup 89 (.map (some b)) (kv id) true).run Tryz.prog w = .ok (.tuple #[.agg #[.string o.1, .int .i64 o.2.1, .string o.2.2], .bool true]) w := fun w h => by
    have := h.hit hm
    rw [e2] at this
    rw [this]; unfold obV; rw [e2]
   by_cases hkd : o.2.1 = kd
   ·unfold fo
    rw [hy hkd]
    exact findId p b l x o.1 o.2.2 o.2.1 true true id o.2.2 kd kd id w hid hR hp hS hlk (fun _ _ => ⟨rfl, e2.symm, hkd.symm, rfl⟩) (fun h => by rcases h with h | h; cases h; exact absurd hkd h)
   ·unfold fo
    rw [hn hkd]
    exact findId p b l x o.1 o.2.2 o.2.1 true false ⟨#[]⟩ ⟨#[]⟩ 0 kd id w hid hR hp hS hlk (fun _ h => absurd h hkd) (fun _ => ⟨rfl, rfl, rfl, rfl⟩)
end Go.Proofs.YtcfnkndbhpdfnaaGreatDoor
namespace Go.Proofs.YtcfnkndbhpdfnaaGreatDoor
open Go.ChangeShapes Go.WideShapes Go.ChangeAt Go.RowKit
theorem ret_boolH {c d : Bool} (h : c = d) : Ending.returned (.bool c) = .returned (.bool d) := by rw [h]
def hbF (l : List Ob) : List Fl.Ob -> Bool
 | [] => true
 | f :: t => if (gt l 1 f.2.2).isSome = true then hbF l t else false
theorem hbF_no {l : List Ob} {fs : List Fl.Ob} {k : Nat} (hk : k < fs.length) (h : (gt l 1 (fs.getD k Fl.onil).2.2).isSome = false) : hbF l (fs.drop k) = false := by
 rw [Fl.ob_drop fs k hk, hbF, if_neg (by rw [h]; decide)]
theorem hbF_go {l : List Ob} {fs : List Fl.Ob} {k : Nat} (hk : k < fs.length) (h : (gt l 1 (fs.getD k Fl.onil).2.2).isSome = true) : hbF l (fs.drop k) = hbF l (fs.drop (k + 1)) := by
 rw [Fl.ob_drop fs k hk, hbF, if_pos h]
theorem hbF_end {l : List Ob} {fs : List Fl.Ob} {k : Nat} (hk : fs.length <= k) : hbF l (fs.drop k) = true := by
 rw [List.drop_of_length_le hk]; rfl
set_option maxRecDepth 20000 in
set_option maxHeartbeats 2000000 in
theorem l11Blobs (a : Option Addr) (c : Nat) (l : List Ob) (fa : Option Addr) (fc : Nat) (fs : List Fl.Ob) (w : World) (h : OB w.heap.size w a l) (hf : Fl.OB w.heap.size w fa fs) (hn : l.length <= 1048576) (hm : fs.length <= 1048576) :
  Calls Tryz.prog 19 #[.slice a l.length c, .slice fa fs.length fc] w fun e w' => e = .returned (.bool (hbF l fs)) /\ w' = w := by
 have H0 : Hid (hbF l (fs.drop 0) = hbF l fs) := rfl
 obtain ⟨R, hR⟩ : ∃ R, hbF l fs = R := ⟨_, rfl⟩
 rw [hR] at H0 ⊢
 clear hR
 have hG := fun id => l5Get a c l 1 id w h hn
 go_enter Tryz.func19, Tryz.ntmps19
 go_wp2
 go_loopw [5, 6, 7] (fun i _ _ wr => ∃ k : Nat, k <= fs.length /\ i = .int .i64 k /\ wr = w /\ Hid (hbF l (fs.drop k) = R)) (fun i _ _ _ => fs.length - (intOf i).toNat)
 case atStart => exact ⟨0, Nat.zero_le _, rfl, rfl, H0⟩
 case round =>
  obtain ⟨k, hk, rfl, rfl, h0⟩ := hrel
  clear H0
  by_cases hlt : k < fs.length
  ·have q : (k : Int) < (fs.length : Int) := by omega
   obtain ⟨g, off, e, hg, c0, c1, c2⟩ := hf k hlt
   subst e
   have hno := hbF_no (l := l) hlt
   have hgo := hbF_go (l := l) hlt
   obtain ⟨C, hC⟩ : ∃ C, fs.getD k Fl.onil = C := ⟨_, rfl⟩
   obtain ⟨x, y, z⟩ := C
   rw [hC] at c0 c1 c2 hno hgo
   simp only [] at c0 c1 c2 hno hgo
   have hGz := hG z
   clear hC c0 c1 hG
   generalize gt l 1 z = G at hGz hno hgo
   cases hD : G.isSome with
   | false =>
    have HE : Hid (false = R) := (hno hD).symm.trans h0.out
    rw [hD] at hGz
    clear hno hgo h0 hD
    go_wp2_with fail
    refine hGz.mono ?_; rintro e wr ⟨rfl, rfl⟩
    clear hGz
    go_wp2
    go_ret
    exact ⟨ret_boolH HE.out, rfl⟩
   | true =>
    have HN : Hid (hbF l (fs.drop (k + 1)) = R) := (hgo hD).symm.trans h0.out
    rw [hD] at hGz
    clear hno hgo h0 hD
    go_wp2_with fail
    refine hGz.mono ?_; rintro e wr ⟨rfl, rfl⟩
    clear hGz
    go_wp2
    go_roundw
    case rel => exact ⟨k + 1, by omega, by go_num, by trivial, HN⟩
    case measure => first | (simp [intOf]; omega) | simp [intOf]
  ·have q : ¬ (k : Int) < (fs.length : Int) := by omega
   have HE : Hid (true = R) := (hbF_end (by omega)).symm.trans h0.out
   clear h0
   go_wp2
   go_ret
   exact ⟨ret_boolH HE.out, rfl⟩
set_option maxRecDepth 20000 in
set_option maxHeartbeats 4000000 in
theorem hasBlobsC (p b : Nat) (l : List Ob) (x : Value) (fa : Option Addr) (fc : Nat) (fs : List Fl.Ob) (w : World) (hz : sf l = 0) (hR : Rf w p [.map (some b), x]) (hp : p < w.heap.size) (hS : Sh w b l) (hf : Fl.OB w.heap.size w fa fs) (hm : fs.length <= 1048576) :
  Calls Tryz.prog 27 #[.pointer (some ⟨p, 0, none⟩), .slice fa fs.length fc] w fun e w' => e = .returned (.bool (hbF l fs)) /\ Below w.heap.size w w' := by
 have H0 : Hid (hbF l (fs.drop 0) = hbF l fs) := rfl
 obtain ⟨R, hRe⟩ : ∃ R, hbF l fs = R := ⟨_, rfl⟩
 rw [hRe] at H0 ⊢
 clear hRe
 have hG : ∀ id V, Below w.heap.size w V -> Calls Tryz.prog 53 #[.pointer (some ⟨p, 0, none⟩), .int .i64 1, .string id] V fun e w' => e = .returned (.tuple #[.agg #[.string (fo l 1 id).1, .int .i64 (fo l 1 id).2.1, .string (fo l 1 id).2.2], .bool (gt l 1 id).isSome]) /\ Below V.heap.size V w' := fun id V bV =>
  findC p b l x 1 id V hz (hR.below hp bV) (Nat.lt_of_lt_of_le hp bV.size) (hS.below bV)
 go_enter Tryz.func27, Tryz.ntmps27
 go_wp2
 go_loopw [6, 7, 8, 11] (fun _ _ _ i wr => ∃ k : Nat, k <= fs.length /\ i = .int .i64 k /\ Below w.heap.size w wr /\ Hid (hbF l (fs.drop k) = R)) (fun _ _ _ i _ => fs.length - (intOf i).toNat)
 case atStart => exact ⟨0, Nat.zero_le _, rfl, Below.refl _ _, H0⟩
 case round =>
  obtain ⟨k, hk, rfl, hbel, h0⟩ := hrel
  clear H0
  have hsz := hbel.size
  by_cases hlt : k < fs.length
  ·have q : (k : Int) < (fs.length : Int) := by omega
   obtain ⟨g, off, e, hg, c0, c1, c2⟩ := hf.below hbel k hlt
   subst e
   have hno := hbF_no (l := l) hlt
   have hgo := hbF_go (l := l) hlt
   obtain ⟨C, hC⟩ : ∃ C, fs.getD k Fl.onil = C := ⟨_, rfl⟩
   obtain ⟨x0, x1, z⟩ := C
   rw [hC] at c0 c1 c2 hno hgo
   simp only [] at c0 c1 c2 hno hgo
   clear hC
   obtain ⟨V, hV⟩ : ∃ V, wr.alloc (.cells #[.string x0, .int .i64 x1, .string z] 34) = V := ⟨_, rfl⟩
   have bV : Below wr.heap.size wr V := by rw [<- hV]; exact allocBelow _ _
   have rV : Rs V wr.heap.size [.string x0, .int .i64 x1, .string z] := by rw [<- hV]; exact Rs.new _ _ _
   have e2 := rV 2 _ rfl
   have sV := bV.size
   have BV : Below w.heap.size w V := below_step hbel hsz bV
   have hGz : ∀ X, Below V.heap.size V X -> Calls Tryz.prog 53 #[.pointer (some ⟨p, 0, none⟩), .int .i64 1, .string z] X fun e w' => e = .returned (.tuple #[.agg #[.string (fo l 1 z).1, .int .i64 (fo l 1 z).2.1, .string (fo l 1 z).2.2], .bool (gt l 1 z).isSome]) /\ Below X.heap.size X w' := fun X bX =>
    hG z X (below_step BV (by omega) bX)
   obtain ⟨D, hD⟩ : ∃ D, (gt l 1 z).isSome = D := ⟨_, rfl⟩
   rw [hD] at hGz hno hgo
   generalize fo l 1 z = O at hGz
   obtain ⟨O0, O1, O2⟩ := O
   simp only [] at hGz
   clear hD hG rV hR hS hbel bV hp
   go_wp2_with fail
   refine (hGz _ (Below.refl _ _)).mono ?_; rintro e W' ⟨rfl, bW⟩
   obtain ⟨U, hU⟩ : ∃ U, W'.alloc (.cells #[.string O0, .int .i64 O1, .string O2] 50) = U := ⟨_, rfl⟩
   have bU : Below W'.heap.size W' U := by rw [<- hU]; exact allocBelow _ _
   have HB := below_step (below_step BV (by omega) bW) (by have := bW.size; omega) bU
   clear hGz bW BV e2 c0 c1 c2 bU
   cases D with
   | false =>
    have HE : Hid (false = R) := (hno rfl).symm.trans h0.out
    clear hno hgo h0
    go_wp2
    go_ret
    exact ⟨ret_boolH HE.out, HB⟩
   | true =>
    have HN : Hid (hbF l (fs.drop (k + 1)) = R) := (hgo rfl).symm.trans h0.out
    clear hno hgo h0
    go_wp2
    go_roundw
    case rel => exact ⟨k + 1, by omega, by go_num, HB, HN⟩
    case measure => first | (simp [intOf]; omega) | simp [intOf]
  ·have q : ¬ (k : Int) < (fs.length : Int) := by omega
   have HE : Hid (true = R) := (hbF_end (by omega)).symm.trans h0.out
   clear h0
   go_wp2
   go_ret
   exact ⟨ret_boolH HE.out, hbel⟩
end Go.Proofs.YtcfnkndbhpdfnaaGreatDoor
