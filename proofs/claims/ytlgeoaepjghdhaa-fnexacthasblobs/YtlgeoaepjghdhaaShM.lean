/- A map of objects by their ids: what it holds, told by a list. No statement is proved here. -/
import Derived.Test.YtlgeoaepjghdhaaRows
import Derived.Test.YtlgeoaepjghdhaaLem
import Derived.Test.YtlgeoaepjghdhaaStrs
import Derived.Test.YtlgeoaepjghdhaaDTab
import Derived.Test.YtlgeoaepjghdhaaOwn
import Derived.Test.YtlgeoaepjghdhaaFr
import Derived.Test.YtlgeoaepjghdhaaHkT
import Derived.Test.YtlgeoaepjghdhaaObL
import Derived.WalkKit
import Derived.ProofKit
import Derived.Below
import Derived.WideKeyPair
import Derived.DeepKeys4
import Derived.Maps.OwnSet
import Derived.Maps.Views
namespace Go.Proofs.Ytlgeoaepjghdhaa
open Go.ChangeShapes Go.WideShapes Go.ChangeAt Go.RowKit Go.Maps

theorem laidOutP : laidOutB Try.prog = true := by kernel_rfl
theorem rowKey : (173 : TypeId) < Try.prog.types.size := of_decide_eq_true (by kernel_rfl)
theorem undKey : Try.prog.underlying 173 = some (.array 5 5) := by kernel_rfl
theorem cellsKey : Try.prog.cellsOf 173 = 5 := by kernel_rfl
theorem arrKey : WideMaps.ArrKey Try.prog 173 5 5 := ⟨undKey, by kernel_rfl, by kernel_rfl, cellsKey⟩
theorem lawKey : Keyed Try.prog 173 := Keyed.of_law (deep_law_laid laidOutP (m := 2) (by omega) rowKey (by kernel_rfl) (by rw [undKey]))
theorem undMap : Try.prog.underlying 139 = some (.map 173 100) := by kernel_rfl
theorem zeroObj (w : World) : (zeroValue 100).run Try.prog w = .ok (.agg #[.string ⟨#[]⟩, .int .i64 0, .string ⟨#[]⟩]) w := by kernel_rfl

/-- An id of five bytes as an array, and what it reads as. -/
def u8 (n : UInt8) : Value := .int .u8 (n.toNat : Int)
def kc (id : ByteArray) (j : Nat) : UInt8 := id.data.toList.getD j 0
def kv (id : ByteArray) : Value := .agg #[u8 (kc id 0), u8 (kc id 1), u8 (kc id 2), u8 (kc id 3), u8 (kc id 4)]
def lu8 (n : UInt8) : Lit := .int .u8 (n.toNat : Int)
def kl (id : ByteArray) : Lit := .string (keyBytes [lu8 (kc id 0), lu8 (kc id 1), lu8 (kc id 2), lu8 (kc id 3), lu8 (kc id 4)])
theorem wfU8 (n : UInt8) : (Lit.int .u8 (n.toNat : Int)).wf = true := by
  have := n.toNat_lt
  have : n.toNat < 256 := this
  have h1 : IntKind.u8.min = 0 := by decide
  have h2 : IntKind.u8.max = 255 := by decide
  simp only [Lit.wf, h1, h2, Bool.and_eq_true, decide_eq_true_eq]
  omega
theorem keyOf_kv (id : ByteArray) : keyOf Try.prog 173 (kv id) = some (kl id) := by
  have A := arrKey
  have hsz : ∃ m, Try.prog.types.size = m + 1 := ⟨_, rfl⟩
  have hkt := A.keyType hsz
  obtain ⟨m, hm⟩ := hsz
  unfold keyOf kv u8
  simp only [A.hu]
  rw [if_pos (by simp [hkt, Value.formed, A.hu, A.size]), hm]
  unfold Program.keyLits
  simp only [A.hu, Value.cells]
  rw [if_pos (by rw [A.size]; rfl), show List.range 5 = [0, 1, 2, 3, 4] from rfl, List.mapM_cons, List.mapM_cons, List.mapM_cons, List.mapM_cons, List.mapM_cons, List.mapM_nil]
  simp [A.one, Program.keyLits, wfU8, kl, lu8]
theorem bytes_ext {a b : ByteArray} (h : a.data.toList = b.data.toList) : a = b := by
  obtain ⟨⟨x⟩⟩ := a
  obtain ⟨⟨y⟩⟩ := b
  simpa using h
theorem kc_list {a : ByteArray} (h : a.size = 5) : a.data.toList = [kc a 0, kc a 1, kc a 2, kc a 3, kc a 4] := by
  unfold kc
  have h5 : a.data.toList.length = 5 := by simpa using h
  generalize a.data.toList = l at h5
  match l, h5 with
  | [_, _, _, _, _], _ => rfl
theorem kv_inj {a b : ByteArray} (ha : a.size = 5) (hb : b.size = 5) (h : kv a = kv b) : a = b := by
  unfold kv u8 at h
  simp only [Value.agg.injEq, Array.mk.injEq, List.cons.injEq, Value.int.injEq, true_and, and_true] at h
  obtain ⟨h0, h1, h2, h3, h4⟩ := h
  have k : ∀ x y : UInt8, (x.toNat : Int) = y.toNat → x = y := fun x y e => UInt8.toNat_inj.1 (by omega)
  apply bytes_ext
  rw [kc_list ha, kc_list hb, k _ _ h0, k _ _ h1, k _ _ h2, k _ _ h3, k _ _ h4]
theorem kl_ne {a b : ByteArray} (ha : a.size = 5) (hb : b.size = 5) (h : a ≠ b) : kl a ≠ kl b := fun e => h (kv_inj ha hb (lawKey.inj (keyOf_kv a) (e ▸ keyOf_kv b)))
theorem kl_key (a : ByteArray) : WideAt.IsKeyLit (kl a) := trivial

/-- An object as a value of the map, and what it reads as. -/
def obV (o : Ob) : Value := .agg #[.string o.1, .int .i64 o.2.1, .string o.2.2]
def obD (o : Ob) : DataW Unit := .agg [.lit (.string o.1.data.toList), .lit (.int .i64 o.2.1), .lit (.string o.2.2.data.toList)]
def obR (v : Value) : Option (DataW Unit × List MemPlace) :=
  match v with
  | .agg ⟨[.string s, .int .i64 k, .string t]⟩ => some (obD (s, k, t), [])
  | _ => none
theorem obR_mk (o : Ob) : obR (obV o) = some (obD o, []) := rfl
theorem obD_inj {o p : Ob} (h : obD o = obD p) : o = p := by
  unfold obD at h
  simp only [DataW.agg.injEq, List.cons.injEq, DataW.lit.injEq, Lit.string.injEq, Lit.int.injEq, true_and, and_true] at h
  obtain ⟨h0, h1, h2⟩ := h
  obtain ⟨a, b, c⟩ := o
  obtain ⟨x, y, z⟩ := p
  simp only at h0 h1 h2
  rw [bytes_ext h0, h1, bytes_ext h2]
theorem obR_inv {v : Value} {o : Ob} {ps : List MemPlace} (h : obR v = some (obD o, ps)) : v = obV o := by
  unfold obR at h
  split at h
  · simp only [Option.some.injEq, Prod.mk.injEq] at h
    rw [← obD_inj h.1]; rfl
  · cases h

/-- BLOCK b IS A MAP OF THESE OBJECTS, BY THEIR IDS. -/
def Sh (w : World) (b : Nat) (l : List Ob) : Prop :=
  ∃ D : DataW Unit, w.ownsMap Try.prog 173 obR b l.length D ∧ Tidy D ∧ size D = l.length ∧ (∀ o ∈ l, o.1.size = 5 ∧ has D (kl o.1) = true ∧ ∀ z, D.atKey (kl o.1) z = obD o) ∧ (∀ z : Lit, has D z = true → ∃ o ∈ l, z = kl o.1)
theorem noKey {D : DataW Unit} {l : List Ob} (h4 : ∀ o ∈ l, o.1.size = 5 ∧ has D (kl o.1) = true ∧ ∀ z, D.atKey (kl o.1) z = obD o) (h5 : ∀ z : Lit, has D z = true → ∃ o ∈ l, z = kl o.1) {id : ByteArray} (hs : id.size = 5) (hn : ∀ o ∈ l, o.1 ≠ id) : has D (kl id) = false := by
  cases e : has D (kl id) with
  | false => rfl
  | true =>
    obtain ⟨o, ho, he⟩ := h5 _ e
    exact absurd he (kl_ne hs (h4 o ho).1 (fun e => hn o ho e.symm))
theorem Sh.new (w : World) : Sh (w.alloc (.map #[] 0)) w.heap.size [] :=
  ⟨_, World.ownsMap_made w _ _ _, tidy_empty, rfl, (fun o ho => by cases ho), fun z hz => by cases hz⟩
theorem Sh.kept {w w' : World} {b : Nat} {l : List Ob} {row : Option Nat} (h : Sh w b l) (hg : w.grownBy w' row) (hne : some b ≠ row) : Sh w' b l := by
  obtain ⟨D, h1, h2⟩ := h
  exact ⟨D, h1.kept hg hne, h2⟩
theorem Sh.lt {w : World} {b : Nat} {l : List Ob} (h : Sh w b l) : b < w.heap.size := by
  obtain ⟨D, h1, h2⟩ := h
  exact h1.lt
theorem Sh.setCell {w : World} {b : Nat} {l : List Ob} (h : Sh w b l) {a : Addr} (ha : b ≠ a.block) (u : Value) : Sh (w.setCell a u) b l := by
  obtain ⟨D, h1, h2⟩ := h
  exact ⟨D, h1.setCell ha u, h2⟩
theorem Sh.below {w w' : World} {b : Nat} {l : List Ob} (h : Sh w b l) (hb : Below w.heap.size w w') : Sh w' b l := h.kept (grownOfBelow hb none) (by simp)
/-- The look-up of an id that is there. -/
theorem Sh.hit {w : World} {b : Nat} {l : List Ob} (h : Sh w b l) {o : Ob} (ho : o ∈ l) : (Instr.lookup 139 (.map (some b)) (kv o.1) true).run Try.prog w = .ok (.tuple #[obV o, .bool true]) w := by
  obtain ⟨D, h1, h2, h3, h4, h5⟩ := h
  obtain ⟨v, ps, hrun, hv⟩ := h1.look_ok lawKey undMap (zeroObj w) (zd := obD onil) (zp := []) rfl (keyOf_kv o.1)
  obtain ⟨_, e1, e2⟩ := h4 o ho
  rw [e2] at hv
  rw [hrun, e1, obR_inv hv]
/-- The look-up of an id that is not there. -/
theorem Sh.miss {w : World} {b : Nat} {l : List Ob} (h : Sh w b l) {id : ByteArray} (hs : id.size = 5) (hn : ∀ o ∈ l, o.1 ≠ id) : (Instr.lookup 139 (.map (some b)) (kv id) true).run Try.prog w = .ok (.tuple #[obV onil, .bool false]) w := by
  obtain ⟨D, h1, h2, h3, h4, h5⟩ := h
  obtain ⟨v, ps, hrun, hv⟩ := h1.look_ok lawKey undMap (zeroObj w) (zd := obD onil) (zp := []) rfl (keyOf_kv id)
  have e1 := noKey h4 h5 hs hn
  rw [atKey_of_not_has e1] at hv
  rw [hrun, e1, obR_inv hv]
theorem Sh.len {w : World} {b : Nat} {l : List Ob} (h : Sh w b l) (ty : TypeId) : (Builtin.len_ #[139] ty #[.map (some b)]).run Try.prog w = .ok (.int .i64 (l.length : Int)) w := by
  obtain ⟨D, h1, h2, h3, h4, h5⟩ := h
  rw [h1.len undMap ty, h3]
/-- A store of a new one. -/
theorem Sh.put {w : World} {b : Nat} {l : List Ob} (h : Sh w b l) {o : Ob} (hs : o.1.size = 5) (hn : ∀ p ∈ l, p.1 ≠ o.1) (hl : l.length < 1048576) :
    ∃ w', (Instr.mapUpdate 139 (.map (some b)) (kv o.1) (obV o)).run Try.prog w = .ok () w' ∧ Sh w' b (l ++ [o]) ∧ w.grownBy w' (some b) := by
  obtain ⟨D, h1, h2, h3, h4, h5⟩ := h
  obtain ⟨w', hrun, hown, hg⟩ := h1.update lawKey undMap (by unfold maxLen; omega) (keyOf_kv o.1) (obR_mk o)
  refine ⟨w', hrun, ⟨_, by rw [List.length_append]; exact hown, h2.put (kl_key _) _, ?_, ?_, ?_⟩, hg⟩
  · rw [size_put h2, noKey h4 h5 hs hn, h3]; simp
  · intro p hp
    rcases List.mem_append.1 hp with hp | hp
    · obtain ⟨e0, e1, e2⟩ := h4 p hp
      have hne := kl_ne e0 hs (hn p hp)
      exact ⟨e0, by rw [has_put_other hne]; exact e1, fun z => by rw [atKey_put_other hne]; exact e2 z⟩
    · cases List.mem_singleton.1 hp
      exact ⟨hs, has_put_same h2.isMap (kl_key _) _, fun z => atKey_put_same h2.isMap (kl_key _) _ z⟩
  · intro z hz
    by_cases e : z = kl o.1
    · exact ⟨o, by simp, e⟩
    · rw [has_put_other e] at hz
      obtain ⟨p, hp, e2⟩ := h5 z hz
      exact ⟨p, by simp [hp], e2⟩
end Go.Proofs.Ytlgeoaepjghdhaa
