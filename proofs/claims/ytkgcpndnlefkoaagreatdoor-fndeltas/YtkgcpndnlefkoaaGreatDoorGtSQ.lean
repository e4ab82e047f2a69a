/- The contracts of l5Find, l5Get and the specification's GetObject. No statement is proved here. -/
import Derived.Test.YtkgcpndnlefkoaaGreatDoorRows
import Derived.Test.YtkgcpndnlefkoaaGreatDoorLemQ
import Derived.Test.YtkgcpndnlefkoaaGreatDoorLFLemQ
import Derived.Test.YtkgcpndnlefkoaaGreatDoorDTabQ
import Derived.Test.YtkgcpndnlefkoaaGreatDoorInQ
import Derived.Test.YtkgcpndnlefkoaaGreatDoorDigCQ
import Derived.Test.YtkgcpndnlefkoaaGreatDoorObLQ
import Derived.WalkKit
import Derived.ProofKit
import Derived.Below
import Derived.WalkSpells
import Derived.Deep.QuietTactic
import Derived.BigQuiet
import Derived.Laws.Cover1
import Derived.WideKeyPair
import Derived.DeepKeys4
import Derived.Maps.OwnSet
import Derived.Maps.Views
namespace Go.Proofs.YtkgcpndnlefkoaaGreatDoor
open Go.ChangeShapes Go.WideShapes Go.ChangeAt Go.RowKit

/-- The place of an id among objects; -1 where it is not. -/
def fnd (l : List Ob) (id : ByteArray) : Nat := l.findIdx fun o => decide (o.1 = id)
def fz (l : List Ob) (id : ByteArray) : Int := if fnd l id < l.length then (fnd l id : Int) else -1
theorem fz_at {l : List Ob} {id : ByteArray} {k : Nat} (hk : k < l.length) (h0 : ∀ j, j < k → ¬ (l.getD j onil).1 = id) (h : (l.getD k onil).1 = id) : fz l id = k := by
  have e : fnd l id = k := by
    unfold fnd
    rw [List.findIdx_eq hk]
    refine ⟨?_, fun j hj => ?_⟩
    · rw [List.getD, List.getElem?_eq_getElem hk] at h
      simpa using h
    · have := h0 j hj
      rw [List.getD, List.getElem?_eq_getElem (by omega)] at this
      simpa using this
  unfold fz
  rw [e, if_pos hk]
theorem fz_none {l : List Ob} {id : ByteArray} (h0 : ∀ j, j < l.length → ¬ (l.getD j onil).1 = id) : fz l id = -1 := by
  unfold fz
  rw [if_neg]
  intro h
  have := List.findIdx_getElem (w := h)
  refine h0 _ h ?_
  rw [List.getD, List.getElem?_eq_getElem h]
  exact of_decide_eq_true this
theorem fz_cases (l : List Ob) (id : ByteArray) : fz l id = -1 ∨ ∃ k : Nat, fz l id = k ∧ k < l.length ∧ (l.getD k onil).1 = id := by
  unfold fz
  by_cases h : fnd l id < l.length
  · rw [if_pos h]
    refine .inr ⟨_, rfl, h, ?_⟩
    have := List.findIdx_getElem (w := h)
    rw [List.getD, List.getElem?_eq_getElem h]
    exact of_decide_eq_true this
  · rw [if_neg h]
    exact .inl rfl

set_option maxRecDepth 20000 in
set_option maxHeartbeats 1000000 in
theorem l5Find (a : Option Addr) (c : Nat) (l : List Ob) (id : ByteArray) (w : World) (h : OB w.heap.size w a l) (hn : l.length ≤ 1048576) :
    Calls Tryz.prog 60 #[.slice a l.length c, .string id] w fun e w' => e = .returned (.int .i64 (fz l id)) ∧ w' = w := by
  go_enter Tryz.func60, Tryz.ntmps60
  go_wp2
  go_loopw [5] (fun i wr => ∃ k : Nat, k ≤ l.length ∧ i = .int .i64 k ∧ wr = w ∧ ∀ j, j < k → ¬ (l.getD j onil).1 = id) (fun i _ => l.length - (intOf i).toNat)
  case atStart => exact ⟨0, Nat.zero_le _, rfl, rfl, fun j hj => by omega⟩
  case round =>
    obtain ⟨k, hk, rfl, rfl, h0⟩ := hrel
    by_cases hlt : k < l.length
    · have q : (k : Int) < (l.length : Int) := by omega
      obtain ⟨g, off, e, hg, d0, d1, d2⟩ := h k hlt
      subst e
      obtain ⟨x, hx⟩ : ∃ x, (l.getD k onil).1 = x := ⟨_, rfl⟩
      rw [hx] at d0
      by_cases e : x = id
      · have HE : Hid (fz l id = k) := fz_at hlt h0 (hx.trans e)
        subst e
        have hb := beqS x
        clear d1 d2 h0 hx
        go_wp2
        go_ret
        exact ⟨ret_int HE.out.symm, rfl⟩
      · have hb : (x.toList == id.toList) = false := beq_bytes_false e
        have HN : Hid (∀ j, j < k + 1 → ¬ (l.getD j onil).1 = id) := fun j hj => by
          by_cases hjk : j < k
          · exact h0 j hjk
          · rw [show j = k by omega, hx]; exact e
        clear d1 d2 h0 hx
        go_wp2
        go_roundw
        case rel => exact ⟨k + 1, by omega, by go_num, by trivial, HN.out⟩
        case measure => first | (simp [intOf]; omega) | simp [intOf]
    · have q : ¬ (k : Int) < (l.length : Int) := by omega
      have HE : Hid (fz l id = -1) := fz_none (fun j hj => h0 j (by omega))
      clear h0
      go_wp2
      go_ret
      exact ⟨ret_int HE.out.symm, rfl⟩

/-- The data of the object of a kind and an id. -/
def gt (l : List Ob) (k : Int) (id : ByteArray) : Option ByteArray :=
  if fz l id < 0 then none else if (l.getD (fz l id).toNat onil).2.1 = k then some (l.getD (fz l id).toNat onil).2.2 else none
theorem gt_less {l : List Ob} {k : Int} {id : ByteArray} (h : fz l id = -1) : gt l k id = none := if_pos (by omega)
theorem gt_no {l : List Ob} {k : Int} {id : ByteArray} {n : Nat} (h : fz l id = n) (e : ¬ (l.getD n onil).2.1 = k) : gt l k id = none := by
  unfold gt; rw [h, if_neg (by omega), if_neg (by simpa using e)]
theorem gt_yes {l : List Ob} {k : Int} {id : ByteArray} {n : Nat} (h : fz l id = n) (e : (l.getD n onil).2.1 = k) : gt l k id = some (l.getD n onil).2.2 := by
  unfold gt; rw [h, if_neg (by omega), if_pos (by simpa using e)]; simp
theorem beqNI {a b : Int} (h : ¬ a = b) : (a == b) = false := by simp [h]
theorem ret_get {s t : ByteArray} {b d : Bool} (h : s = t) (k : b = d) : Ending.returned (.tuple #[.string s, .bool b]) = .returned (.tuple #[.string t, .bool d]) := by rw [h, k]

/-- What GetObject answers. -/
def goR (l : List Ob) (k : Int) (id : ByteArray) : Int := if sf l = 0 then (if inB k 1 3 = true then (if (gt l k id).isSome = true then 0 else 4) else 3) else sf l
def goO (l : List Ob) (k : Int) (id : ByteArray) : Ob := if goR l k id = 0 then (id, k, (gt l k id).getD ByteArray.empty) else onil
/-- An answer that is an object. -/
def OP (c : Int) (o : Ob) (w : World) (e : Ending) (w' : World) : Prop :=
  e = .returned (.agg #[.int .i64 c, .string o.1, .int .i64 o.2.1, .string o.2.2]) ∧ Below w.heap.size w w'
theorem ret_obj {c d : Int} {o p : Ob} (h : c = d) (k : o = p) : Ending.returned (.agg #[.int .i64 c, .string o.1, .int .i64 o.2.1, .string o.2.2]) = .returned (.agg #[.int .i64 d, .string p.1, .int .i64 p.2.1, .string p.2.2]) := by rw [h, k]
theorem below_sets4 {B p : Nat} {w w2 : World} (h : Below B w w2) (hp : B ≤ p) (v0 v1 v2 v3 : Value) : Below B w ((((w2.setCell ⟨p, 0, none⟩ v0).setCell ⟨p, 1, none⟩ v1).setCell ⟨p, 2, none⟩ v2).setCell ⟨p, 3, none⟩ v3) :=
  (((h.setCell (p := ⟨p, 0, none⟩) hp v0).setCell (p := ⟨p, 1, none⟩) hp v1).setCell (p := ⟨p, 2, none⟩) hp v2).setCell (p := ⟨p, 3, none⟩) hp v3

end Go.Proofs.YtkgcpndnlefkoaaGreatDoor
/- A map of objects by their ids: what it holds, told by a list. No statement is proved here. -/
namespace Go.Proofs.YtkgcpndnlefkoaaGreatDoor
open Go.ChangeShapes Go.WideShapes Go.ChangeAt Go.RowKit Go.Maps

theorem laidOutP : laidOutB Tryz.prog = true := by kernel_rfl
theorem zeroObj (w : World) : (zeroValue 93).run Tryz.prog w = .ok (.agg #[.string ⟨#[]⟩, .int .i64 0, .string ⟨#[]⟩]) w := by kernel_rfl

/-- An id of five bytes as an array, and what it reads as. -/
def u8 (n : UInt8) : Value := .int .u8 (n.toNat : Int)
def kc (id : ByteArray) (j : Nat) : UInt8 := id.data.toList.getD j 0
def kv (id : ByteArray) : Value := .agg #[u8 (kc id 0), u8 (kc id 1), u8 (kc id 2), u8 (kc id 3), u8 (kc id 4)]
def lu8 (n : UInt8) : Lit := .int .u8 (n.toNat : Int)
def kl (id : ByteArray) : Lit := .string (keyBytes [lu8 (kc id 0), lu8 (kc id 1), lu8 (kc id 2), lu8 (kc id 3), lu8 (kc id 4)])
theorem wfU8 (n : UInt8) : (Lit.int .u8 (n.toNat : Int)).wf = true := by
  have := n.toNat_lt
  have : n.toNat < 256 := this
  have h1 : IntKind.u8.min = 0 := by decide
  have h2 : IntKind.u8.max = 255 := by decide
  simp only [Lit.wf, h1, h2, Bool.and_eq_true, decide_eq_true_eq]
  omega
theorem bytes_ext {a b : ByteArray} (h : a.data.toList = b.data.toList) : a = b := by
  obtain ⟨⟨x⟩⟩ := a
  obtain ⟨⟨y⟩⟩ := b
  simpa using h
theorem kc_list {a : ByteArray} (h : a.size = 5) : a.data.toList = [kc a 0, kc a 1, kc a 2, kc a 3, kc a 4] := by
  unfold kc
  have h5 : a.data.toList.length = 5 := by simpa using h
  generalize a.data.toList = l at h5
  match l, h5 with
  | [_, _, _, _, _], _ => rfl
theorem kv_inj {a b : ByteArray} (ha : a.size = 5) (hb : b.size = 5) (h : kv a = kv b) : a = b := by
  unfold kv u8 at h
  simp only [Value.agg.injEq, Array.mk.injEq, List.cons.injEq, Value.int.injEq, true_and, and_true] at h
  obtain ⟨h0, h1, h2, h3, h4⟩ := h
  have k : ∀ x y : UInt8, (x.toNat : Int) = y.toNat → x = y := fun x y e => UInt8.toNat_inj.1 (by omega)
  apply bytes_ext
  rw [kc_list ha, kc_list hb, k _ _ h0, k _ _ h1, k _ _ h2, k _ _ h3, k _ _ h4]
theorem kl_key (a : ByteArray) : WideAt.IsKeyLit (kl a) := trivial

/-- An object as a value of the map, and what it reads as. -/
def obV (o : Ob) : Value := .agg #[.string o.1, .int .i64 o.2.1, .string o.2.2]
def obD (o : Ob) : DataW Unit := .agg [.lit (.string o.1.data.toList), .lit (.int .i64 o.2.1), .lit (.string o.2.2.data.toList)]
def obR (v : Value) : Option (DataW Unit × List MemPlace) :=
  match v with
  | .agg ⟨[.string s, .int .i64 k, .string t]⟩ => some (obD (s, k, t), [])
  | _ => none
theorem obR_mk (o : Ob) : obR (obV o) = some (obD o, []) := rfl
theorem obD_inj {o p : Ob} (h : obD o = obD p) : o = p := by
  unfold obD at h
  simp only [DataW.agg.injEq, List.cons.injEq, DataW.lit.injEq, Lit.string.injEq, Lit.int.injEq, true_and, and_true] at h
  obtain ⟨h0, h1, h2⟩ := h
  obtain ⟨a, b, c⟩ := o
  obtain ⟨x, y, z⟩ := p
  simp only at h0 h1 h2
  rw [bytes_ext h0, h1, bytes_ext h2]
theorem obR_inv {v : Value} {o : Ob} {ps : List MemPlace} (h : obR v = some (obD o, ps)) : v = obV o := by
  unfold obR at h
  split at h
  · simp only [Option.some.injEq, Prod.mk.injEq] at h
    rw [← obD_inj h.1]; rfl
  · cases h

end Go.Proofs.YtkgcpndnlefkoaaGreatDoor
