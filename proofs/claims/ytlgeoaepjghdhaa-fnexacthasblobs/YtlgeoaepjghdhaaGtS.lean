/- The contracts of l5Find, l5Get and the specification's GetObject. No statement is proved here. -/
import Derived.Test.YtlgeoaepjghdhaaRows
import Derived.Test.YtlgeoaepjghdhaaLem
import Derived.Test.YtlgeoaepjghdhaaStrs
import Derived.Test.YtlgeoaepjghdhaaLFLem
import Derived.Test.YtlgeoaepjghdhaaSplLem
import Derived.Test.YtlgeoaepjghdhaaDTab
import Derived.Test.YtlgeoaepjghdhaaOwn
import Derived.Test.YtlgeoaepjghdhaaFr
import Derived.Test.YtlgeoaepjghdhaaIn
import Derived.Test.YtlgeoaepjghdhaaHkT
import Derived.Test.YtlgeoaepjghdhaaIdM
import Derived.Test.YtlgeoaepjghdhaaObL
import Derived.Test.YtlgeoaepjghdhaaSfC
import Derived.WalkKit
import Derived.ProofKit
import Derived.Below
import Derived.WalkSpells
import Derived.Deep.QuietTactic
import Derived.BigQuiet
import Derived.Laws.Cover1
namespace Go.Proofs.Ytlgeoaepjghdhaa
open Go.ChangeShapes Go.WideShapes Go.ChangeAt Go.RowKit

/-- The place of an id among objects; -1 where it is not. -/
def fnd (l : List Ob) (id : ByteArray) : Nat := l.findIdx fun o => decide (o.1 = id)
def fz (l : List Ob) (id : ByteArray) : Int := if fnd l id < l.length then (fnd l id : Int) else -1
theorem fz_at {l : List Ob} {id : ByteArray} {k : Nat} (hk : k < l.length) (h0 : ∀ j, j < k → ¬ (l.getD j onil).1 = id) (h : (l.getD k onil).1 = id) : fz l id = k := by
  have e : fnd l id = k := by
    unfold fnd
    rw [List.findIdx_eq hk]
    refine ⟨?_, fun j hj => ?_⟩
    · rw [List.getD, List.getElem?_eq_getElem hk] at h
      simpa using h
    · have := h0 j hj
      rw [List.getD, List.getElem?_eq_getElem (by omega)] at this
      simpa using this
  unfold fz
  rw [e, if_pos hk]
theorem fz_none {l : List Ob} {id : ByteArray} (h0 : ∀ j, j < l.length → ¬ (l.getD j onil).1 = id) : fz l id = -1 := by
  unfold fz
  rw [if_neg]
  intro h
  have := List.findIdx_getElem (w := h)
  refine h0 _ h ?_
  rw [List.getD, List.getElem?_eq_getElem h]
  exact of_decide_eq_true this
theorem fz_cases (l : List Ob) (id : ByteArray) : fz l id = -1 ∨ ∃ k : Nat, fz l id = k ∧ k < l.length ∧ (l.getD k onil).1 = id := by
  unfold fz
  by_cases h : fnd l id < l.length
  · rw [if_pos h]
    refine .inr ⟨_, rfl, h, ?_⟩
    have := List.findIdx_getElem (w := h)
    rw [List.getD, List.getElem?_eq_getElem h]
    exact of_decide_eq_true this
  · rw [if_neg h]
    exact .inl rfl

set_option maxRecDepth 20000 in
set_option maxHeartbeats 1000000 in
theorem l5Find (a : Option Addr) (c : Nat) (l : List Ob) (id : ByteArray) (w : World) (h : OB w.heap.size w a l) (hn : l.length ≤ 1048576) :
    Calls Try.prog 112 #[.slice a l.length c, .string id] w fun e w' => e = .returned (.int .i64 (fz l id)) ∧ w' = w := by
  go_enter Try.func112, Try.ntmps112
  go_wp2
  go_loopw [5] (fun i wr => ∃ k : Nat, k ≤ l.length ∧ i = .int .i64 k ∧ wr = w ∧ ∀ j, j < k → ¬ (l.getD j onil).1 = id) (fun i _ => l.length - (intOf i).toNat)
  case atStart => exact ⟨0, Nat.zero_le _, rfl, rfl, fun j hj => by omega⟩
  case round =>
    obtain ⟨k, hk, rfl, rfl, h0⟩ := hrel
    by_cases hlt : k < l.length
    · have q : (k : Int) < (l.length : Int) := by omega
      obtain ⟨g, off, e, hg, d0, d1, d2⟩ := h k hlt
      subst e
      obtain ⟨x, hx⟩ : ∃ x, (l.getD k onil).1 = x := ⟨_, rfl⟩
      rw [hx] at d0
      by_cases e : x = id
      · have HE : Hid (fz l id = k) := fz_at hlt h0 (hx.trans e)
        subst e
        have hb := beqS x
        clear d1 d2 h0 hx
        go_wp2
        go_ret
        exact ⟨ret_int HE.out.symm, rfl⟩
      · have hb : (x.toList == id.toList) = false := beq_bytes_false e
        have HN : Hid (∀ j, j < k + 1 → ¬ (l.getD j onil).1 = id) := fun j hj => by
          by_cases hjk : j < k
          · exact h0 j hjk
          · rw [show j = k by omega, hx]; exact e
        clear d1 d2 h0 hx
        go_wp2
        go_roundw
        case rel => exact ⟨k + 1, by omega, by go_num, by trivial, HN.out⟩
        case measure => first | (simp [intOf]; omega) | simp [intOf]
    · have q : ¬ (k : Int) < (l.length : Int) := by omega
      have HE : Hid (fz l id = -1) := fz_none (fun j hj => h0 j (by omega))
      clear h0
      go_wp2
      go_ret
      exact ⟨ret_int HE.out.symm, rfl⟩

/-- The data of the object of a kind and an id. -/
def gt (l : List Ob) (k : Int) (id : ByteArray) : Option ByteArray :=
  if fz l id < 0 then none else if (l.getD (fz l id).toNat onil).2.1 = k then some (l.getD (fz l id).toNat onil).2.2 else none
theorem gt_less {l : List Ob} {k : Int} {id : ByteArray} (h : fz l id = -1) : gt l k id = none := if_pos (by omega)
theorem gt_no {l : List Ob} {k : Int} {id : ByteArray} {n : Nat} (h : fz l id = n) (e : ¬ (l.getD n onil).2.1 = k) : gt l k id = none := by
  unfold gt; rw [h, if_neg (by omega), if_neg (by simpa using e)]
theorem gt_yes {l : List Ob} {k : Int} {id : ByteArray} {n : Nat} (h : fz l id = n) (e : (l.getD n onil).2.1 = k) : gt l k id = some (l.getD n onil).2.2 := by
  unfold gt; rw [h, if_neg (by omega), if_pos (by simpa using e)]; simp
theorem beqNI {a b : Int} (h : ¬ a = b) : (a == b) = false := by simp [h]
theorem ret_get {s t : ByteArray} {b d : Bool} (h : s = t) (k : b = d) : Ending.returned (.tuple #[.string s, .bool b]) = .returned (.tuple #[.string t, .bool d]) := by rw [h, k]

set_option maxRecDepth 20000 in
set_option maxHeartbeats 1000000 in
theorem l5Get (a : Option Addr) (c : Nat) (l : List Ob) (kd : Int) (id : ByteArray) (w : World) (h : OB w.heap.size w a l) (hn : l.length ≤ 1048576) :
    Calls Try.prog 90 #[.slice a l.length c, .int .i64 kd, .string id] w fun e w' => e = .returned (.tuple #[.string ((gt l kd id).getD ByteArray.empty), .bool (gt l kd id).isSome]) ∧ w' = w := by
  have hF := l5Find a c l id w h hn
  rcases fz_cases l id with e | ⟨k, e, hlt, _⟩
  · have HG : Hid (gt l kd id = none) := gt_less e
    rw [e] at hF
    go_enter Try.func90, Try.ntmps90
    go_wp2_with fail
    refine hF.mono ?_; rintro e w ⟨rfl, rfl⟩
    go_wp2
    refine bodyPost_ret (v := .tuple #[.string ⟨#[]⟩, .bool false]) (by simp [results, Try.results90, go_sem]) rfl ?_
    exact ⟨ret_get (by rw [HG.out]; rfl) (by rw [HG.out]; rfl), rfl⟩
  · have q : (k : Int) < (l.length : Int) := by omega
    have q0 : ¬ (k : Int) < 0 := by omega
    obtain ⟨g, off, ea, hg, d0, d1, d2⟩ := h k hlt
    subst ea
    by_cases hk : (l.getD k onil).2.1 = kd
    · have HG : Hid (gt l kd id = some (l.getD k onil).2.2) := gt_yes e hk
      rw [e] at hF
      rw [hk] at d1
      obtain ⟨D, hD⟩ : ∃ D, (l.getD k onil).2.2 = D := ⟨_, rfl⟩
      rw [hD] at HG d2
      clear h hD hk
      go_enter Try.func90, Try.ntmps90
      go_wp2_with fail
      refine hF.mono ?_; rintro e w ⟨rfl, rfl⟩
      go_wp2
      refine bodyPost_ret (v := .tuple #[.string D, .bool true]) (by simp [results, Try.results90, go_sem]) rfl ?_
      exact ⟨ret_get (by rw [HG.out]; rfl) (by rw [HG.out]; rfl), rfl⟩
    · have HG : Hid (gt l kd id = none) := gt_no e hk
      rw [e] at hF
      obtain ⟨D, hD⟩ : ∃ D, (l.getD k onil).2.1 = D := ⟨_, rfl⟩
      rw [hD] at hk d1
      have qk : (D == kd) = false := beqNI hk
      have qk2 : (D != kd) = true := by simp [bne, qk]
      clear h hD hk
      go_enter Try.func90, Try.ntmps90
      go_wp2_with fail
      refine hF.mono ?_; rintro e w ⟨rfl, rfl⟩
      go_wp2
      refine bodyPost_ret (v := .tuple #[.string ⟨#[]⟩, .bool false]) (by simp [results, Try.results90, go_sem]) rfl ?_
      exact ⟨ret_get (by rw [HG.out]; rfl) (by rw [HG.out]; rfl), rfl⟩

/-- What GetObject answers. -/
def goR (l : List Ob) (k : Int) (id : ByteArray) : Int := if sf l = 0 then (if inB k 1 3 = true then (if (gt l k id).isSome = true then 0 else 4) else 3) else sf l
def goO (l : List Ob) (k : Int) (id : ByteArray) : Ob := if goR l k id = 0 then (id, k, (gt l k id).getD ByteArray.empty) else onil
/-- An answer that is an object. -/
def OP (c : Int) (o : Ob) (w : World) (e : Ending) (w' : World) : Prop :=
  e = .returned (.agg #[.int .i64 c, .string o.1, .int .i64 o.2.1, .string o.2.2]) ∧ Below w.heap.size w w'
theorem ret_obj {c d : Int} {o p : Ob} (h : c = d) (k : o = p) : Ending.returned (.agg #[.int .i64 c, .string o.1, .int .i64 o.2.1, .string o.2.2]) = .returned (.agg #[.int .i64 d, .string p.1, .int .i64 p.2.1, .string p.2.2]) := by rw [h, k]
theorem below_sets4 {B p : Nat} {w w2 : World} (h : Below B w w2) (hp : B ≤ p) (v0 v1 v2 v3 : Value) : Below B w ((((w2.setCell ⟨p, 0, none⟩ v0).setCell ⟨p, 1, none⟩ v1).setCell ⟨p, 2, none⟩ v2).setCell ⟨p, 3, none⟩ v3) :=
  (((h.setCell (p := ⟨p, 0, none⟩) hp v0).setCell (p := ⟨p, 1, none⟩) hp v1).setCell (p := ⟨p, 2, none⟩) hp v2).setCell (p := ⟨p, 3, none⟩) hp v3

end Go.Proofs.Ytlgeoaepjghdhaa
