/- The contract of the program's writeTree. No statement is proved here. -/
import Derived.Test.YtnififnogdekiaaDoorRows
import Derived.Test.YtnififnogdekiaaDoorLemQ
import Derived.Test.YtnififnogdekiaaDoorInQ
import Derived.Test.YtnififnogdekiaaDoorDTabQ
import Derived.Test.YtnififnogdekiaaDoorHkTQ
import Derived.Test.YtnififnogdekiaaDoorTFQ
import Derived.Test.YtnififnogdekiaaDoorIdLQ
import Derived.Test.YtnififnogdekiaaDoorTeLQ
import Derived.Test.YtnififnogdekiaaDoorTrCQ
import Derived.Test.YtnififnogdekiaaDoorJnCQ
import Derived.Test.YtnififnogdekiaaDoorWwCQ
import Derived.WalkKit
import Derived.ProofKit
import Derived.Below
import Derived.WalkSpells
import Derived.Deep.RegionWith
import Derived.Deep.RegionHeld
import Derived.Deep.QuietTactic
import Derived.BigQuiet
namespace Go.Proofs.YtnififnogdekiaaDoor.Te
open Go.ChangeShapes Go.WideShapes Go.ChangeAt Go.RowKit

/-- Entries that are right, each by itself. -/
def Fine (l : List Ob) : Prop := ∀ k, k < l.length → ef (l.getD k onil).1 (l.getD k onil).2.1 (l.getD k onil).2.2 = 0
theorem ef_zero {x0 : ByteArray} {x1 : Int} {x2 : ByteArray} (h : ef x0 x1 x2 = 0) : nf x0 = 0 ∧ inB x1 1 3 = true ∧ isOf (ek x1) x2 = true := by
  by_cases h0 : nf x0 = 0
  · cases hin : inB x1 1 3 with
    | false => rw [ef_mode h0 hin] at h; omega
    | true =>
      cases hb : isOf (ek x1) x2 with
      | false => rw [ef_id h0 hin hb] at h; omega
      | true => exact ⟨h0, rfl, rfl⟩
  · rw [ef_name h0] at h; exact absurd h h0
theorem nf_size {s : ByteArray} (h : nf s = 0) : s.size ≤ 12 := by
  by_cases h1 : 12 < s.size
  · rw [nf_long h1] at h; omega
  · omega
theorem isOf_size {k : Int} {id : ByteArray} (h : isOf k id = true) : id.size = 5 := by
  unfold isOf at h
  cases hb : idB id.data.toList with
  | false => rw [hb] at h; cases h
  | true =>
    obtain ⟨a, b, c, d, e, rfl⟩ := id5 hb
    rfl
theorem wd_size (m : Int) : (wd m).size ≤ 4 := by
  unfold wd
  split
  · decide
  · split <;> decide
theorem el_len {o : Ob} (h : ef o.1 o.2.1 o.2.2 = 0) : (el o).length ≤ 24 := by
  obtain ⟨h0, _, h2⟩ := ef_zero h
  have a := nf_size h0
  have b := isOf_size h2
  have c := wd_size o.2.1
  unfold el
  simp only [List.length_append, List.length_cons, Array.length_toList, List.length_nil]
  have e1 : o.1.data.size = o.1.size := rfl
  have e2 : o.2.2.data.size = o.2.2.size := rfl
  have e3 : (wd o.2.1).data.size = (wd o.2.1).size := rfl
  omega
theorem tr_len {l : List Ob} : ∀ k, k ≤ l.length → (∀ j, j < k → ef (l.getD j onil).1 (l.getD j onil).2.1 (l.getD j onil).2.2 = 0) → (trL (l.take k)).length ≤ 24 * k
  | 0, _, _ => by simp [trL]
  | k + 1, h, hf => by
    have ih := tr_len k (by omega) (fun j hj => hf j (by omega))
    rw [trL_take l k (by omega), List.length_append]
    have := el_len (hf k (by omega))
    omega
theorem trB_size {l : List Ob} (k : Nat) : (trB (l.take k)).size = (trL (l.take k)).length := by
  unfold trB
  show (trL (l.take k)).toArray.size = _
  simp
/-- The fault of the entry at a place; the first fault of a list. -/
def leT (a b : ByteArray) : Bool := Op.bytesLess a.toList b.toList || a.toList == b.toList
def teF (l : List Ob) (k : Nat) : Int :=
  if ef (l.getD k onil).1 (l.getD k onil).2.1 (l.getD k onil).2.2 = 0 then (if 0 < k ∧ leT (l.getD k onil).1 (l.getD (k - 1) onil).1 = true then 1 else 0) else ef (l.getD k onil).1 (l.getD k onil).2.1 (l.getD k onil).2.2
def trE (l : List Ob) : Int := if 100 < l.length then 2 else (((List.range l.length).map (teF l)).find? (fun x => decide (x ≠ 0))).getD 0
theorem trE_many {l : List Ob} (h : 100 < l.length) : trE l = 2 := if_pos h
theorem trE_bad {l : List Ob} {k : Nat} (h : ¬ 100 < l.length) (hk : k < l.length) (h0 : ∀ j, j < k → teF l j = 0) (hb : ¬ teF l k = 0) : trE l = teF l k := by
  unfold trE
  rw [if_neg h]
  have : ((List.range l.length).map (teF l)).find? (fun x => decide (x ≠ 0)) = some (teF l k) := by
    rw [List.find?_eq_some_iff_getElem]
    refine ⟨by simp [hb], k, by simp [hk], by simp, fun j hj => ?_⟩
    simp [h0 j hj]
  rw [this]; rfl
theorem trE_ok {l : List Ob} (h : ¬ 100 < l.length) (h0 : ∀ j, j < l.length → teF l j = 0) : trE l = 0 := by
  unfold trE
  rw [if_neg h]
  have : ((List.range l.length).map (teF l)).find? (fun x => decide (x ≠ 0)) = none := by
    rw [List.find?_eq_none]
    intro x hx
    obtain ⟨j, hj, rfl⟩ := List.mem_map.1 hx
    simp [h0 j (List.mem_range.1 hj)]
  rw [this]; rfl
theorem teF_ef {l : List Ob} {k : Nat} (h : teF l k = 0) : ef (l.getD k onil).1 (l.getD k onil).2.1 (l.getD k onil).2.2 = 0 := by
  unfold teF at h
  by_cases e : ef (l.getD k onil).1 (l.getD k onil).2.1 (l.getD k onil).2.2 = 0
  · exact e
  · rw [if_neg e] at h; exact absurd h e
/-- The words of modes, as the program keeps them. -/
def MwG (w : World) : Prop := w.cell? ⟨0, 0, none⟩ = some (.string ⟨#[102, 105, 108, 101]⟩) ∧ w.cell? ⟨0, 1, none⟩ = some (.string ⟨#[114, 117, 110]⟩) ∧ w.cell? ⟨0, 2, none⟩ = some (.string ⟨#[116, 114, 101, 101]⟩)
theorem MwG.below {B : Nat} {w w' : World} (h : MwG w) (hb : Below B w w') (hB : 0 < B) : MwG w' :=
  ⟨(hb.cell (p := ⟨0, 0, none⟩) hB).trans h.1, (hb.cell (p := ⟨0, 1, none⟩) hB).trans h.2.1, (hb.cell (p := ⟨0, 2, none⟩) hB).trans h.2.2⟩
/-- The line of an entry is the line of its words. -/
theorem wl_el (o : Ob) : wl [wd o.2.1, o.2.2, o.1] = el o := by
  unfold wl jnB el
  show (jl [wd o.2.1, o.2.2, o.1] 2) ++ [10] = _
  simp [jl]
theorem ss3 (w : World) (x y z : ByteArray) (hx : x.size ≤ 1048576) (hy : y.size ≤ 1048576) (hz : z.size ≤ 1048576) : SS (w.alloc (.cells #[.string x, .string y, .string z] 9)) (some ⟨w.heap.size, 0, none⟩) [x, y, z] := by
  refine ⟨?_, ?_⟩
  · intro k hk
    match k, hk with
    | 0, _ => show x.size ≤ _; omega
    | 1, _ => show y.size ≤ _; omega
    | 2, _ => show z.size ≤ _; omega
  · intro k hk
    refine ⟨w.heap.size, 0, rfl, by simp, ?_⟩
    match k, hk with
    | 0, _ => exact Rs.new w #[.string x, .string y, .string z] _ 0 _ rfl
    | 1, _ => exact Rs.new w #[.string x, .string y, .string z] _ 1 _ rfl
    | 2, _ => exact Rs.new w #[.string x, .string y, .string z] _ 2 _ rfl
end Go.Proofs.YtnififnogdekiaaDoor.Te
