/- The text of an index: plain mathematics. No statement is proved here. -/
import Derived.Test.YtnififnogdekiaaDoorRows
import Derived.Test.YtnififnogdekiaaDoorLemQ
import Derived.Test.YtnififnogdekiaaDoorCutLQ
import Derived.Test.YtnififnogdekiaaDoorIdLQ
import Derived.Test.YtnififnogdekiaaDoorPfCQ
import Derived.Test.YtnififnogdekiaaDoorTrCQ
import Derived.Test.YtnififnogdekiaaDoorTrWQ
import Derived.Test.YtnififnogdekiaaDoorJnCQ
import Derived.Test.YtnififnogdekiaaDoorWwCQ
import Derived.Test.YtnififnogdekiaaDoorFiCQ
import Derived.Test.YtnififnogdekiaaDoorEnLQ
import Derived.Test.YtnififnogdekiaaDoorIxMQ
namespace Go.Proofs.YtnififnogdekiaaDoor.En
open Go.ChangeShapes Go.WideShapes Go.ChangeAt Go.RowKit

theorem cut_sum (c : UInt8) : ∀ l : List UInt8, ((cutL c l).map (fun y => y.length + 1)).sum = l.length + 1
  | [] => by simp [cutL]
  | x :: xs => by
    have ih := cut_sum c xs
    by_cases h : x = c
    · simp only [cutL, if_pos h, List.map_cons, List.sum_cons, ih, List.length_nil, List.length_cons]; omega
    · simp only [cutL, if_neg h]
      cases e : cutL c xs with
      | nil => have := (cut_len c xs).1; rw [e] at this; simp at this
      | cons y ys => rw [e] at ih; simp only [List.map_cons, List.sum_cons, List.length_cons] at ih ⊢; omega
theorem sum_bd (m : Nat) : ∀ ls : List (List UInt8), (∀ y ∈ ls, y.length ≤ m) → (ls.map (fun y => y.length + 1)).sum ≤ (m + 1) * ls.length
  | [], _ => by simp
  | y :: ys, h => by
    have ih := sum_bd m ys (fun z hz => h z (List.mem_cons_of_mem _ hz))
    have h1 := h y List.mem_cons_self
    simp only [List.map_cons, List.sum_cons, List.length_cons, Nat.mul_add, Nat.mul_one]
    omega
theorem pf_size {s : ByteArray} (h : pf s = 0) : s.size ≤ 51 := by
  unfold pf at h
  split at h
  · rename_i q
    obtain ⟨q1, q2⟩ := q
    unfold cutOf cutFrom at q1 q2
    rw [List.length_map] at q1
    simp only [List.drop_zero] at q1 q2
    have h2 : ∀ y ∈ cutL 47 s.data.toList, y.length ≤ 12 := fun y hy => by
      have q3 := List.all_eq_true.1 q2 (mkB y) (List.mem_map.2 ⟨y, hy, rfl⟩)
      have q4 : nf (mkB y) = 0 := by simpa using q3
      have := Te.nf_size q4
      rw [← size_eq, mkB_data] at this
      exact this
    have h3 := sum_bd 12 _ h2
    rw [cut_sum, size_eq] at h3
    have h4 : 13 * (cutL 47 s.data.toList).length ≤ 13 * 4 := Nat.mul_le_mul_left _ q1
    omega
  · omega
/-- The line of an entry; the lines of entries; the text of an index. -/
def eL (o : Ob) : List UInt8 := wl [itB o.2.1, Te.wd o.2.2.1, o.2.2.2, o.1]
def xL (l : List Ob) : List UInt8 := l.flatMap eL
def wSum : ByteArray := ⟨#[115, 117, 109]⟩
def xA (l : List Ob) : List UInt8 := xL l ++ wl [wSum, itB (dig (xL l))]
def xB (l : List Ob) : ByteArray := ⟨(xA l).toArray⟩
theorem wl4_len (x y z u : ByteArray) : (wl [x, y, z, u]).length = x.size + y.size + z.size + u.size + 4 := by
  unfold wl jnB
  show (jl [x, y, z, u] 3 ++ [10]).length = _
  simp [jl]
  have e1 : x.data.size = x.size := rfl
  have e2 : y.data.size = y.size := rfl
  have e3 : z.data.size = z.size := rfl
  have e4 : u.data.size = u.size := rfl
  omega
theorem xL_take (l : List Ob) (k : Nat) (h : k < l.length) : xL (l.take (k + 1)) = xL (l.take k) ++ eL (l.getD k onil) := by
  unfold xL
  rw [ob_take l k h, List.flatMap_append]
  simp
theorem inB03 {x : Int} (h : inB x 0 3 = true) : 0 ≤ x ∧ x ≤ 3 := by
  unfold inB at h
  simpa using h
theorem eL_len {o : Ob} (h : eiO o = 0) : (eL o).length ≤ 100 := by
  obtain ⟨h0, h1, h2, h3⟩ := ei_zero h
  obtain ⟨q0, q1⟩ := inB03 h1
  have a := pf_size h0
  have b := Te.isOf_size h3
  have c := Te.wd_size o.2.2.1
  have d := it_size q0 (by omega)
  unfold eL
  rw [wl4_len]
  omega
theorem xL_len {l : List Ob} : ∀ k, k ≤ l.length → (∀ j, j < k → eiF l j = 0) → (xL (l.take k)).length ≤ 100 * k
  | 0, _, _ => by simp [xL]
  | k + 1, h, hf => by
    have ih := xL_len k (by omega) (fun j hj => hf j (by omega))
    rw [xL_take l k (by omega), List.length_append]
    have := eL_len (eiF_zero (hf k (by omega))).1
    omega
end Go.Proofs.YtnififnogdekiaaDoor.En
