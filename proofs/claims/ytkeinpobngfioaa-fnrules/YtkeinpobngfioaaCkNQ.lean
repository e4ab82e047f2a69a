/- Rows of chunks in memory of their own. No statement is proved here. -/
import Derived.Test.YtkeinpobngfioaaRows
import Derived.Test.YtkeinpobngfioaaLemQ
import Derived.Test.YtkeinpobngfioaaLFLemQ
import Derived.Test.YtkeinpobngfioaaDTabQ
import Derived.Test.YtkeinpobngfioaaCkLQ
import Derived.WalkKit
import Derived.ProofKit
import Derived.Below
namespace Go.Proofs.Ytkeinpobngfioaa
open Go.ChangeShapes Go.WideShapes Go.ChangeAt Go.RowKit

/-- A row of cells, told by a function. -/
def rowK (f : Nat → Value) (m : Nat) : List Value := (List.range m).map f
theorem rowK_length (f : Nat → Value) (m : Nat) : (rowK f m).length = m := by simp [rowK]
theorem rowK_at (f : Nat → Value) (m j : Nat) (h : j < m) : (rowK f m)[j]? = some (f j) := by simp [rowK, h]
theorem rowK_congr {f g : Nat → Value} {m : Nat} (h : ∀ j, j < m → f j = g j) : rowK f m = rowK g m := by
  unfold rowK
  apply List.map_congr_left
  intro j hj
  exact h j (List.mem_range.1 hj)
theorem rowK_set (f : Nat → Value) (m i : Nat) (v : Value) : (rowK f m).set i v = rowK (fun j => if j = i then v else f j) m := by
  apply List.ext_getElem?
  intro j
  by_cases hj : j < m
  · rw [rowK_at _ _ _ hj]
    by_cases e : j = i
    · subst e
      rw [List.getElem?_set_self (by rw [rowK_length]; exact hj), if_pos rfl]
    · rw [List.getElem?_set_ne (by omega), rowK_at _ _ _ hj, if_neg e]
  · rw [List.getElem?_eq_none (by rw [List.length_set, rowK_length]; omega), List.getElem?_eq_none (by rw [rowK_length]; omega)]
theorem rowK_app (f : Nat → Value) (m : Nat) (vs : List Value) (g : Nat → Value) (h1 : ∀ j, j < m → f j = g j) (h2 : ∀ j, j < vs.length → vs[j]? = some (g (m + j))) : rowK f m ++ vs = rowK g (m + vs.length) := by
  apply List.ext_getElem?
  intro j
  by_cases hj : j < m
  · rw [List.getElem?_append_left (by rw [rowK_length]; exact hj), rowK_at _ _ _ hj, rowK_at _ _ _ (by omega), h1 j hj]
  · rw [List.getElem?_append_right (by rw [rowK_length]; omega), rowK_length]
    by_cases hj2 : j - m < vs.length
    · rw [h2 _ hj2, rowK_at _ _ _ (by omega), show m + (j - m) = j by omega]
    · rw [List.getElem?_eq_none (by omega), List.getElem?_eq_none (by rw [rowK_length]; omega)]
theorem infoChunk : (Try.prog.info? 77).map (fun i => (i.zero, i.size, i.bytes)) = some (some (.agg #[.int .i64 0, .slice none 0 0, .slice none 0 0, .slice none 0 0]), 4, 80) := by kernel_rfl
/-- The lines number j: three lists a chunk. -/
def lns (l : List Ck) (j : Nat) : List ByteArray := sd (j % 3) (l.getD (j / 3) cnil)
theorem lns0 (l : List Ck) (k : Nat) : lns l (k * 3) = (l.getD k cnil).2.1 := by unfold lns; rw [show k * 3 % 3 = 0 by omega, show k * 3 / 3 = k by omega]; rfl
theorem lns1 (l : List Ck) (k : Nat) : lns l (k * 3 + 1) = (l.getD k cnil).2.2.1 := by unfold lns; rw [show (k * 3 + 1) % 3 = 1 by omega, show (k * 3 + 1) / 3 = k by omega]; rfl
theorem lns2 (l : List Ck) (k : Nat) : lns l (k * 3 + 2) = (l.getD k cnil).2.2.2 := by unfold lns; rw [show (k * 3 + 2) % 3 = 2 by omega, show (k * 3 + 2) / 3 = k by omega]; rfl
/-- The cells of chunks l whose lines lie at sl. -/
def kcell (l : List Ck) (sl : Nat → Value) (j : Nat) : Value := if j % 4 = 0 then .int .i64 (l.getD (j / 4) cnil).1 else sl (j / 4 * 3 + (j % 4 - 1))
theorem kcell0 (l : List Ck) (sl : Nat → Value) (k : Nat) : kcell l sl (k * 4) = .int .i64 (l.getD k cnil).1 := by
  unfold kcell; rw [if_pos (by omega), show k * 4 / 4 = k by omega]
theorem kcellS (l : List Ck) (sl : Nat → Value) (k i : Nat) (hi : i < 3) : kcell l sl (k * 4 + (i + 1)) = sl (k * 3 + i) := by
  unfold kcell; rw [if_neg (by omega), show (k * 4 + (i + 1)) / 4 = k by omega, show (k * 4 + (i + 1)) % 4 - 1 = i by omega]
theorem kcell1 (l : List Ck) (sl : Nat → Value) (k : Nat) : kcell l sl (k * 4 + 1) = sl (k * 3) := kcellS l sl k 0 (by omega)
theorem kcell2 (l : List Ck) (sl : Nat → Value) (k : Nat) : kcell l sl (k * 4 + 2) = sl (k * 3 + 1) := kcellS l sl k 1 (by omega)
theorem kcell3 (l : List Ck) (sl : Nat → Value) (k : Nat) : kcell l sl (k * 4 + 3) = sl (k * 3 + 2) := kcellS l sl k 2 (by omega)
/-- Chunks in memory of their own: the row, and each list of lines. -/
structure KO (base : Nat) (w : World) (v : Value) (l : List Ck) (sl : Nat → Value) : Prop where
  row : w.ownsRow base 77 4 v l.length (rowK (kcell l sl) (l.length * 4))
  each : ∀ j, j < l.length * 3 → w.ownsRow base 9 1 (sl j) (lns l j).length ((lns l j).map Value.string)
  apart : ∀ i j, i < j → j < l.length * 3 → ∀ b, (sl i).ownBlock = some b → (sl j).ownBlock = some b → False
  off : ∀ j, j < l.length * 3 → ∀ b, v.ownBlock = some b → (sl j).ownBlock = some b → False
theorem shapeK {w : World} {base : Nat} {e : TypeId} {s : Nat} {v : Value} {n : Nat} {xs : List Value} (h : w.ownsRow base e s v n xs) : ∃ a c, v = .slice a n c := by
  rcases h.2 with ⟨rfl, rfl⟩ | ⟨g, cap, cur, rfl, _⟩
  · exact ⟨_, _, rfl⟩
  · exact ⟨_, _, rfl⟩
theorem KO.fr {lo hi base : Nat} {w w' : World} {v : Value} {l : List Ck} {sl : Nat → Value} (h : KO base w v l sl) (hF : Fr lo hi w w') (hv : ∀ j, v.ownBlock = some j → j < lo ∨ hi ≤ j) (hb : ∀ k, k < l.length * 3 → ∀ j, (sl k).ownBlock = some j → j < lo ∨ hi ≤ j) : KO base w' v l sl :=
  ⟨hF.own h.row hv, fun k hk => hF.own (h.each k hk) (hb k hk), h.apart, h.off⟩
theorem KO.below {base : Nat} {w w' : World} {v : Value} {l : List Ck} {sl : Nat → Value} (h : KO base w v l sl) (hb : Below w.heap.size w w') : KO base w' v l sl :=
  h.fr (Fr.ofBelow (lo := 0) (hi := 0) hb) (fun _ _ => .inr (Nat.zero_le _)) (fun _ _ _ _ => .inr (Nat.zero_le _))
theorem ownMonoK {w : World} {base b : Nat} {e : TypeId} {s : Nat} {v : Value} {n : Nat} {xs : List Value} (h : w.ownsRow base e s v n xs) (hb : b ≤ base) : w.ownsRow b e s v n xs := by
  refine ⟨h.1, ?_⟩
  rcases h.2 with h' | ⟨g, cap, cur, h1, h2, h3⟩
  · exact .inl h'
  · exact .inr ⟨g, cap, cur, h1, by omega, h3⟩
theorem KO.mono {base b : Nat} {w : World} {v : Value} {l : List Ck} {sl : Nat → Value} (h : KO base w v l sl) (hb : b ≤ base) : KO b w v l sl :=
  ⟨ownMonoK h.row hb, fun k hk => ownMonoK (h.each k hk) hb, h.apart, h.off⟩
theorem KO.nil (base : Nat) (w : World) (sl : Nat → Value) : KO base w (.slice none 0 0) [] sl :=
  ⟨⟨rfl, .inl ⟨rfl, rfl⟩⟩, fun _ h => absurd h (Nat.not_lt_zero _), fun _ _ _ h => absurd h (Nat.not_lt_zero _), fun _ h => absurd h (Nat.not_lt_zero _)⟩
/-- A row of strings that is owned, as a slice that can be read. -/
theorem ownSSN {w : World} {base : Nat} {v : Value} {ss : List ByteArray} (h : w.ownsRow base 9 1 v ss.length (ss.map Value.string)) (hz : ∀ k, k < ss.length → (ss.getD k ByteArray.empty).size ≤ 9223372036854775807) : ∃ a c, v = .slice a ss.length c ∧ SSN w.heap.size w a c ss := by
  obtain ⟨a, c, e⟩ := shapeS h
  refine ⟨a, c, e, ownSS (by rw [← e]; exact h) hz, fun ha => ?_⟩
  rcases h.2 with ⟨h', _⟩ | ⟨g, cap, cur, h', _⟩
  · rw [e] at h'; simp only [Value.slice.injEq] at h'; exact h'.2.2
  · rw [e, ha] at h'; simp only [Value.slice.injEq] at h'; exact absurd h'.1 (by simp)
/-- Chunks that are owned can be read. -/
theorem KO.read {base : Nat} {w : World} {a : Option Addr} {c : Nat} {l : List Ck} {sl : Nat → Value} (h : KO base w (.slice a l.length c) l sl) (hf : FitsK l) : KB w.heap.size w a l := by
  intro k hk
  obtain ⟨m1, m2, m3⟩ := mem_lns (ck_mem l k hk)
  have e1 := h.each (k * 3) (by omega)
  have e2 := h.each (k * 3 + 1) (by omega)
  have e3 := h.each (k * 3 + 2) (by omega)
  rw [lns0] at e1
  rw [lns1] at e2
  rw [lns2] at e3
  obtain ⟨a1, c1, q1, s1⟩ := ownSSN e1 (hf _ m1)
  obtain ⟨a2, c2, q2, s2⟩ := ownSSN e2 (hf _ m2)
  obtain ⟨a3, c3, q3, s3⟩ := ownSSN e3 (hf _ m3)
  rcases h.row.2 with ⟨h', h0⟩ | ⟨g, cap, cur, h', _, hh, _⟩
  · omega
  · simp only [Value.slice.injEq] at h'
    obtain ⟨rfl, _, rfl⟩ := h'
    have hc := h.row.cellAt
    refine ⟨g, 0, a1, c1, a2, c2, a3, c3, rfl, (Array.getElem?_eq_some_iff.1 hh).1, ?_, ?_, ?_, ?_, s1, s2, s3⟩
    · rw [Nat.zero_add, hc (k * 4) (by omega), rowK_at _ _ _ (by omega), kcell0]
    · rw [Nat.zero_add, hc (k * 4 + 1) (by omega), rowK_at _ _ _ (by omega), kcell1, q1]
    · rw [Nat.zero_add, hc (k * 4 + 2) (by omega), rowK_at _ _ _ (by omega), kcell2, q2]
    · rw [Nat.zero_add, hc (k * 4 + 3) (by omega), rowK_at _ _ _ (by omega), kcell3, q3]
/-- What toChunkS has copied behind k rounds. -/
def mixK (l : List Ck) (sl : Nat → Value) (k : Nat) (j : Nat) : Value := if j < k * 4 then kcell l sl j else if j % 4 = 0 then .int .i64 0 else .slice none 0 0
theorem mixK_zero (l : List Ck) (sl : Nat → Value) (n : Nat) : (madeCells (Value.agg #[.int .i64 0, .slice none 0 0, .slice none 0 0, .slice none 0 0]).cells (n * 4)).toList = rowK (mixK l sl 0) (n * 4) := by
  apply List.ext_getElem?
  intro j
  by_cases hj : j < n * 4
  · rw [rowK_at _ _ _ hj]
    have h3 : j % 4 = 0 ∨ j % 4 = 1 ∨ j % 4 = 2 ∨ j % 4 = 3 := by omega
    rcases h3 with h | h | h | h <;> simp [madeCells, hj, Value.cells, h, mixK]
  · have e : (rowK (mixK l sl 0) (n * 4))[j]? = none := List.getElem?_eq_none (by rw [rowK_length]; omega)
    rw [e]
    simp [madeCells, hj]
theorem mixK_full (l : List Ck) (sl : Nat → Value) : rowK (mixK l sl l.length) (l.length * 4) = rowK (kcell l sl) (l.length * 4) := rowK_congr fun j hj => by unfold mixK; rw [if_pos hj]
/-- Three lists more. -/
def sl3 (sl : Nat → Value) (k : Nat) (v1 v2 v3 : Value) (i : Nat) : Value := if i = k * 3 then v1 else if i = k * 3 + 1 then v2 else if i = k * 3 + 2 then v3 else sl i
theorem sl3_0 (sl : Nat → Value) (k : Nat) (v1 v2 v3 : Value) : sl3 sl k v1 v2 v3 (k * 3) = v1 := if_pos rfl
theorem sl3_1 (sl : Nat → Value) (k : Nat) (v1 v2 v3 : Value) : sl3 sl k v1 v2 v3 (k * 3 + 1) = v2 := by unfold sl3; rw [if_neg (by omega), if_pos rfl]
theorem sl3_2 (sl : Nat → Value) (k : Nat) (v1 v2 v3 : Value) : sl3 sl k v1 v2 v3 (k * 3 + 2) = v3 := by unfold sl3; rw [if_neg (by omega), if_neg (by omega), if_pos rfl]
theorem sl3_old (sl : Nat → Value) (k : Nat) (v1 v2 v3 : Value) (i : Nat) (h : i < k * 3) : sl3 sl k v1 v2 v3 i = sl i := by unfold sl3; rw [if_neg (by omega), if_neg (by omega), if_neg (by omega)]
theorem mixK_set (l : List Ck) (sl : Nat → Value) (k n : Nat) (v1 v2 v3 : Value) :
    ((((rowK (mixK l sl k) n).set (k * 4) (.int .i64 (l.getD k cnil).1)).set (k * 4 + 1) v1).set (k * 4 + 2) v2).set (k * 4 + 3) v3 = rowK (mixK l (sl3 sl k v1 v2 v3) (k + 1)) n := by
  rw [rowK_set, rowK_set, rowK_set, rowK_set]
  apply rowK_congr
  intro j _
  show (if j = k * 4 + 3 then v3 else if j = k * 4 + 2 then v2 else if j = k * 4 + 1 then v1 else if j = k * 4 then _ else _) = _
  by_cases h3 : j = k * 4 + 3
  · subst h3
    rw [if_pos rfl]; unfold mixK; rw [if_pos (by omega), kcell3, sl3_2]
  rw [if_neg h3]
  by_cases h2 : j = k * 4 + 2
  · subst h2
    rw [if_pos rfl]; unfold mixK; rw [if_pos (by omega), kcell2, sl3_1]
  rw [if_neg h2]
  by_cases h1 : j = k * 4 + 1
  · subst h1
    rw [if_pos rfl]; unfold mixK; rw [if_pos (by omega), kcell1, sl3_0]
  rw [if_neg h1]
  by_cases h0 : j = k * 4
  · subst h0
    rw [if_pos rfl]; unfold mixK; rw [if_pos (by omega), kcell0]
  rw [if_neg h0]
  unfold mixK
  by_cases hlt : j < k * 4
  · rw [if_pos hlt, if_pos (by omega)]
    unfold kcell
    by_cases hm : j % 4 = 0
    · rw [if_pos hm, if_pos hm]
    · rw [if_neg hm, if_neg hm, sl3_old _ _ _ _ _ _ (by omega)]
  · have hlt' : ¬ j < (k + 1) * 4 := by omega
    rw [if_neg hlt, if_neg hlt']
end Go.Proofs.Ytkeinpobngfioaa
