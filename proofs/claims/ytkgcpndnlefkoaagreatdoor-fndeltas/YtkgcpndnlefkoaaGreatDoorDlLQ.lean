/- Rows of deltas in memory: their cells, who owns them, and what is left of a size. No statement is proved here. -/
import Derived.Test.YtkgcpndnlefkoaaGreatDoorRows
import Derived.Test.YtkgcpndnlefkoaaGreatDoorLemQ
import Derived.Test.YtkgcpndnlefkoaaGreatDoorDTabQ
import Derived.WalkKit
import Derived.ProofKit
import Derived.Below
import Derived.Test.YtkgcpndnlefkoaaGreatDoorInQ
namespace Go.Proofs.YtkgcpndnlefkoaaGreatDoor.Dl
open Go.ChangeShapes Go.WideShapes Go.ChangeAt Go.RowKit

/-- A delta: its path, the old file, the new one. -/
abbrev Ob := ByteArray × (ByteArray × Int × ByteArray) × (ByteArray × Int × ByteArray)
def onil : Ob := (ByteArray.empty, (ByteArray.empty, 0, ByteArray.empty), (ByteArray.empty, 0, ByteArray.empty))
theorem ob_mem (l : List Ob) (k : Nat) (hk : k < l.length) : l.getD k onil ∈ l := by
  rw [List.getD, List.getElem?_eq_getElem hk]; exact List.getElem_mem hk
theorem ob_drop (l : List Ob) (k : Nat) (h : k < l.length) : l.drop k = l.getD k onil :: l.drop (k + 1) := by
  rw [List.drop_eq_getElem_cons h]; simp [List.getD, h]
theorem ob_take (l : List Ob) (k : Nat) (h : k < l.length) : l.take (k + 1) = l.take k ++ [l.getD k onil] := by
  rw [List.take_succ_eq_append_getElem h]; simp [List.getD, h]
/-- A row of cells, told by a function. -/
def rowG (f : Nat → Value) (m : Nat) : List Value := (List.range m).map f
theorem rowG_length (f : Nat → Value) (m : Nat) : (rowG f m).length = m := by simp [rowG]
theorem rowG_at (f : Nat → Value) (m j : Nat) (h : j < m) : (rowG f m)[j]? = some (f j) := by simp [rowG, h]
theorem rowG_congr {f g : Nat → Value} {m : Nat} (h : ∀ j, j < m → f j = g j) : rowG f m = rowG g m := by
  unfold rowG
  apply List.map_congr_left
  intro j hj
  exact h j (List.mem_range.1 hj)
theorem rowG_set (f : Nat → Value) (m i : Nat) (v : Value) : (rowG f m).set i v = rowG (fun j => if j = i then v else f j) m := by
  apply List.ext_getElem?
  intro j
  by_cases hj : j < m
  · rw [rowG_at _ _ _ hj]
    by_cases e : j = i
    · subst e
      rw [List.getElem?_set_self (by rw [rowG_length]; exact hj), if_pos rfl]
    · rw [List.getElem?_set_ne (by omega), rowG_at _ _ _ hj, if_neg e]
  · rw [List.getElem?_eq_none (by rw [List.length_set, rowG_length]; omega), List.getElem?_eq_none (by rw [rowG_length]; omega)]
theorem rowG_append (f : Nat → Value) (m n : Nat) : rowG f (m + n) = rowG f m ++ rowG (fun j => f (m + j)) n := by
  unfold rowG
  rw [List.range_add, List.map_append, List.map_map]
  rfl
theorem infoObj : (Tryz.prog.info? 47).map (fun i => (i.zero, i.size, i.bytes)) = some (some (.agg #[.string ⟨#[]⟩, .string ⟨#[]⟩, .int .i64 0, .string ⟨#[]⟩, .string ⟨#[]⟩, .int .i64 0, .string ⟨#[]⟩]), 7, 96) := by kernel_rfl
/-- The cells of deltas. -/
def ocell (l : List Ob) (j : Nat) : Value :=
  if j % 7 = 0 then .string (l.getD (j / 7) onil).1 else if j % 7 = 1 then .string (l.getD (j / 7) onil).2.1.1 else if j % 7 = 2 then .int .i64 (l.getD (j / 7) onil).2.1.2.1 else if j % 7 = 3 then .string (l.getD (j / 7) onil).2.1.2.2 else if j % 7 = 4 then .string (l.getD (j / 7) onil).2.2.1 else if j % 7 = 5 then .int .i64 (l.getD (j / 7) onil).2.2.2.1 else .string (l.getD (j / 7) onil).2.2.2.2
theorem ocell0 (l : List Ob) (k : Nat) : ocell l (k * 7) = .string (l.getD k onil).1 := by
  unfold ocell; rw [if_pos (by omega), show (k * 7) / 7 = k by omega]
theorem ocell1 (l : List Ob) (k : Nat) : ocell l (k * 7 + 1) = .string (l.getD k onil).2.1.1 := by
  unfold ocell; rw [if_neg (by omega), if_pos (by omega), show (k * 7 + 1) / 7 = k by omega]
theorem ocell2 (l : List Ob) (k : Nat) : ocell l (k * 7 + 2) = .int .i64 (l.getD k onil).2.1.2.1 := by
  unfold ocell; rw [if_neg (by omega), if_neg (by omega), if_pos (by omega), show (k * 7 + 2) / 7 = k by omega]
theorem ocell3 (l : List Ob) (k : Nat) : ocell l (k * 7 + 3) = .string (l.getD k onil).2.1.2.2 := by
  unfold ocell; rw [if_neg (by omega), if_neg (by omega), if_neg (by omega), if_pos (by omega), show (k * 7 + 3) / 7 = k by omega]
theorem ocell4 (l : List Ob) (k : Nat) : ocell l (k * 7 + 4) = .string (l.getD k onil).2.2.1 := by
  unfold ocell; rw [if_neg (by omega), if_neg (by omega), if_neg (by omega), if_neg (by omega), if_pos (by omega), show (k * 7 + 4) / 7 = k by omega]
theorem ocell5 (l : List Ob) (k : Nat) : ocell l (k * 7 + 5) = .int .i64 (l.getD k onil).2.2.2.1 := by
  unfold ocell; rw [if_neg (by omega), if_neg (by omega), if_neg (by omega), if_neg (by omega), if_neg (by omega), if_pos (by omega), show (k * 7 + 5) / 7 = k by omega]
theorem ocell6 (l : List Ob) (k : Nat) : ocell l (k * 7 + 6) = .string (l.getD k onil).2.2.2.2 := by
  unfold ocell; rw [if_neg (by omega), if_neg (by omega), if_neg (by omega), if_neg (by omega), if_neg (by omega), if_neg (by omega), show (k * 7 + 6) / 7 = k by omega]
def ocells (l : List Ob) : List Value := rowG (ocell l) (l.length * 7)
theorem ocells_length (l : List Ob) : (ocells l).length = l.length * 7 := rowG_length _ _
/-- Deltas that can be read. -/
def OB (B : Nat) (w : World) (a : Option Addr) (l : List Ob) : Prop :=
  ∀ k, k < l.length → ∃ g off, a = some ⟨g, off, none⟩ ∧ g < B ∧ w.cell? ⟨g, off + k * 7, none⟩ = some (.string (l.getD k onil).1) ∧ w.cell? ⟨g, off + k * 7 + 1, none⟩ = some (.string (l.getD k onil).2.1.1) ∧ w.cell? ⟨g, off + k * 7 + 2, none⟩ = some (.int .i64 (l.getD k onil).2.1.2.1) ∧ w.cell? ⟨g, off + k * 7 + 3, none⟩ = some (.string (l.getD k onil).2.1.2.2) ∧ w.cell? ⟨g, off + k * 7 + 4, none⟩ = some (.string (l.getD k onil).2.2.1) ∧ w.cell? ⟨g, off + k * 7 + 5, none⟩ = some (.int .i64 (l.getD k onil).2.2.2.1) ∧ w.cell? ⟨g, off + k * 7 + 6, none⟩ = some (.string (l.getD k onil).2.2.2.2)
theorem OB.fr {lo hi B : Nat} {w w' : World} {a : Option Addr} {l : List Ob} (h : OB B w a l) (hF : Fr lo hi w w') (hb : B ≤ lo ∨ hi ≤ lo) : OB B w' a l := fun k hk => by
  obtain ⟨g, off, e, hg, d0, d1, d2, d3, d4, d5, d6⟩ := h k hk
  have ho : g < lo ∨ hi ≤ g := by omega
  exact ⟨g, off, e, hg, hF.cell d0 ho, hF.cell d1 ho, hF.cell d2 ho, hF.cell d3 ho, hF.cell d4 ho, hF.cell d5 ho, hF.cell d6 ho⟩
theorem OB.below {B : Nat} {w w' : World} {a : Option Addr} {l : List Ob} (h : OB B w a l) (hb : Below w.heap.size w w') : OB B w' a l := h.fr (Fr.ofBelow (lo := 0) (hi := 0) hb) (.inr (Nat.le_refl _))
theorem OB.mono {B B' : Nat} {w : World} {a : Option Addr} {l : List Ob} (h : OB B w a l) (hb : B ≤ B') : OB B' w a l := fun k hk => by
  obtain ⟨g, off, e, hg, d⟩ := h k hk
  exact ⟨g, off, e, by omega, d⟩
theorem OB.of {w : World} {base c : Nat} {a : Option Addr} {l : List Ob} (h : w.ownsRow base 47 7 (.slice a l.length c) l.length (ocells l)) : OB w.heap.size w a l := by
  intro k hk
  rcases h.2 with ⟨h', h0⟩ | ⟨g, cap, cur, h', _, hh, _⟩
  · omega
  · simp only [Value.slice.injEq] at h'
    obtain ⟨rfl, _, rfl⟩ := h'
    have hc := h.cellAt
    refine ⟨g, 0, rfl, (Array.getElem?_eq_some_iff.1 hh).1, ?_, ?_, ?_, ?_, ?_, ?_, ?_⟩
    · rw [Nat.zero_add, hc (k * 7) (by omega), ocells, rowG_at _ _ _ (by omega), ocell0]
    · rw [Nat.zero_add, hc (k * 7 + 1) (by omega), ocells, rowG_at _ _ _ (by omega), ocell1]
    · rw [Nat.zero_add, hc (k * 7 + 2) (by omega), ocells, rowG_at _ _ _ (by omega), ocell2]
    · rw [Nat.zero_add, hc (k * 7 + 3) (by omega), ocells, rowG_at _ _ _ (by omega), ocell3]
    · rw [Nat.zero_add, hc (k * 7 + 4) (by omega), ocells, rowG_at _ _ _ (by omega), ocell4]
    · rw [Nat.zero_add, hc (k * 7 + 5) (by omega), ocells, rowG_at _ _ _ (by omega), ocell5]
    · rw [Nat.zero_add, hc (k * 7 + 6) (by omega), ocells, rowG_at _ _ _ (by omega), ocell6]
theorem ocells_app (l m : List Ob) : ocells (l ++ m) = ocells l ++ ocells m := by
  unfold ocells
  rw [List.length_append, Nat.add_mul, rowG_append]
  congr 1
  · apply rowG_congr
    intro j hj
    have h3 : j / 7 < l.length := by omega
    unfold ocell
    have : (l ++ m).getD (j / 7) onil = l.getD (j / 7) onil := by simp [List.getD, List.getElem?_append_left h3]
    rw [this]
  · apply rowG_congr
    intro j hj
    have e : (l.length * 7 + j) / 7 = l.length + j / 7 := by omega
    have e2 : (l.length * 7 + j) % 7 = j % 7 := by omega
    have : (l ++ m).getD (l.length + j / 7) onil = m.getD (j / 7) onil := by rw [List.getD, List.getD, List.getElem?_append_right (by omega), Nat.add_sub_cancel_left]
    unfold ocell
    rw [e, e2, this]
theorem ocells_one (f : Ob) : ocells [f] = [.string f.1, .string f.2.1.1, .int .i64 f.2.1.2.1, .string f.2.1.2.2, .string f.2.2.1, .int .i64 f.2.2.2.1, .string f.2.2.2.2] := by
  unfold ocells
  show [ocell [f] (0 * 7), ocell [f] (0 * 7 + 1), ocell [f] (0 * 7 + 2), ocell [f] (0 * 7 + 3), ocell [f] (0 * 7 + 4), ocell [f] (0 * 7 + 5), ocell [f] (0 * 7 + 6)] = _
  rw [ocell0, ocell1, ocell2, ocell3, ocell4, ocell5, ocell6]
  rfl
end Go.Proofs.YtkgcpndnlefkoaaGreatDoor.Dl
/- Sizes of deltas; rows of deltas while they are copied. No statement is proved here. -/
namespace Go.Proofs.YtkgcpndnlefkoaaGreatDoor.Dl
open Go.ChangeShapes Go.WideShapes Go.ChangeAt Go.RowKit
def FitsO (l : List Ob) : Prop := ∀ o ∈ l, o.1.size ≤ 9223372036854775807 ∧ o.2.1.1.size ≤ 9223372036854775807 ∧ o.2.1.2.2.size ≤ 9223372036854775807 ∧ o.2.2.1.size ≤ 9223372036854775807 ∧ o.2.2.2.2.size ≤ 9223372036854775807
def SmallO (l : List Ob) : Prop := ∀ o ∈ l, o.1.size ≤ 1048576 ∧ o.2.1.1.size ≤ 1048576 ∧ o.2.1.2.2.size ≤ 1048576 ∧ o.2.2.1.size ≤ 1048576 ∧ o.2.2.2.2.size ≤ 1048576
/-- What is left of a size behind a delta, and behind deltas. -/
def left1 (n : Int) (o : Ob) : Int := if n - o.1.size < 0 then -1 else if Fl.left1 (n - o.1.size) o.2.1 < 0 then -1 else if Fl.left1 (Fl.left1 (n - o.1.size) o.2.1) o.2.2 < 0 then -1 else Fl.left1 (Fl.left1 (n - o.1.size) o.2.1) o.2.2
def leftOF : Int → List Ob → Int
  | n, [] => n
  | n, o :: t => if left1 n o < 0 then -1 else leftOF (left1 n o) t
def leftO (n : Int) (l : List Ob) : Int := if n - l.length < 0 then -1 else leftOF (n - l.length) l
theorem left1_nums {n : Int} {o : Ob} (h : ¬ left1 n o < 0) : left1 n o ≤ n ∧ (o.1.size : Int) ≤ n ∧ (o.2.1.1.size : Int) ≤ n ∧ (o.2.1.2.2.size : Int) ≤ n ∧ (o.2.2.1.size : Int) ≤ n ∧ (o.2.2.2.2.size : Int) ≤ n := by
  unfold left1 at h ⊢
  split at h
  · omega
  · rename_i h1
    rw [if_neg h1]
    split at h
    · omega
    · rename_i h2
      rw [if_neg h2]
      split at h
      · omega
      · rename_i h3
        rw [if_neg h3]
        obtain ⟨a1, a2, a3⟩ := Fl.left1_nums h2
        obtain ⟨b1, b2, b3⟩ := Fl.left1_nums h3
        omega
theorem leftOF_stop {n : Int} {o : Ob} {t : List Ob} (h : left1 n o < 0) : leftOF n (o :: t) = -1 := by rw [leftOF, if_pos h]
theorem leftOF_go {n : Int} {o : Ob} {t : List Ob} (h : ¬ left1 n o < 0) : leftOF n (o :: t) = leftOF (left1 n o) t := by rw [leftOF, if_neg h]
theorem leftOF_nums : ∀ (l : List Ob) (n : Int), ¬ leftOF n l < 0 → ∀ o ∈ l, (o.1.size : Int) ≤ n ∧ (o.2.1.1.size : Int) ≤ n ∧ (o.2.1.2.2.size : Int) ≤ n ∧ (o.2.2.1.size : Int) ≤ n ∧ (o.2.2.2.2.size : Int) ≤ n := by
  intro l
  induction l with
  | nil => intro n _ o h; cases h
  | cons h t ih =>
    intro n hn
    by_cases hl : left1 n h < 0
    · rw [leftOF_stop hl] at hn; omega
    · rw [leftOF_go hl] at hn
      obtain ⟨e, hh⟩ := left1_nums hl
      have i := ih _ hn
      intro o ho
      rcases List.mem_cons.1 ho with rfl | ho
      · exact hh
      · have := i o ho; omega
theorem leftO_nums {l : List Ob} {n : Int} (h : ¬ leftO n l < 0) (hn : n ≤ 1048576) : SmallO l ∧ l.length ≤ 1048576 := by
  unfold leftO at h
  split at h
  · omega
  · rename_i h'
    refine ⟨fun o ho => ?_, by omega⟩
    have := leftOF_nums l _ h o ho
    omega
theorem leftO_bd {l : List Ob} {n : Int} (h : ¬ leftO n l < 0) : leftO n l ≤ n := by
  have key : ∀ (l : List Ob) (n : Int), ¬ leftOF n l < 0 → leftOF n l ≤ n := by
    intro l
    induction l with
    | nil => intro n _; exact Int.le_refl _
    | cons o t ih =>
      intro n hn
      by_cases hl : left1 n o < 0
      · rw [leftOF_stop hl] at hn; omega
      · rw [leftOF_go hl] at hn ⊢
        have := ih _ hn
        have := (left1_nums hl).1
        omega
  unfold leftO at h ⊢
  split at h
  · omega
  · rename_i h'
    rw [if_neg h']
    have := key l _ h
    omega
/-- A row of deltas while they are copied. -/
def mixO (l : List Ob) (k j : Nat) : Value := if j < k * 7 then ocell l j else if j % 7 = 2 then .int .i64 0 else if j % 7 = 5 then .int .i64 0 else .string ⟨#[]⟩
theorem mixO_zero (l : List Ob) (m : Nat) : (madeCells (Value.agg #[.string ⟨#[]⟩, .string ⟨#[]⟩, .int .i64 0, .string ⟨#[]⟩, .string ⟨#[]⟩, .int .i64 0, .string ⟨#[]⟩]).cells m).toList = rowG (mixO l 0) m := by
  apply List.ext_getElem?
  intro j
  by_cases hj : j < m
  · rw [rowG_at _ _ _ hj]
    have h3 : j % 7 = 0 ∨ j % 7 = 1 ∨ j % 7 = 2 ∨ j % 7 = 3 ∨ j % 7 = 4 ∨ j % 7 = 5 ∨ j % 7 = 6 := by omega
    unfold mixO
    rw [if_neg (by omega)]
    rcases h3 with h | h | h | h | h | h | h <;> simp [madeCells, hj, Value.cells, h]
  · have h0 : (rowG (mixO l 0) m)[j]? = none := List.getElem?_eq_none (by rw [rowG_length]; omega)
    rw [h0]
    simp [madeCells, hj]
theorem mixO_set (l : List Ob) (k m : Nat) :
    ((((((((rowG (mixO l k) m).set (k * 7) (.string (l.getD k onil).1)).set (k * 7 + 1) (.string (l.getD k onil).2.1.1)).set (k * 7 + 2) (.int .i64 (l.getD k onil).2.1.2.1)).set (k * 7 + 3) (.string (l.getD k onil).2.1.2.2)).set (k * 7 + 4) (.string (l.getD k onil).2.2.1)).set (k * 7 + 5) (.int .i64 (l.getD k onil).2.2.2.1)).set (k * 7 + 6) (.string (l.getD k onil).2.2.2.2)) = rowG (mixO l (k + 1)) m := by
  rw [rowG_set, rowG_set, rowG_set, rowG_set, rowG_set, rowG_set, rowG_set]
  apply rowG_congr
  intro j _
  by_cases e6 : j = k * 7 + 6
  · rw [if_pos e6]; unfold mixO; rw [if_pos (by omega), e6, ocell6]
  · rw [if_neg e6]
    by_cases e5 : j = k * 7 + 5
    · rw [if_pos e5]; unfold mixO; rw [if_pos (by omega), e5, ocell5]
    · rw [if_neg e5]
      by_cases e4 : j = k * 7 + 4
      · rw [if_pos e4]; unfold mixO; rw [if_pos (by omega), e4, ocell4]
      · rw [if_neg e4]
        by_cases e3 : j = k * 7 + 3
        · rw [if_pos e3]; unfold mixO; rw [if_pos (by omega), e3, ocell3]
        · rw [if_neg e3]
          by_cases e2 : j = k * 7 + 2
          · rw [if_pos e2]; unfold mixO; rw [if_pos (by omega), e2, ocell2]
          · rw [if_neg e2]
            by_cases e1 : j = k * 7 + 1
            · rw [if_pos e1]; unfold mixO; rw [if_pos (by omega), e1, ocell1]
            · rw [if_neg e1]
              by_cases e0 : j = k * 7
              · rw [if_pos e0]; unfold mixO; rw [if_pos (by omega), e0, ocell0]
              · rw [if_neg e0]
                unfold mixO
                by_cases h : j < k * 7
                · rw [if_pos h, if_pos (by omega)]
                · have h1 : ¬ j < (k + 1) * 7 := by omega
                  rw [if_neg h, if_neg h1]
theorem mixO_full (l : List Ob) : rowG (mixO l l.length) (l.length * 7) = ocells l := by
  apply rowG_congr
  intro j hj
  unfold mixO
  rw [if_pos hj]
end Go.Proofs.YtkgcpndnlefkoaaGreatDoor.Dl
