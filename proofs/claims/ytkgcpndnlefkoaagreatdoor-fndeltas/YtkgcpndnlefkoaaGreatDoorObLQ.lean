/- Rows of objects in memory: their cells, who owns them, and what is left of a size. No statement is proved here. -/
import Derived.Test.YtkgcpndnlefkoaaGreatDoorRows
import Derived.Test.YtkgcpndnlefkoaaGreatDoorLemQ
import Derived.Test.YtkgcpndnlefkoaaGreatDoorDTabQ
import Derived.WalkKit
import Derived.ProofKit
import Derived.Below
import Derived.Test.YtkgcpndnlefkoaaGreatDoorLFLemQ
import Derived.Test.YtkgcpndnlefkoaaGreatDoorInQ
import Derived.Test.YtkgcpndnlefkoaaGreatDoorDigCQ
import Derived.WalkSpells
import Derived.Deep.QuietTactic
import Derived.BigQuiet
import Derived.Deep.RegionWith
import Derived.Deep.RegionHeld
import Derived.Laws.Cover1
import Derived.Deep.CutRange
namespace Go.Proofs.YtkgcpndnlefkoaaGreatDoor
open Go.ChangeShapes Go.WideShapes Go.ChangeAt Go.RowKit

/-- An object: its id, its kind, its data. -/
abbrev Ob := ByteArray × Int × ByteArray
def onil : Ob := (ByteArray.empty, 0, ByteArray.empty)
theorem ob_mem (l : List Ob) (k : Nat) (hk : k < l.length) : l.getD k onil ∈ l := by
  rw [List.getD, List.getElem?_eq_getElem hk]; exact List.getElem_mem hk
theorem ob_drop (l : List Ob) (k : Nat) (h : k < l.length) : l.drop k = l.getD k onil :: l.drop (k + 1) := by
  rw [List.drop_eq_getElem_cons h]; simp [List.getD, h]
theorem ob_take (l : List Ob) (k : Nat) (h : k < l.length) : l.take (k + 1) = l.take k ++ [l.getD k onil] := by
  rw [List.take_succ_eq_append_getElem h]; simp [List.getD, h]
/-- A row of cells, told by a function. -/
def rowG (f : Nat → Value) (m : Nat) : List Value := (List.range m).map f
theorem rowG_length (f : Nat → Value) (m : Nat) : (rowG f m).length = m := by simp [rowG]
theorem rowG_at (f : Nat → Value) (m j : Nat) (h : j < m) : (rowG f m)[j]? = some (f j) := by simp [rowG, h]
theorem rowG_congr {f g : Nat → Value} {m : Nat} (h : ∀ j, j < m → f j = g j) : rowG f m = rowG g m := by
  unfold rowG
  apply List.map_congr_left
  intro j hj
  exact h j (List.mem_range.1 hj)
theorem rowG_set (f : Nat → Value) (m i : Nat) (v : Value) : (rowG f m).set i v = rowG (fun j => if j = i then v else f j) m := by
  apply List.ext_getElem?
  intro j
  by_cases hj : j < m
  · rw [rowG_at _ _ _ hj]
    by_cases e : j = i
    · subst e
      rw [List.getElem?_set_self (by rw [rowG_length]; exact hj), if_pos rfl]
    · rw [List.getElem?_set_ne (by omega), rowG_at _ _ _ hj, if_neg e]
  · rw [List.getElem?_eq_none (by rw [List.length_set, rowG_length]; omega), List.getElem?_eq_none (by rw [rowG_length]; omega)]
theorem rowG_append (f : Nat → Value) (m n : Nat) : rowG f (m + n) = rowG f m ++ rowG (fun j => f (m + j)) n := by
  unfold rowG
  rw [List.range_add, List.map_append, List.map_map]
  rfl
theorem infoObj : (Tryz.prog.info? 93).map (fun i => (i.zero, i.size, i.bytes)) = some (some (.agg #[.string ⟨#[]⟩, .int .i64 0, .string ⟨#[]⟩]), 3, 40) := by kernel_rfl
/-- The cells of objects. -/
def ocell (l : List Ob) (j : Nat) : Value :=
  if j % 3 = 0 then .string (l.getD (j / 3) onil).1 else if j % 3 = 1 then .int .i64 (l.getD (j / 3) onil).2.1 else .string (l.getD (j / 3) onil).2.2
theorem ocell0 (l : List Ob) (k : Nat) : ocell l (k * 3) = .string (l.getD k onil).1 := by
  unfold ocell; rw [if_pos (by omega), show k * 3 / 3 = k by omega]
theorem ocell1 (l : List Ob) (k : Nat) : ocell l (k * 3 + 1) = .int .i64 (l.getD k onil).2.1 := by
  unfold ocell; rw [if_neg (by omega), if_pos (by omega), show (k * 3 + 1) / 3 = k by omega]
theorem ocell2 (l : List Ob) (k : Nat) : ocell l (k * 3 + 2) = .string (l.getD k onil).2.2 := by
  unfold ocell; rw [if_neg (by omega), if_neg (by omega), show (k * 3 + 2) / 3 = k by omega]
def ocells (l : List Ob) : List Value := rowG (ocell l) (l.length * 3)
theorem ocells_length (l : List Ob) : (ocells l).length = l.length * 3 := rowG_length _ _
/-- Objects that can be read. -/
def OB (B : Nat) (w : World) (a : Option Addr) (l : List Ob) : Prop :=
  ∀ k, k < l.length → ∃ g off, a = some ⟨g, off, none⟩ ∧ g < B ∧ w.cell? ⟨g, off + k * 3, none⟩ = some (.string (l.getD k onil).1) ∧ w.cell? ⟨g, off + k * 3 + 1, none⟩ = some (.int .i64 (l.getD k onil).2.1) ∧ w.cell? ⟨g, off + k * 3 + 2, none⟩ = some (.string (l.getD k onil).2.2)
theorem OB.fr {lo hi B : Nat} {w w' : World} {a : Option Addr} {l : List Ob} (h : OB B w a l) (hF : Fr lo hi w w') (hb : B ≤ lo ∨ hi ≤ lo) : OB B w' a l := fun k hk => by
  obtain ⟨g, off, e, hg, d0, d1, d2⟩ := h k hk
  have ho : g < lo ∨ hi ≤ g := by omega
  exact ⟨g, off, e, hg, hF.cell d0 ho, hF.cell d1 ho, hF.cell d2 ho⟩
theorem OB.below {B : Nat} {w w' : World} {a : Option Addr} {l : List Ob} (h : OB B w a l) (hb : Below w.heap.size w w') : OB B w' a l := h.fr (Fr.ofBelow (lo := 0) (hi := 0) hb) (.inr (Nat.le_refl _))
theorem OB.mono {B B' : Nat} {w : World} {a : Option Addr} {l : List Ob} (h : OB B w a l) (hb : B ≤ B') : OB B' w a l := fun k hk => by
  obtain ⟨g, off, e, hg, d⟩ := h k hk
  exact ⟨g, off, e, by omega, d⟩
theorem OB.of {w : World} {base c : Nat} {a : Option Addr} {l : List Ob} (h : w.ownsRow base 93 3 (.slice a l.length c) l.length (ocells l)) : OB w.heap.size w a l := by
  intro k hk
  rcases h.2 with ⟨h', h0⟩ | ⟨g, cap, cur, h', _, hh, _⟩
  · omega
  · simp only [Value.slice.injEq] at h'
    obtain ⟨rfl, _, rfl⟩ := h'
    have hc := h.cellAt
    refine ⟨g, 0, rfl, (Array.getElem?_eq_some_iff.1 hh).1, ?_, ?_, ?_⟩
    · rw [Nat.zero_add, hc (k * 3) (by omega), ocells, rowG_at _ _ _ (by omega), ocell0]
    · rw [Nat.zero_add, hc (k * 3 + 1) (by omega), ocells, rowG_at _ _ _ (by omega), ocell1]
    · rw [Nat.zero_add, hc (k * 3 + 2) (by omega), ocells, rowG_at _ _ _ (by omega), ocell2]
/-- Ids and data are of a size that a machine has. -/
def FitsO (l : List Ob) : Prop := ∀ o ∈ l, o.1.size ≤ 9223372036854775807 ∧ o.2.2.size ≤ 9223372036854775807
def SmallO (l : List Ob) : Prop := ∀ o ∈ l, o.1.size ≤ 1048576 ∧ o.2.2.size ≤ 1048576
/-- What is left of a size behind an object, and behind objects. -/
def left1 (n : Int) (o : Ob) : Int := if n - o.1.size < 0 then -1 else if n - o.1.size - o.2.2.size < 0 then -1 else n - o.1.size - o.2.2.size
def leftOF : Int → List Ob → Int
  | n, [] => n
  | n, o :: t => if left1 n o < 0 then -1 else leftOF (left1 n o) t
def leftO (n : Int) (l : List Ob) : Int := if n - l.length < 0 then -1 else leftOF (n - l.length) l
theorem left1_nums {n : Int} {o : Ob} (h : ¬ left1 n o < 0) : left1 n o = n - o.1.size - o.2.2.size ∧ (o.1.size : Int) ≤ n ∧ (o.2.2.size : Int) ≤ n := by
  unfold left1 at h ⊢
  split at h
  · omega
  · rename_i h1
    rw [if_neg h1]
    split at h
    · omega
    · rename_i h2
      rw [if_neg h2]; omega
theorem leftOF_stop {n : Int} {o : Ob} {t : List Ob} (h : left1 n o < 0) : leftOF n (o :: t) = -1 := by rw [leftOF, if_pos h]
theorem leftOF_go {n : Int} {o : Ob} {t : List Ob} (h : ¬ left1 n o < 0) : leftOF n (o :: t) = leftOF (left1 n o) t := by rw [leftOF, if_neg h]
theorem leftOF_nums : ∀ (l : List Ob) (n : Int), ¬ leftOF n l < 0 → ∀ o ∈ l, (o.1.size : Int) ≤ n ∧ (o.2.2.size : Int) ≤ n := by
  intro l
  induction l with
  | nil => intro n _ o h; cases h
  | cons h t ih =>
    intro n hn
    by_cases hl : left1 n h < 0
    · rw [leftOF_stop hl] at hn; omega
    · rw [leftOF_go hl] at hn
      obtain ⟨e, h1, h2⟩ := left1_nums hl
      have i := ih _ hn
      rw [e] at i
      intro o ho
      rcases List.mem_cons.1 ho with rfl | ho
      · exact ⟨h1, h2⟩
      · have := i o ho; omega
theorem leftO_nums {l : List Ob} {n : Int} (h : ¬ leftO n l < 0) (hn : n ≤ 1048576) : SmallO l ∧ l.length ≤ 1048576 := by
  unfold leftO at h
  split at h
  · omega
  · rename_i h'
    refine ⟨fun o ho => ?_, by omega⟩
    have := leftOF_nums l _ h o ho
    omega
theorem leftO_bd {l : List Ob} {n : Int} (h : ¬ leftO n l < 0) : leftO n l ≤ n := by
  have key : ∀ (l : List Ob) (n : Int), ¬ leftOF n l < 0 → leftOF n l ≤ n := by
    intro l
    induction l with
    | nil => intro n _; exact Int.le_refl _
    | cons o t ih =>
      intro n hn
      by_cases hl : left1 n o < 0
      · rw [leftOF_stop hl] at hn; omega
      · rw [leftOF_go hl] at hn ⊢
        have := ih _ hn
        have := (left1_nums hl).1
        omega
  unfold leftO at h ⊢
  split at h
  · omega
  · rename_i h'
    rw [if_neg h']
    have := key l _ h
    omega
/-- A row of objects while they are copied. -/
def mixO (l : List Ob) (k j : Nat) : Value := if j < k * 3 then ocell l j else if j % 3 = 1 then .int .i64 0 else .string ⟨#[]⟩
theorem mixO_zero (l : List Ob) (m : Nat) : (madeCells (Value.agg #[.string ⟨#[]⟩, .int .i64 0, .string ⟨#[]⟩]).cells m).toList = rowG (mixO l 0) m := by
  apply List.ext_getElem?
  intro j
  by_cases hj : j < m
  · rw [rowG_at _ _ _ hj]
    have h3 : j % 3 = 0 ∨ j % 3 = 1 ∨ j % 3 = 2 := by omega
    unfold mixO
    rw [if_neg (by omega)]
    rcases h3 with h | h | h <;> simp [madeCells, hj, Value.cells, h]
  · have h0 : (rowG (mixO l 0) m)[j]? = none := List.getElem?_eq_none (by rw [rowG_length]; omega)
    rw [h0]
    simp [madeCells, hj]
theorem mixO_set (l : List Ob) (k m : Nat) :
    (((rowG (mixO l k) m).set (k * 3) (.string (l.getD k onil).1)).set (k * 3 + 1) (.int .i64 (l.getD k onil).2.1)).set (k * 3 + 2) (.string (l.getD k onil).2.2) = rowG (mixO l (k + 1)) m := by
  rw [rowG_set, rowG_set, rowG_set]
  apply rowG_congr
  intro j _
  by_cases e2 : j = k * 3 + 2
  · rw [if_pos e2]; unfold mixO; rw [if_pos (by omega), e2, ocell2]
  · rw [if_neg e2]
    by_cases e1 : j = k * 3 + 1
    · rw [if_pos e1]; unfold mixO; rw [if_pos (by omega), e1, ocell1]
    · rw [if_neg e1]
      by_cases e0 : j = k * 3
      · rw [if_pos e0]; unfold mixO; rw [if_pos (by omega), e0, ocell0]
      · rw [if_neg e0]
        unfold mixO
        by_cases h : j < k * 3
        · rw [if_pos h, if_pos (by omega)]
        · have h1 : ¬ j < (k + 1) * 3 := by omega
          rw [if_neg h, if_neg h1]
theorem mixO_full (l : List Ob) : rowG (mixO l l.length) (l.length * 3) = ocells l := by
  apply rowG_congr
  intro j hj
  unfold mixO
  rw [if_pos hj]
end Go.Proofs.YtkgcpndnlefkoaaGreatDoor
/- The contracts of StoreFault (the program's and the specification's). No statement is proved here. -/
namespace Go.Proofs.YtkgcpndnlefkoaaGreatDoor
open Go.ChangeShapes Go.WideShapes Go.ChangeAt Go.RowKit

/-- The fault of the object at a place. -/
def leS (a b : ByteArray) : Bool := Op.bytesLess a.toList b.toList || a.toList == b.toList
def obF (l : List Ob) (k : Nat) : Int :=
  if idK (l.getD k onil).2.1 (l.getD k onil).2.2 = 0 then
    (if idT (l.getD k onil).2.1 (l.getD k onil).2.2 = (l.getD k onil).1 then (if 0 < k ∧ leS (l.getD k onil).1 (l.getD (k - 1) onil).1 = true then 1 else 0) else 1)
  else idK (l.getD k onil).2.1 (l.getD k onil).2.2
/-- The fault of a store. -/
def sf (l : List Ob) : Int := if 200 < l.length then 2 else (((List.range l.length).map (obF l)).find? (fun x => decide (x ≠ 0))).getD 0
theorem sf_many {l : List Ob} (h : 200 < l.length) : sf l = 2 := if_pos h
theorem sf_bad {l : List Ob} {k : Nat} (h : ¬ 200 < l.length) (hk : k < l.length) (h0 : ∀ j, j < k → obF l j = 0) (hb : ¬ obF l k = 0) : sf l = obF l k := by
  unfold sf
  rw [if_neg h]
  have : ((List.range l.length).map (obF l)).find? (fun x => decide (x ≠ 0)) = some (obF l k) := by
    rw [List.find?_eq_some_iff_getElem]
    refine ⟨by simp [hb], k, by simp [hk], by simp, fun j hj => ?_⟩
    simp [h0 j hj]
  rw [this]; rfl
theorem sf_ok {l : List Ob} (h : ¬ 200 < l.length) (h0 : ∀ j, j < l.length → obF l j = 0) : sf l = 0 := by
  unfold sf
  rw [if_neg h]
  have : ((List.range l.length).map (obF l)).find? (fun x => decide (x ≠ 0)) = none := by
    rw [List.find?_eq_none]
    intro x hx
    obtain ⟨j, hj, rfl⟩ := List.mem_map.1 hx
    simp [h0 j (List.mem_range.1 hj)]
  rw [this]; rfl
/-- A store without a fault. -/
theorem sf_zero {l : List Ob} (h : sf l = 0) : ¬ 200 < l.length ∧ ∀ j, j < l.length → obF l j = 0 := by
  have h1 : ¬ 200 < l.length := fun h' => by rw [sf_many h'] at h; omega
  refine ⟨h1, ?_⟩
  have key : ∀ n j, j < n → j < l.length → obF l j = 0 := by
    intro n
    induction n with
    | zero => intro j hj; omega
    | succ n ih =>
      intro j hj hl
      by_cases e : j < n
      · exact ih j e hl
      · by_cases hb : obF l j = 0
        · exact hb
        · rw [sf_bad h1 hl (fun i hi => ih i (by omega) (by omega)) hb] at h
          exact h
  exact fun j hj => key (j + 1) j (by omega) hj

/-- A variable that holds an answer of a code and a text. -/
def RV (W : World) (K : Int) (T : ByteArray) (s : Value) (wx : World) : Prop := ∃ p : Nat, s = .pointer (some ⟨p, 0, none⟩) ∧ Res2 wx p (.int .i64 K) (.string T) ∧ Below W.heap.size W wx ∧ W.heap.size ≤ p ∧ p < wx.heap.size
theorem zcell {w w' : World} {b o : Nat} {v : Value} (h : Below w.heap.size w w') (hc : w.cell? ⟨b, o, none⟩ = some v) : w'.cell? ⟨b, o, none⟩ = some v := (Fr.ofBelow (lo := 0) (hi := 0) h).cell hc (.inr (Nat.zero_le _))
theorem twoKeep {u : World} {p b o : Nat} {v0 v1 x : Value} (hc : u.cell? ⟨b, o, none⟩ = some x) (h : b < p) : ((u.setCell ⟨p, 0, none⟩ v0).setCell ⟨p, 1, none⟩ v1).cell? ⟨b, o, none⟩ = some x := by
  rw [World.cell?_setCell_other _ _ _ _ (by intro c; simp only [Addr.mk.injEq] at c; omega), World.cell?_setCell_other _ _ _ _ (by intro c; simp only [Addr.mk.injEq] at c; omega)]
  exact hc
theorem beqS (s : ByteArray) : (s.toList == s.toList) = true := beq_bytes_true rfl
theorem newRes {w w1 : World} {u v : Value} {t : TypeId} (b : Below ((w.alloc (.cells #[u, v] t)).drew).heap.size ((w.alloc (.cells #[u, v] t)).drew) w1) : w1.cell? ⟨w.heap.size, 0, none⟩ = some u ∧ w1.cell? ⟨w.heap.size, 1, none⟩ = some v ∧ w1.frozen? ⟨w.heap.size, 0, none⟩ = false ∧ w1.frozen? ⟨w.heap.size, 1, none⟩ = false := by
  have h : Res2 ((w.alloc (.cells #[u, v] t)).drew) w.heap.size u v := by
    have := Res2.new w u v t
    exact ⟨this.c0, this.c1, this.f0, this.f1⟩
  have := h.below (by show w.heap.size < (w.alloc (.cells #[u, v] t)).heap.size; simp) b
  exact ⟨this.c0, this.c1, this.f0, this.f1⟩
theorem belNew {w w1 : World} {u v : Value} {t : TypeId} (b : Below ((w.alloc (.cells #[u, v] t)).drew).heap.size ((w.alloc (.cells #[u, v] t)).drew) w1) : Below w.heap.size w w1 ∧ w.heap.size < w1.heap.size :=
  ⟨(below_drew (allocBelow w _)).trans (b.mono (by show w.heap.size ≤ (w.alloc (.cells #[u, v] t)).heap.size; simp)), Nat.lt_of_lt_of_le (by show w.heap.size < (w.alloc (.cells #[u, v] t)).heap.size; simp) b.size⟩
theorem RV.new {W w2 : World} {K : Int} {T : ByteArray} {t : TypeId} (b : Below W.heap.size W w2) : RV W K T (.pointer (some ⟨w2.heap.size, 0, none⟩)) (w2.alloc (.cells #[.int .i64 K, .string T] t)) :=
  ⟨w2.heap.size, rfl, Res2.new _ _ _ _, b.alloc b.size _, b.size, by simp⟩
theorem RV.sets {W w2 : World} {K : Int} {T : ByteArray} {u v : Value} (b : Below W.heap.size W w2) (hp : W.heap.size < w2.heap.size) (c0 : w2.cell? ⟨W.heap.size, 0, none⟩ = some u) (c1 : w2.cell? ⟨W.heap.size, 1, none⟩ = some v) (f0 : w2.frozen? ⟨W.heap.size, 0, none⟩ = false) (f1 : w2.frozen? ⟨W.heap.size, 1, none⟩ = false) :
    RV W K T (.pointer (some ⟨W.heap.size, 0, none⟩)) ((w2.setCell ⟨W.heap.size, 0, none⟩ (.int .i64 K)).setCell ⟨W.heap.size, 1, none⟩ (.string T)) := by
  refine ⟨W.heap.size, rfl, ⟨?_, ?_, ?_, ?_⟩, below_sets b (Nat.le_refl _) _ _, Nat.le_refl _, by simp [World.size_setCell, hp]⟩
  · rw [World.cell?_setCell_other _ _ _ _ (by intro c; simp only [Addr.mk.injEq] at c; omega), World.cell?_setCell_same _ _ _ c0]
  · exact World.cell?_setCell_same _ _ _ (u := v) (by rw [World.cell?_setCell_other _ _ _ _ (by intro c; simp only [Addr.mk.injEq] at c; omega)]; exact c1)
  · rw [World.frozen?_setCell, World.frozen?_setCell]; exact f0
  · rw [World.frozen?_setCell, World.frozen?_setCell]; exact f1
end Go.Proofs.YtkgcpndnlefkoaaGreatDoor
