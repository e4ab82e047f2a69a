/- Rows of entries in memory: their cells, who owns them, and what is left of a size. No statement is proved here. -/
import Derived.Test.YtjcnnmnnbjaheaaGreatDoorRows
import Derived.Test.YtjcnnmnnbjaheaaGreatDoorLemQ
import Derived.Test.YtjcnnmnnbjaheaaGreatDoorDTabQ
import Derived.WalkKit
import Derived.ProofKit
import Derived.Below
import Derived.Lib.Strings
import Derived.Lib.Slices
import Derived.Lib.Walk
import Derived.Lib.Builder
import Derived.Lib.AppendStr
import Derived.Lib.UnsafeStr
import Derived.Laws.Externs
import Derived.Shelf.Strings.Builder1
import Derived.Shelf.Strings.Builder2
import Derived.Shelf.Strings.OnBuilder
import Derived.Shelf.Strings.Trim
import Derived.Shelf.Small.Utf8
import Derived.Shelf.Small.Strs
import Derived.Shelf.Small.Wraps
import Derived.Shelf.Strings.BuilderF
import Derived.Shelf.Strconv.Itoa0
import Derived.Shelf.Strconv.Itoa1
import Derived.Shelf.LaysM
import Derived.Shelf.Strconv.Itoa2
import Derived.Shelf.Strconv.Itoa3
import Derived.Shelf.Strconv.Itoa4
import Derived.Shelf.Strconv.Clone
import Derived.Shelf.Strings.Search1
import Derived.Shelf.Strings.Search2
import Derived.Shelf.Strings.Search3
import Derived.Shelf.Strings.Count
import Derived.Shelf.Strings.Shaped
import Derived.Shelf.Strings.Prefix
import Derived.Shelf.Strings.Split
import Derived.Shelf.Strings.Runes
import Derived.Shelf.Strings.AsciiSet
import Derived.Shelf.Unicode.DecodeSlow
import Derived.Test.YtjcnnmnnbjaheaaGreatDoorProg
namespace Go.Proofs.YtjcnnmnnbjaheaaGreatDoor.Te
open Go.ChangeShapes Go.WideShapes Go.ChangeAt Go.RowKit

/-- An entry: its id, its kind, its data. -/
abbrev Ob := ByteArray × Int × ByteArray
def onil : Ob := (ByteArray.empty, 0, ByteArray.empty)
theorem ob_mem (l : List Ob) (k : Nat) (hk : k < l.length) : l.getD k onil ∈ l := by
  rw [List.getD, List.getElem?_eq_getElem hk]; exact List.getElem_mem hk
theorem ob_drop (l : List Ob) (k : Nat) (h : k < l.length) : l.drop k = l.getD k onil :: l.drop (k + 1) := by
  rw [List.drop_eq_getElem_cons h]; simp [List.getD, h]
theorem ob_take (l : List Ob) (k : Nat) (h : k < l.length) : l.take (k + 1) = l.take k ++ [l.getD k onil] := by
  rw [List.take_succ_eq_append_getElem h]; simp [List.getD, h]
/-- A row of cells, told by a function. -/
def rowG (f : Nat → Value) (m : Nat) : List Value := (List.range m).map f
theorem rowG_length (f : Nat → Value) (m : Nat) : (rowG f m).length = m := by simp [rowG]
theorem rowG_at (f : Nat → Value) (m j : Nat) (h : j < m) : (rowG f m)[j]? = some (f j) := by simp [rowG, h]
theorem rowG_congr {f g : Nat → Value} {m : Nat} (h : ∀ j, j < m → f j = g j) : rowG f m = rowG g m := by
  unfold rowG
  apply List.map_congr_left
  intro j hj
  exact h j (List.mem_range.1 hj)
theorem rowG_set (f : Nat → Value) (m i : Nat) (v : Value) : (rowG f m).set i v = rowG (fun j => if j = i then v else f j) m := by
  apply List.ext_getElem?
  intro j
  by_cases hj : j < m
  · rw [rowG_at _ _ _ hj]
    by_cases e : j = i
    · subst e
      rw [List.getElem?_set_self (by rw [rowG_length]; exact hj), if_pos rfl]
    · rw [List.getElem?_set_ne (by omega), rowG_at _ _ _ hj, if_neg e]
  · rw [List.getElem?_eq_none (by rw [List.length_set, rowG_length]; omega), List.getElem?_eq_none (by rw [rowG_length]; omega)]
theorem rowG_append (f : Nat → Value) (m n : Nat) : rowG f (m + n) = rowG f m ++ rowG (fun j => f (m + j)) n := by
  unfold rowG
  rw [List.range_add, List.map_append, List.map_map]
  rfl
/-- The cells of entries. -/
def ocell (l : List Ob) (j : Nat) : Value :=
  if j % 3 = 0 then .string (l.getD (j / 3) onil).1 else if j % 3 = 1 then .int .i64 (l.getD (j / 3) onil).2.1 else .string (l.getD (j / 3) onil).2.2
theorem ocell0 (l : List Ob) (k : Nat) : ocell l (k * 3) = .string (l.getD k onil).1 := by
  unfold ocell; rw [if_pos (by omega), show k * 3 / 3 = k by omega]
theorem ocell1 (l : List Ob) (k : Nat) : ocell l (k * 3 + 1) = .int .i64 (l.getD k onil).2.1 := by
  unfold ocell; rw [if_neg (by omega), if_pos (by omega), show (k * 3 + 1) / 3 = k by omega]
theorem ocell2 (l : List Ob) (k : Nat) : ocell l (k * 3 + 2) = .string (l.getD k onil).2.2 := by
  unfold ocell; rw [if_neg (by omega), if_neg (by omega), show (k * 3 + 2) / 3 = k by omega]
def ocells (l : List Ob) : List Value := rowG (ocell l) (l.length * 3)
theorem ocells_length (l : List Ob) : (ocells l).length = l.length * 3 := rowG_length _ _
/-- TreeEntrys that can be read. -/
def OB (B : Nat) (w : World) (a : Option Addr) (l : List Ob) : Prop :=
  ∀ k, k < l.length → ∃ g off, a = some ⟨g, off, none⟩ ∧ g < B ∧ w.cell? ⟨g, off + k * 3, none⟩ = some (.string (l.getD k onil).1) ∧ w.cell? ⟨g, off + k * 3 + 1, none⟩ = some (.int .i64 (l.getD k onil).2.1) ∧ w.cell? ⟨g, off + k * 3 + 2, none⟩ = some (.string (l.getD k onil).2.2)
theorem OB.fr {lo hi B : Nat} {w w' : World} {a : Option Addr} {l : List Ob} (h : OB B w a l) (hF : Fr lo hi w w') (hb : B ≤ lo ∨ hi ≤ lo) : OB B w' a l := fun k hk => by
  obtain ⟨g, off, e, hg, d0, d1, d2⟩ := h k hk
  have ho : g < lo ∨ hi ≤ g := by omega
  exact ⟨g, off, e, hg, hF.cell d0 ho, hF.cell d1 ho, hF.cell d2 ho⟩
theorem OB.below {B : Nat} {w w' : World} {a : Option Addr} {l : List Ob} (h : OB B w a l) (hb : Below w.heap.size w w') : OB B w' a l := h.fr (Fr.ofBelow (lo := 0) (hi := 0) hb) (.inr (Nat.le_refl _))
theorem OB.mono {B B' : Nat} {w : World} {a : Option Addr} {l : List Ob} (h : OB B w a l) (hb : B ≤ B') : OB B' w a l := fun k hk => by
  obtain ⟨g, off, e, hg, d⟩ := h k hk
  exact ⟨g, off, e, by omega, d⟩
/-- Ids and data are of a size that a machine has. -/
def FitsO (l : List Ob) : Prop := ∀ o ∈ l, o.1.size ≤ 9223372036854775807 ∧ o.2.2.size ≤ 9223372036854775807
def SmallO (l : List Ob) : Prop := ∀ o ∈ l, o.1.size ≤ 1048576 ∧ o.2.2.size ≤ 1048576
/-- What is left of a size behind an entry, and behind entries. -/
def left1 (n : Int) (o : Ob) : Int := if n - o.1.size < 0 then -1 else if n - o.1.size - o.2.2.size < 0 then -1 else n - o.1.size - o.2.2.size
def leftOF : Int → List Ob → Int
  | n, [] => n
  | n, o :: t => if left1 n o < 0 then -1 else leftOF (left1 n o) t
def leftO (n : Int) (l : List Ob) : Int := if n - l.length < 0 then -1 else leftOF (n - l.length) l
theorem left1_nums {n : Int} {o : Ob} (h : ¬ left1 n o < 0) : left1 n o = n - o.1.size - o.2.2.size ∧ (o.1.size : Int) ≤ n ∧ (o.2.2.size : Int) ≤ n := by
  unfold left1 at h ⊢
  split at h
  · omega
  · rename_i h1
    rw [if_neg h1]
    split at h
    · omega
    · rename_i h2
      rw [if_neg h2]; omega
theorem leftOF_stop {n : Int} {o : Ob} {t : List Ob} (h : left1 n o < 0) : leftOF n (o :: t) = -1 := by rw [leftOF, if_pos h]
theorem leftOF_go {n : Int} {o : Ob} {t : List Ob} (h : ¬ left1 n o < 0) : leftOF n (o :: t) = leftOF (left1 n o) t := by rw [leftOF, if_neg h]
theorem leftOF_nums : ∀ (l : List Ob) (n : Int), ¬ leftOF n l < 0 → ∀ o ∈ l, (o.1.size : Int) ≤ n ∧ (o.2.2.size : Int) ≤ n := by
  intro l
  induction l with
  | nil => intro n _ o h; cases h
  | cons h t ih =>
    intro n hn
    by_cases hl : left1 n h < 0
    · rw [leftOF_stop hl] at hn; omega
    · rw [leftOF_go hl] at hn
      obtain ⟨e, h1, h2⟩ := left1_nums hl
      have i := ih _ hn
      rw [e] at i
      intro o ho
      rcases List.mem_cons.1 ho with rfl | ho
      · exact ⟨h1, h2⟩
      · have := i o ho; omega
theorem leftO_nums {l : List Ob} {n : Int} (h : ¬ leftO n l < 0) (hn : n ≤ 1048576) : SmallO l ∧ l.length ≤ 1048576 := by
  unfold leftO at h
  split at h
  · omega
  · rename_i h'
    refine ⟨fun o ho => ?_, by omega⟩
    have := leftOF_nums l _ h o ho
    omega
theorem leftO_bd {l : List Ob} {n : Int} (h : ¬ leftO n l < 0) : leftO n l ≤ n := by
  have key : ∀ (l : List Ob) (n : Int), ¬ leftOF n l < 0 → leftOF n l ≤ n := by
    intro l
    induction l with
    | nil => intro n _; exact Int.le_refl _
    | cons o t ih =>
      intro n hn
      by_cases hl : left1 n o < 0
      · rw [leftOF_stop hl] at hn; omega
      · rw [leftOF_go hl] at hn ⊢
        have := ih _ hn
        have := (left1_nums hl).1
        omega
  unfold leftO at h ⊢
  split at h
  · omega
  · rename_i h'
    rw [if_neg h']
    have := key l _ h
    omega
/-- A row of entries while they are copied. -/
def mixO (l : List Ob) (k j : Nat) : Value := if j < k * 3 then ocell l j else if j % 3 = 1 then .int .i64 0 else .string ⟨#[]⟩
theorem mixO_zero (l : List Ob) (m : Nat) : (madeCells (Value.agg #[.string ⟨#[]⟩, .int .i64 0, .string ⟨#[]⟩]).cells m).toList = rowG (mixO l 0) m := by
  apply List.ext_getElem?
  intro j
  by_cases hj : j < m
  · rw [rowG_at _ _ _ hj]
    have h3 : j % 3 = 0 ∨ j % 3 = 1 ∨ j % 3 = 2 := by omega
    unfold mixO
    rw [if_neg (by omega)]
    rcases h3 with h | h | h <;> simp [madeCells, hj, Value.cells, h]
  · have h0 : (rowG (mixO l 0) m)[j]? = none := List.getElem?_eq_none (by rw [rowG_length]; omega)
    rw [h0]
    simp [madeCells, hj]
theorem mixO_set (l : List Ob) (k m : Nat) :
    (((rowG (mixO l k) m).set (k * 3) (.string (l.getD k onil).1)).set (k * 3 + 1) (.int .i64 (l.getD k onil).2.1)).set (k * 3 + 2) (.string (l.getD k onil).2.2) = rowG (mixO l (k + 1)) m := by
  rw [rowG_set, rowG_set, rowG_set]
  apply rowG_congr
  intro j _
  by_cases e2 : j = k * 3 + 2
  · rw [if_pos e2]; unfold mixO; rw [if_pos (by omega), e2, ocell2]
  · rw [if_neg e2]
    by_cases e1 : j = k * 3 + 1
    · rw [if_pos e1]; unfold mixO; rw [if_pos (by omega), e1, ocell1]
    · rw [if_neg e1]
      by_cases e0 : j = k * 3
      · rw [if_pos e0]; unfold mixO; rw [if_pos (by omega), e0, ocell0]
      · rw [if_neg e0]
        unfold mixO
        by_cases h : j < k * 3
        · rw [if_pos h, if_pos (by omega)]
        · have h1 : ¬ j < (k + 1) * 3 := by omega
          rw [if_neg h, if_neg h1]
theorem mixO_full (l : List Ob) : rowG (mixO l l.length) (l.length * 3) = ocells l := by
  apply rowG_congr
  intro j hj
  unfold mixO
  rw [if_pos hj]
end Go.Proofs.YtjcnnmnnbjaheaaGreatDoor.Te
/- The contract of (*strings.Builder).WriteString (and copyCheck) over this seat's program. No statement is proved here. -/
set_option linter.unusedVariables false
namespace Go.Proofs.YtjcnnmnnbjaheaaGreatDoor
open Go.RowKit

theorem sizeBuilder : (Tryz.prog.info? 74).map (·.size) = some 2 := by kernel_rfl
theorem liesBuilder : liesAt Tryz.prog Tryz.prog.depth 74 (2 / Tryz.prog.cellsOf 74) 0 74 1 = true := by kernel_rfl
theorem infoByte : (Tryz.prog.info? 5).map (fun i => (i.zero, i.size, i.bytes)) = some (some (.int .u8 0), 1, 1) := by kernel_rfl

set_option maxHeartbeats 1000000 in
set_option maxRecDepth 100000 in
theorem copyCheck_used (b : Nat) (w : World) (h0 : w.cell? ⟨b, 0, none⟩ = some (.pointer (some ⟨b, 0, none⟩))) :
    Calls Tryz.prog 106 #[.pointer (some ⟨b, 0, none⟩)] w fun e w' => e = .returned (.tuple #[]) ∧ w' = w := by
  obtain ⟨j, hj, _⟩ := Option.map_eq_some_iff.1 sizeBuilder
  go_enter Tryz.func106, Tryz.ntmps106
  go_wp2
  rw [Lib.run_neq_ptr_same w _ Tryz.underlying72 hj]
  go_wp2
  go_end0
  exact ⟨rfl, rfl⟩

set_option maxHeartbeats 1000000 in
set_option maxRecDepth 100000 in
theorem copyCheck_fresh (b : Nat) (w : World) (h0 : w.cell? ⟨b, 0, none⟩ = some (.pointer none)) (hsh : w.shape? b = some (74, 2)) (hfz : w.frozen? ⟨b, 0, none⟩ = false) :
    Calls Tryz.prog 106 #[.pointer (some ⟨b, 0, none⟩)] w fun e w' => e = .returned (.tuple #[]) ∧ w' = w.setCell ⟨b, 0, none⟩ (.pointer (some ⟨b, 0, none⟩)) := by
  obtain ⟨j, hj, hjs⟩ := Option.map_eq_some_iff.1 sizeBuilder
  go_enter Tryz.func106, Tryz.ntmps106
  go_wp2
  rw [Lib.run_to_unsafe w ⟨b, 0, none⟩ Tryz.underlying72 Tryz.underlying129 hj (by rw [hjs]; decide) hsh (Nat.zero_lt_succ 1)]
  simp only [Result.andThen]
  rw [Oper.upon_value]
  go_wp2
  rw [run_callFunc_extern Tryz.func123 (by kernel_rfl) (by kernel_rfl) (by kernel_rfl) (e := Extern.AbiNoEscape.same) (by kernel_rfl)]
  rw [Lib.run_noEscape]
  simp only [Result.andThen]
  rw [Oper.upon_value]
  go_wp2
  rw [Lib.run_from_unsafe w ⟨b, 0, none⟩ Tryz.underlying129 Tryz.underlying72 hj hsh liesBuilder]
  simp only [Result.andThen]
  rw [Oper.upon_value]
  go_wp2
  go_end0
  exact ⟨rfl, rfl⟩

theorem copyCheck (B b : Nat) (bs : List Value) (w : World) (h : Lib.IsBuilder 74 5 B b bs w) :
    Calls Tryz.prog 106 #[.pointer (some ⟨b, 0, none⟩)] w fun e w' => e = .returned (.tuple #[]) ∧ (Lib.BuilderAt 74 5 B b (.pointer (some ⟨b, 0, none⟩)) bs w' ∧ Below B w w') := by
  rcases h with h | h
  · refine (copyCheck_fresh b w h.cell0 h.shape h.frozen0).mono ?_
    rintro e w' ⟨rfl, rfl⟩
    exact ⟨rfl, h.used _, (Below.refl B w).setCell (p := ⟨b, 0, none⟩) h.1 _⟩
  · refine (copyCheck_used b w h.cell0).mono ?_
    rintro e w' ⟨rfl, rfl⟩
    exact ⟨rfl, h, Below.refl B _⟩

set_option maxHeartbeats 2000000 in
set_option maxRecDepth 100000 in
theorem writeString (B b : Nat) (bs : List Value) (s : ByteArray) (w : World) (h : Lib.IsBuilder 74 5 B b bs w) (hlen : bs.length + s.size ≤ 140737488355328) (hBw : B ≤ w.heap.size) :
    Calls Tryz.prog 86 #[.pointer (some ⟨b, 0, none⟩), .string s] w fun e w' => e = .returned (.tuple #[.int .i64 s.size, .nilIface]) ∧ (Lib.BuilderAt 74 5 B b (.pointer (some ⟨b, 0, none⟩)) (bs ++ Lib.strCells s) w' ∧ Below B w w') := by
  obtain ⟨i0, hi, hz0, hz1, hz2⟩ := info_parts infoByte
  go_enter Tryz.func86, Tryz.ntmps86
  go_wp2_with (go_at_call 106; refine (copyCheck B b bs _ h).mono ?_)
  rintro e w1 ⟨rfl, h1, hb1⟩
  obtain ⟨hB, v, hbk, hown, hne⟩ := h1
  have c0 : w1.cell? ⟨b, 0, none⟩ = some (.pointer (some ⟨b, 0, none⟩)) := by rw [Lib.cell_of_heap hbk]; rfl
  have c1 : w1.cell? ⟨b, 1, none⟩ = some v := by rw [Lib.cell_of_heap hbk]; rfl
  go_wp2_with (at_builtin; refine Lib.wpList_append_own_string _ rfl _ _ 22 9 rfl B 5 i0 Tryz.underlying22 Tryz.underlying9 hi hz0 hz1 hz2 _ _ _ rfl hown s rfl ?c3 ?c4 ?c5 ?_)
  case c3 => unfold maxLen; omega
  case c4 => omega
  case c5 => have := hb1.size; omega
  intro v' w2 hown' hgrow _
  have hlt : b < w1.heap.size := by
    rcases Nat.lt_or_ge b w1.heap.size with h' | h'
    · exact h'
    · simp [Array.getElem?_eq_none h'] at hbk
  have hb2 : w2.heap[b]? = some (.cells #[.pointer (some ⟨b, 0, none⟩), v] 74 (0, 0)) := by
    rw [hgrow.block b hlt (fun e => hne e.symm)]
    exact hbk
  have d0 : w2.cell? ⟨b, 0, none⟩ = some (.pointer (some ⟨b, 0, none⟩)) := by rw [Lib.cell_of_heap hb2]; rfl
  have d1 : w2.cell? ⟨b, 1, none⟩ = some v := by rw [Lib.cell_of_heap hb2]; rfl
  have f1 : w2.frozen? ⟨b, 1, none⟩ = false := Lib.frozen_of_heap hb2 1
  obtain ⟨ao, n', cap, rfl⟩ : ∃ ao n' cap, v' = .slice ao n' cap := by
    rcases hown'.2 with ⟨hv, _⟩ | ⟨g, cap, cur, hv, _⟩
    · exact ⟨_, _, _, hv⟩
    · exact ⟨_, _, _, hv⟩
  go_wp2
  go_ret2
  refine ⟨rfl, ?_, ?_⟩
  · exact Lib.BuilderAt.put (T := 74) (e := 5) hB hb2 (bs' := bs ++ Lib.strCells s) (by simpa [Lib.strCells_length] using hown') (by decide)
  · exact (hb1.grown hgrow (by have := hb1.size; omega) (fun k hk => (hown.lt k hk).1)).setCell (p := ⟨b, 1, none⟩) hB _
end Go.Proofs.YtjcnnmnnbjaheaaGreatDoor
/- Contracts of the library that are laid at this program: Tryz.Builder_String_any, Tryz.Builder_Grow_fresh, Tryz.Builder_String_any_f. No statement is proved here. -/
namespace Go.Proofs
open Go.Shelf
def Tryz.lays169_ren : Go.Shelf.Ren := ⟨fun | 169 => 55 | n => n, fun | 70 => 72 | 9 => 9 | 0 => 0 | 72 => 74 | 37 => 22 | 127 => 105 | 3 => 3 | 5 => 5 | n => n, fun | n => n⟩
theorem Tryz.lays169 : Go.Proofs.Lays.n169 Tryz.prog Tryz.lays169_ren := {
  mixed := by kernel_rfl
  f169 := Tryz.func55.trans (congrArg some (by kernel_rfl))
  t0 := Tryz.underlying0
  a0 := Tryz.isAgg0
  z0 := Tryz.sizeOf0
  v0 := Tryz.zeroValue0
  t3 := Tryz.underlying3
  a3 := Tryz.isAgg3
  z3 := Tryz.sizeOf3
  v3 := Tryz.zeroValue3
  t9 := Tryz.underlying9
  a9 := Tryz.isAgg9
  z9 := Tryz.sizeOf9
  v9 := Tryz.zeroValue9
  t37 := Tryz.underlying22
  a37 := Tryz.isAgg22
  z37 := Tryz.sizeOf22
  v37 := Tryz.zeroValue22
  t70 := Tryz.underlying72
  a70 := Tryz.isAgg72
  z70 := Tryz.sizeOf72
  v70 := Tryz.zeroValue72
  t72 := Tryz.underlying74
  a72 := Tryz.isAgg74
  z72 := Tryz.sizeOf74
  v72 := Tryz.zeroValue74
  t127 := Tryz.underlying105
  a127 := Tryz.isAgg105
  z127 := Tryz.sizeOf105
  v127 := Tryz.zeroValue105 }
theorem Tryz.Builder_Extra_169 : Builder.Extra Tryz.prog Tryz.lays169_ren := {
  sizeBuilder := by kernel_rfl
  liesBuilder := by kernel_rfl
  t5 := Tryz.underlying5
  a5 := Tryz.isAgg5
  z5 := Tryz.sizeOf5
  v5 := Tryz.zeroValue5
  infoByte := by kernel_rfl
  cellsByte := by kernel_rfl
  sizeByte := by kernel_rfl
  neB5 := by decide }
open Go.RowKit in
theorem Tryz.Builder_String_any (B b : Nat) (l : List UInt8) (w : World) (h : Lib.IsBuilder 74 5 B b (Lib.byteCells l) w) (hBw : B ≤ w.heap.size) :
    Calls Tryz.prog 55 #[.pointer (some ⟨b, 0, none⟩)] w fun e w' => e = .returned (.string ⟨l.toArray⟩) ∧ Below B w w' := Any.Builder_String_any Tryz.lays169 Tryz.Builder_Extra_169 B b l w h hBw
def Tryz.lays165_ren : Go.Shelf.Ren := ⟨fun | 165 => 107 | 240 => 106 | 241 => 124 | 276 => 123 | 277 => 138 | n => n, fun | 70 => 72 | 3 => 3 | 0 => 0 | 4 => 4 | 9 => 9 | 20 => 20 | 72 => 74 | 37 => 22 | 164 => 129 | 5 => 5 | n => n, fun | n => n⟩
theorem Tryz.lays165 : Go.Proofs.Lays.n165 Tryz.prog Tryz.lays165_ren := {
  mixed := by kernel_rfl
  f165 := Tryz.func107.trans (congrArg some (by kernel_rfl))
  f240 := Tryz.func106.trans (congrArg some (by kernel_rfl))
  f241 := Tryz.func124.trans (congrArg some (by kernel_rfl))
  f276 := Tryz.func123.trans (congrArg some (by kernel_rfl))
  f277 := Tryz.func138.trans (congrArg some (by kernel_rfl))
  t0 := Tryz.underlying0
  a0 := Tryz.isAgg0
  z0 := Tryz.sizeOf0
  v0 := Tryz.zeroValue0
  t3 := Tryz.underlying3
  a3 := Tryz.isAgg3
  z3 := Tryz.sizeOf3
  v3 := Tryz.zeroValue3
  t4 := Tryz.underlying4
  a4 := Tryz.isAgg4
  z4 := Tryz.sizeOf4
  v4 := Tryz.zeroValue4
  t9 := Tryz.underlying9
  a9 := Tryz.isAgg9
  z9 := Tryz.sizeOf9
  v9 := Tryz.zeroValue9
  t20 := Tryz.underlying20
  a20 := Tryz.isAgg20
  z20 := Tryz.sizeOf20
  v20 := Tryz.zeroValue20
  t37 := Tryz.underlying22
  a37 := Tryz.isAgg22
  z37 := Tryz.sizeOf22
  v37 := Tryz.zeroValue22
  t70 := Tryz.underlying72
  a70 := Tryz.isAgg72
  z70 := Tryz.sizeOf72
  v70 := Tryz.zeroValue72
  t72 := Tryz.underlying74
  a72 := Tryz.isAgg74
  z72 := Tryz.sizeOf74
  v72 := Tryz.zeroValue74
  t164 := Tryz.underlying129
  a164 := Tryz.isAgg129
  z164 := Tryz.sizeOf129
  v164 := Tryz.zeroValue129 }
theorem Tryz.Builder_Extra_165 : Builder.Extra Tryz.prog Tryz.lays165_ren := {
  sizeBuilder := by kernel_rfl
  liesBuilder := by kernel_rfl
  t5 := Tryz.underlying5
  a5 := Tryz.isAgg5
  z5 := Tryz.sizeOf5
  v5 := Tryz.zeroValue5
  infoByte := by kernel_rfl
  cellsByte := by kernel_rfl
  sizeByte := by kernel_rfl
  neB5 := by decide }
open Go.RowKit in
theorem Tryz.Builder_Grow_fresh (B b n : Nat) (w : World) (hB : B ≤ b) (hbk : w.heap[b]? = some (.cells #[.pointer none, .slice none 0 0] 74 (0, 0))) (hBw : B ≤ w.heap.size) (hn : n ≤ 281474976710656) :
    Calls Tryz.prog 107 #[.pointer (some ⟨b, 0, none⟩), .int .i64 n] w fun e w' => e = .returned (.tuple #[]) ∧ (Lib.BuilderAt 74 5 B b (.pointer (some ⟨b, 0, none⟩)) [] w' ∧ Below B w w') := Any.Builder_Grow_fresh Tryz.lays165 Tryz.Builder_Extra_165 B b n w hB hbk hBw hn
open Go.RowKit in
theorem Tryz.Builder_String_any_f (B b : Nat) (l : List UInt8) (w : World) (h : Lib.IsBuilderF 74 5 B b (Lib.byteCells l) w) (hBw : B ≤ w.heap.size) :
    Calls Tryz.prog 55 #[.pointer (some ⟨b, 0, none⟩)] w fun e w' => e = .returned (.string ⟨l.toArray⟩) ∧ (Lib.IsBuilderF 74 5 B b (Lib.byteCells l) w' ∧ Below B w w') := Any.Builder_String_any_f Tryz.lays169 Tryz.Builder_Extra_169 B b l w h hBw
end Go.Proofs
