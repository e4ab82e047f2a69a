/- Rows of entries in memory: their cells, who owns them, and what is left of a size. No statement is proved here. -/
import Derived.Test.YtjcnnmnnbjaheaaGreatDoorRows
import Derived.Test.YtjcnnmnnbjaheaaGreatDoorLemQ
import Derived.Test.YtjcnnmnnbjaheaaGreatDoorDTabQ
import Derived.WalkKit
import Derived.ProofKit
import Derived.Below
import Derived.Test.YtjcnnmnnbjaheaaGreatDoorSeqCQ
import Derived.Test.YtjcnnmnnbjaheaaGreatDoorIdLQ
namespace Go.Proofs.YtjcnnmnnbjaheaaGreatDoor.En
open Go.ChangeShapes Go.WideShapes Go.ChangeAt Go.RowKit

/-- An entry: its path, its stage, its mode, its id. -/
abbrev Ob := ByteArray × Int × Int × ByteArray
def onil : Ob := (ByteArray.empty, 0, 0, ByteArray.empty)
theorem ob_mem (l : List Ob) (k : Nat) (hk : k < l.length) : l.getD k onil ∈ l := by
  rw [List.getD, List.getElem?_eq_getElem hk]; exact List.getElem_mem hk
theorem ob_drop (l : List Ob) (k : Nat) (h : k < l.length) : l.drop k = l.getD k onil :: l.drop (k + 1) := by
  rw [List.drop_eq_getElem_cons h]; simp [List.getD, h]
theorem ob_take (l : List Ob) (k : Nat) (h : k < l.length) : l.take (k + 1) = l.take k ++ [l.getD k onil] := by
  rw [List.take_succ_eq_append_getElem h]; simp [List.getD, h]
/-- A row of cells, told by a function. -/
def rowG (f : Nat → Value) (m : Nat) : List Value := (List.range m).map f
theorem rowG_length (f : Nat → Value) (m : Nat) : (rowG f m).length = m := by simp [rowG]
theorem rowG_at (f : Nat → Value) (m j : Nat) (h : j < m) : (rowG f m)[j]? = some (f j) := by simp [rowG, h]
theorem rowG_congr {f g : Nat → Value} {m : Nat} (h : ∀ j, j < m → f j = g j) : rowG f m = rowG g m := by
  unfold rowG
  apply List.map_congr_left
  intro j hj
  exact h j (List.mem_range.1 hj)
theorem rowG_set (f : Nat → Value) (m i : Nat) (v : Value) : (rowG f m).set i v = rowG (fun j => if j = i then v else f j) m := by
  apply List.ext_getElem?
  intro j
  by_cases hj : j < m
  · rw [rowG_at _ _ _ hj]
    by_cases e : j = i
    · subst e
      rw [List.getElem?_set_self (by rw [rowG_length]; exact hj), if_pos rfl]
    · rw [List.getElem?_set_ne (by omega), rowG_at _ _ _ hj, if_neg e]
  · rw [List.getElem?_eq_none (by rw [List.length_set, rowG_length]; omega), List.getElem?_eq_none (by rw [rowG_length]; omega)]
theorem rowG_append (f : Nat → Value) (m n : Nat) : rowG f (m + n) = rowG f m ++ rowG (fun j => f (m + j)) n := by
  unfold rowG
  rw [List.range_add, List.map_append, List.map_map]
  rfl
theorem infoObj : (Tryz.prog.info? 51).map (fun i => (i.zero, i.size, i.bytes)) = some (some (.agg #[.string ⟨#[]⟩, .int .i64 0, .int .i64 0, .string ⟨#[]⟩]), 4, 48) := by kernel_rfl
/-- The cells of entries. -/
def ocell (l : List Ob) (j : Nat) : Value :=
  if j % 4 = 0 then .string (l.getD (j / 4) onil).1 else if j % 4 = 1 then .int .i64 (l.getD (j / 4) onil).2.1 else if j % 4 = 2 then .int .i64 (l.getD (j / 4) onil).2.2.1 else .string (l.getD (j / 4) onil).2.2.2
theorem ocell0 (l : List Ob) (k : Nat) : ocell l (k * 4) = .string (l.getD k onil).1 := by
  unfold ocell; rw [if_pos (by omega), show k * 4 / 4 = k by omega]
theorem ocell1 (l : List Ob) (k : Nat) : ocell l (k * 4 + 1) = .int .i64 (l.getD k onil).2.1 := by
  unfold ocell; rw [if_neg (by omega), if_pos (by omega), show (k * 4 + 1) / 4 = k by omega]
theorem ocell2 (l : List Ob) (k : Nat) : ocell l (k * 4 + 2) = .int .i64 (l.getD k onil).2.2.1 := by
  unfold ocell; rw [if_neg (by omega), if_neg (by omega), if_pos (by omega), show (k * 4 + 2) / 4 = k by omega]
theorem ocell3 (l : List Ob) (k : Nat) : ocell l (k * 4 + 3) = .string (l.getD k onil).2.2.2 := by
  unfold ocell; rw [if_neg (by omega), if_neg (by omega), if_neg (by omega), show (k * 4 + 3) / 4 = k by omega]
def ocells (l : List Ob) : List Value := rowG (ocell l) (l.length * 4)
theorem ocells_length (l : List Ob) : (ocells l).length = l.length * 4 := rowG_length _ _
/-- Entries that can be read. -/
def OB (B : Nat) (w : World) (a : Option Addr) (l : List Ob) : Prop :=
  ∀ k, k < l.length → ∃ g off, a = some ⟨g, off, none⟩ ∧ g < B ∧ w.cell? ⟨g, off + k * 4, none⟩ = some (.string (l.getD k onil).1) ∧ w.cell? ⟨g, off + k * 4 + 1, none⟩ = some (.int .i64 (l.getD k onil).2.1) ∧ w.cell? ⟨g, off + k * 4 + 2, none⟩ = some (.int .i64 (l.getD k onil).2.2.1) ∧ w.cell? ⟨g, off + k * 4 + 3, none⟩ = some (.string (l.getD k onil).2.2.2)
theorem OB.fr {lo hi B : Nat} {w w' : World} {a : Option Addr} {l : List Ob} (h : OB B w a l) (hF : Fr lo hi w w') (hb : B ≤ lo ∨ hi ≤ lo) : OB B w' a l := fun k hk => by
  obtain ⟨g, off, e, hg, d0, d1, d2, d3⟩ := h k hk
  have ho : g < lo ∨ hi ≤ g := by omega
  exact ⟨g, off, e, hg, hF.cell d0 ho, hF.cell d1 ho, hF.cell d2 ho, hF.cell d3 ho⟩
theorem OB.below {B : Nat} {w w' : World} {a : Option Addr} {l : List Ob} (h : OB B w a l) (hb : Below w.heap.size w w') : OB B w' a l := h.fr (Fr.ofBelow (lo := 0) (hi := 0) hb) (.inr (Nat.le_refl _))
theorem OB.mono {B B' : Nat} {w : World} {a : Option Addr} {l : List Ob} (h : OB B w a l) (hb : B ≤ B') : OB B' w a l := fun k hk => by
  obtain ⟨g, off, e, hg, d⟩ := h k hk
  exact ⟨g, off, e, by omega, d⟩
theorem OB.of {w : World} {base c : Nat} {a : Option Addr} {l : List Ob} (h : w.ownsRow base 51 4 (.slice a l.length c) l.length (ocells l)) : OB w.heap.size w a l := by
  intro k hk
  rcases h.2 with ⟨h', h0⟩ | ⟨g, cap, cur, h', _, hh, _⟩
  · omega
  · simp only [Value.slice.injEq] at h'
    obtain ⟨rfl, _, rfl⟩ := h'
    have hc := h.cellAt
    refine ⟨g, 0, rfl, (Array.getElem?_eq_some_iff.1 hh).1, ?_, ?_, ?_, ?_⟩
    · rw [Nat.zero_add, hc (k * 4) (by omega), ocells, rowG_at _ _ _ (by omega), ocell0]
    · rw [Nat.zero_add, hc (k * 4 + 1) (by omega), ocells, rowG_at _ _ _ (by omega), ocell1]
    · rw [Nat.zero_add, hc (k * 4 + 2) (by omega), ocells, rowG_at _ _ _ (by omega), ocell2]
    · rw [Nat.zero_add, hc (k * 4 + 3) (by omega), ocells, rowG_at _ _ _ (by omega), ocell3]
/-- Ids and data are of a size that a machine has. -/
def FitsO (l : List Ob) : Prop := ∀ o ∈ l, o.1.size ≤ 9223372036854775807 ∧ o.2.2.2.size ≤ 9223372036854775807
def SmallO (l : List Ob) : Prop := ∀ o ∈ l, o.1.size ≤ 1048576 ∧ o.2.2.2.size ≤ 1048576
/-- What is left of a size behind an entry, and behind entries. -/
def left1 (n : Int) (o : Ob) : Int := if n - o.1.size < 0 then -1 else if n - o.1.size - o.2.2.2.size < 0 then -1 else n - o.1.size - o.2.2.2.size
def leftOF : Int → List Ob → Int
  | n, [] => n
  | n, o :: t => if left1 n o < 0 then -1 else leftOF (left1 n o) t
def leftO (n : Int) (l : List Ob) : Int := if n - l.length < 0 then -1 else leftOF (n - l.length) l
theorem left1_nums {n : Int} {o : Ob} (h : ¬ left1 n o < 0) : left1 n o = n - o.1.size - o.2.2.2.size ∧ (o.1.size : Int) ≤ n ∧ (o.2.2.2.size : Int) ≤ n := by
  unfold left1 at h ⊢
  split at h
  · omega
  · rename_i h1
    rw [if_neg h1]
    split at h
    · omega
    · rename_i h2
      rw [if_neg h2]; omega
theorem leftOF_stop {n : Int} {o : Ob} {t : List Ob} (h : left1 n o < 0) : leftOF n (o :: t) = -1 := by rw [leftOF, if_pos h]
theorem leftOF_go {n : Int} {o : Ob} {t : List Ob} (h : ¬ left1 n o < 0) : leftOF n (o :: t) = leftOF (left1 n o) t := by rw [leftOF, if_neg h]
theorem leftOF_nums : ∀ (l : List Ob) (n : Int), ¬ leftOF n l < 0 → ∀ o ∈ l, (o.1.size : Int) ≤ n ∧ (o.2.2.2.size : Int) ≤ n := by
  intro l
  induction l with
  | nil => intro n _ o h; cases h
  | cons h t ih =>
    intro n hn
    by_cases hl : left1 n h < 0
    · rw [leftOF_stop hl] at hn; omega
    · rw [leftOF_go hl] at hn
      obtain ⟨e, h1, h2⟩ := left1_nums hl
      have i := ih _ hn
      rw [e] at i
      intro o ho
      rcases List.mem_cons.1 ho with rfl | ho
      · exact ⟨h1, h2⟩
      · have := i o ho; omega
theorem leftO_nums {l : List Ob} {n : Int} (h : ¬ leftO n l < 0) (hn : n ≤ 1048576) : SmallO l ∧ l.length ≤ 1048576 := by
  unfold leftO at h
  split at h
  · omega
  · rename_i h'
    refine ⟨fun o ho => ?_, by omega⟩
    have := leftOF_nums l _ h o ho
    omega
theorem leftO_bd {l : List Ob} {n : Int} (h : ¬ leftO n l < 0) : leftO n l ≤ n := by
  have key : ∀ (l : List Ob) (n : Int), ¬ leftOF n l < 0 → leftOF n l ≤ n := by
    intro l
    induction l with
    | nil => intro n _; exact Int.le_refl _
    | cons o t ih =>
      intro n hn
      by_cases hl : left1 n o < 0
      · rw [leftOF_stop hl] at hn; omega
      · rw [leftOF_go hl] at hn ⊢
        have := ih _ hn
        have := (left1_nums hl).1
        omega
  unfold leftO at h ⊢
  split at h
  · omega
  · rename_i h'
    rw [if_neg h']
    have := key l _ h
    omega
/-- A row of entries while they are copied. -/
def mixO (l : List Ob) (k j : Nat) : Value := if j < k * 4 then ocell l j else if j % 4 = 1 then .int .i64 0 else if j % 4 = 2 then .int .i64 0 else .string ⟨#[]⟩
theorem mixO_zero (l : List Ob) (m : Nat) : (madeCells (Value.agg #[.string ⟨#[]⟩, .int .i64 0, .int .i64 0, .string ⟨#[]⟩]).cells m).toList = rowG (mixO l 0) m := by
  apply List.ext_getElem?
  intro j
  by_cases hj : j < m
  · rw [rowG_at _ _ _ hj]
    have h3 : j % 4 = 0 ∨ j % 4 = 1 ∨ j % 4 = 2 ∨ j % 4 = 3 := by omega
    unfold mixO
    rw [if_neg (by omega)]
    rcases h3 with h | h | h | h <;> simp [madeCells, hj, Value.cells, h]
  · have h0 : (rowG (mixO l 0) m)[j]? = none := List.getElem?_eq_none (by rw [rowG_length]; omega)
    rw [h0]
    simp [madeCells, hj]
theorem mixO_set (l : List Ob) (k m : Nat) :
    ((((rowG (mixO l k) m).set (k * 4) (.string (l.getD k onil).1)).set (k * 4 + 1) (.int .i64 (l.getD k onil).2.1)).set (k * 4 + 2) (.int .i64 (l.getD k onil).2.2.1)).set (k * 4 + 3) (.string (l.getD k onil).2.2.2) = rowG (mixO l (k + 1)) m := by
  rw [rowG_set, rowG_set, rowG_set, rowG_set]
  apply rowG_congr
  intro j _
  by_cases e3 : j = k * 4 + 3
  · rw [if_pos e3]; unfold mixO; rw [if_pos (by omega), e3, ocell3]
  · rw [if_neg e3]
    by_cases e2 : j = k * 4 + 2
    · rw [if_pos e2]; unfold mixO; rw [if_pos (by omega), e2, ocell2]
    · rw [if_neg e2]
      by_cases e1 : j = k * 4 + 1
      · rw [if_pos e1]; unfold mixO; rw [if_pos (by omega), e1, ocell1]
      · rw [if_neg e1]
        by_cases e0 : j = k * 4
        · rw [if_pos e0]; unfold mixO; rw [if_pos (by omega), e0, ocell0]
        · rw [if_neg e0]
          unfold mixO
          by_cases h : j < k * 4
          · rw [if_pos h, if_pos (by omega)]
          · have h1 : ¬ j < (k + 1) * 4 := by omega
            rw [if_neg h, if_neg h1]
theorem mixO_full (l : List Ob) : rowG (mixO l l.length) (l.length * 4) = ocells l := by
  apply rowG_congr
  intro j hj
  unfold mixO
  rw [if_pos hj]
end Go.Proofs.YtjcnnmnnbjaheaaGreatDoor.En
/- The contract of the program's PathFault. No statement is proved here. -/
namespace Go.Proofs.YtjcnnmnnbjaheaaGreatDoor
open Go.RowKit Go.Shelf
attribute [local go_sem] Oper.semAt_some

/-- The fault of a path. -/
def pf (s : ByteArray) : Int := if (cutOf 47 s).length ≤ 4 ∧ (cutOf 47 s).all (fun x => nf x == 0) = true then 0 else 1
theorem pf_ok {s : ByteArray} (h : (cutOf 47 s).length ≤ 4) (k : ∀ x ∈ cutOf 47 s, nf x = 0) : pf s = 0 := if_pos ⟨h, List.all_eq_true.2 fun x hx => by simp [k x hx]⟩
theorem pf_many {s : ByteArray} (h : 4 < (cutOf 47 s).length) : pf s = 1 := if_neg (fun q => by have := q.1; omega)
theorem pf_bad {s x : ByteArray} (h : x ∈ cutOf 47 s) (k : ¬ nf x = 0) : pf s = 1 := if_neg (fun q => k (by simpa using List.all_eq_true.1 q.2 x h))
/-- A cell that holds a number. -/
def NumAt (W : World) (b : Nat) (x : Int) : Prop := W.cell? ⟨b, 0, none⟩ = some (.int .i64 x) ∧ W.frozen? ⟨b, 0, none⟩ = false
theorem NumAt.set {W : World} {b : Nat} {x : Int} (h : NumAt W b x) (y : Int) : NumAt (W.setCell ⟨b, 0, none⟩ (.int .i64 y)) b y :=
  ⟨World.cell?_setCell_same' _ _ _ (by rw [h.1]; rfl), by rw [World.frozen?_setCell]; exact h.2⟩
theorem NumAt.other {W : World} {b c : Nat} {x : Int} (h : NumAt W b x) (hc : b ≠ c) (v : Value) : NumAt (W.setCell ⟨c, 0, none⟩ v) b x :=
  ⟨by rw [World.cell?_setCell_other _ _ _ _ (by intro e; cases e; exact hc rfl)]; exact h.1, by rw [World.frozen?_setCell]; exact h.2⟩
theorem NumAt.kept {W W' : World} {b : Nat} {x : Int} (h : NumAt W b x) {row : Option Nat} (hg : W.grownBy W' row) (hr : ∀ r, row = some r → ∃ o : Obj, W.heap[r]? = some o ∧ o.isCells = false) : NumAt W' b x :=
  ⟨cell_kept h.1 hg hr, (frozen_kept h.1 hg hr).trans h.2⟩
theorem NumAt.alloc {W : World} {b : Nat} {x : Int} (h : NumAt W b x) (o : Obj) : NumAt (W.alloc o) b x := h.kept (World.grownBy_alloc W o none) (fun r e => by cases e)
theorem NumAt.new (W : World) (x : Int) (t : TypeId) : NumAt (W.alloc (.cells #[.int .i64 x] t)) W.heap.size x :=
  ⟨box_cell (World.alloc_heap_new W _), box_frozen (World.alloc_heap_new W _)⟩
theorem heap_kept {W : World} {k : Nat} {x : Obj} (o : Obj) (h : W.heap[k]? = some x) : (W.alloc o).heap[k]? = some x := (Below.heap_alloc W o k (Array.getElem?_eq_some_iff.1 h).1).trans h

set_option maxRecDepth 100000 in
set_option maxHeartbeats 2000000 in
theorem implPathFault (s : ByteArray) (w : World) (hs : s.size ≤ 1048576) :
    Calls Tryz.prog 47 #[.string s] w fun e w' => e = .returned (.int .i64 (pf s)) ∧ Below w.heap.size w w' := by
  have hNf := fun x w => implNameFault x w
  refine (callsIn_wide (n := 5)).1 ?_
  refine callsIn_of_wp_marks Tryz.func47 rfl trivial ?_ rfl
  simp only [Tryz.ntmps47, List.size_toArray, List.length_cons, List.length_nil, Nat.reduceAdd, Nat.reduceSub, Array.replicate_succ, Array.replicate_zero, List.push_toArray, List.append_toArray, List.nil_append, List.cons_append]
  gi_wp2_with (refine ⟨trivial, ?_⟩; gi_at_call 82; refine (callsIn_wide.2 (SplitSeq_any _ _)).mono ?_; rintro e w' ⟨rfl, rfl⟩)
  obtain ⟨b, hb⟩ : ∃ b, w.heap.size = b := ⟨_, rfl⟩
  obtain ⟨W0, hW0⟩ : ∃ W0, (((((w.alloc (.cells #[.int .i64 0] 2)).alloc (.cells #[.int .i64 0] 3)).alloc (.cells #[.string s] 9)).alloc (.cells #[.string ⟨#[47]⟩] 9)).alloc (.cells #[.int .i64 0] 3)) = W0 := ⟨_, rfl⟩
  have hz : W0.heap.size = b + 1 + 1 + 3 := by rw [← hW0, ← hb]; simp
  have hbx : SsB W0 (b + 1 + 1) s := by
    rw [← hW0, ← hb]
    have e1 := World.alloc_heap_new ((w.alloc (.cells #[.int .i64 0] 2)).alloc (.cells #[.int .i64 0] 3)) (.cells #[.string s] 9)
    have e2 := World.alloc_heap_new (((w.alloc (.cells #[.int .i64 0] 2)).alloc (.cells #[.int .i64 0] 3)).alloc (.cells #[.string s] 9)) (.cells #[.string ⟨#[47]⟩] 9)
    have e3 := World.alloc_heap_new ((((w.alloc (.cells #[.int .i64 0] 2)).alloc (.cells #[.int .i64 0] 3)).alloc (.cells #[.string s] 9)).alloc (.cells #[.string ⟨#[47]⟩] 9)) (.cells #[.int .i64 0] 3)
    simp only [World.size_alloc] at e1 e2 e3
    exact ⟨heap_kept _ (heap_kept _ e1), heap_kept _ e2, e3⟩
  have hN0 : NumAt W0 b 0 := by rw [← hW0, ← hb]; exact ((((NumAt.new w 0 _).alloc _).alloc _).alloc _).alloc _
  have hN1 : NumAt W0 (b + 1) 0 := by
    have h := NumAt.new (w.alloc (.cells #[.int .i64 0] 2)) 0 3
    rw [World.size_alloc, hb] at h
    rw [← hW0]; exact ((h.alloc _).alloc _).alloc _
  have hB0 : Below b w W0 := by
    rw [← hW0, ← hb]
    exact (((((Below.refl _ w).alloc (Nat.le_refl _) _).alloc (by simp) _).alloc (by simp; omega) _).alloc (by simp; omega) _).alloc (by simp; omega) _
  rw [hW0]
  rw [hb]
  refine range_box rfl (by omega) (gf := 120) (lb := #[.pointer (some ⟨b + 1 + 1 + 1, 0, none⟩), .pointer (some ⟨b + 1 + 1, 0, none⟩), .pointer (some ⟨b + 1 + 1 + 2, 0, none⟩)]) rfl trivial (enters_of Tryz.func120 (by kernel_rfl) rfl)
    (b := b + 1 + 1) (e := b + 1 + 1 + 3) (T := cutOf 47 s) (by omega) (by omega) (split_seq _ (by omega) (b + 1 + 1) s hs W0 (by omega) hbx) rfl
    (fun pre W => (NumAt W b 0 ∧ NumAt W (b + 1) pre.length ∧ pre.length ≤ 4 ∧ ∀ x ∈ pre, nf x = 0) ∧ Below b w W)
    (fun _ W => (NumAt W b 1 ∧ pf s = 1) ∧ Below b w W)
    (OwnFrom.and (Own.from (fun _ _ _ _ hs hg hr => ⟨hs.1.kept hg hr, hs.2.1.kept hg hr, hs.2.2⟩) _) (ownFrom_below (Nat.le_of_eq hb.symm) (by omega)))
    (OwnFrom.and (Own.from (fun _ _ _ _ hs hg hr => ⟨hs.1.kept hg hr, hs.2⟩) _) (ownFrom_below (Nat.le_of_eq hb.symm) (by omega)))
    ⟨fun _ _ v q => ⟨⟨q.1.1.other (by omega) v, q.1.2.1.other (by omega) v, q.1.2.2⟩, q.2.setCell (p := ⟨b + 1 + 1, 0, none⟩) (show b ≤ b + 1 + 1 by omega) _⟩, fun _ _ q => ⟨q.1, q.2.drew⟩⟩
    ⟨fun _ _ v q => ⟨⟨q.1.1.other (by omega) v, q.1.2⟩, q.2.setCell (p := ⟨b + 1 + 1, 0, none⟩) (show b ≤ b + 1 + 1 by omega) _⟩, fun _ _ q => ⟨q.1, q.2.drew⟩⟩
    ⟨⟨hN0, hN1, by simp, fun x hx => by cases hx⟩, hB0⟩
    (fun x => { tmps := #[.string s, undef, .pointer (some ⟨b, 0, none⟩), .pointer (some ⟨b + 1, 0, none⟩), .string x, .string s, .func (.func 120) #[] #[.pointer (some ⟨b + 1 + 1 + 1, 0, none⟩), .pointer (some ⟨b + 1 + 1, 0, none⟩), .pointer (some ⟨b + 1 + 1 + 2, 0, none⟩)], .string x, undef, undef, undef, undef, undef, undef, undef, undef, undef], defers := [] }) ?assign ?body ?done ?stop
  case assign =>
    intro l x W K hK
    gi_wp2
    simpa using hK
  case body =>
    rintro l pre x W ⟨⟨q0, q1, q4, qa⟩, qB⟩ hpx
    rw [hz]
    have c0 := q0.1
    have f0 := q0.2
    have c1 := q1.1
    have f1 := q1.2
    have hm : x ∈ cutOf 47 s := hpx.subset (by simp)
    have hl : pre.length + 1 ≤ (cutOf 47 s).length := by have := hpx.length_le; simpa using this
    have n0 := q0.other (c := b + 1) (by omega) (.int .i64 ((pre.length : Int) + 1))
    have n1 := q1.set ((pre.length : Int) + 1)
    have nB := qB.setCell (p := ⟨b + 1, 0, none⟩) (show b ≤ b + 1 by omega) (.int .i64 ((pre.length : Int) + 1))
    have kO := KeepsOthers.setCell W ⟨b + 1, 0, none⟩ (.int .i64 ((pre.length : Int) + 1))
    have kb : ∀ k, b + 1 + 1 ≤ k → k < b + 1 + 1 + 3 → (W.setCell ⟨b + 1, 0, none⟩ (.int .i64 ((pre.length : Int) + 1))).heap[k]? = W.heap[k]? := fun k _ _ => setCell_block (by omega)
    obtain ⟨W1, hW1⟩ : ∃ W1, W.setCell ⟨b + 1, 0, none⟩ (.int .i64 ((pre.length : Int) + 1)) = W1 := ⟨_, rfl⟩
    rw [hW1] at n0 n1 nB kO kb
    have d0 := n0.1
    have g0 := n0.2
    have d1 := n1.1
    have fin1 : pf s = 1 → ∀ a, roundLeft (b + 1 + 1 + 3) (b + 1 + 1) (b + 1 + 1 + 3) (fun pre W => (NumAt W b 0 ∧ NumAt W (b + 1) pre.length ∧ pre.length ≤ 4 ∧ ∀ x ∈ pre, nf x = 0) ∧ Below b w W) (fun _ W => (NumAt W b 1 ∧ pf s = 1) ∧ Below b w W) (pre ++ [x]) W .ret a (W1.setCell ⟨b, 0, none⟩ (.int .i64 1)) := fun e _ =>
      .inr ⟨rfl, (kO.trans (KeepsOthers.setCell _ _ _)).from _, ⟨n0.set 1, e⟩, nB.setCell (p := ⟨b, 0, none⟩) (Nat.le_refl _) _⟩
    by_cases h4 : pre.length = 4
    · have e1 : ∀ a, Hid (roundLeft _ _ _ _ _ _ _ _ _ _) := fun a => fin1 (pf_many (by omega)) a
      have h4' : (pre.length : Int) = 4 := by omega
      have hW5 : W.setCell ⟨b + 1, 0, none⟩ (.int .i64 5) = W1 := by rw [← hW1, h4']; rfl
      clear fin1 hNf
      gi_wp2
      refine ⟨trivial, ?_⟩
      gi_wp2
      exact (e1 _).out
    · have h5 : (pre.length : Int) + 1 ≤ 4 := by omega
      have h5' : ¬ 4 < (pre.length : Int) + 1 := by omega
      by_cases hx : nf x = 0
      · have e2 : ∀ a, Hid (roundLeft (b + 1 + 1 + 3) (b + 1 + 1) (b + 1 + 1 + 3) (fun pre W => (NumAt W b 0 ∧ NumAt W (b + 1) pre.length ∧ pre.length ≤ 4 ∧ ∀ x ∈ pre, nf x = 0) ∧ Below b w W) (fun _ W => (NumAt W b 1 ∧ pf s = 1) ∧ Below b w W) (pre ++ [x]) W .normal a W1) := fun _ =>
          .inl ⟨rfl, kO.from _, kb, ⟨n0, by simpa using n1, by simp; omega, fun y hy => by
            rcases List.mem_append.1 hy with h | h
            · exact qa y h
            · rw [List.mem_singleton.1 h]; exact hx⟩, nB⟩
        have hN := fun w => hNf x w
        rw [hx] at hN
        clear fin1 hNf hx qa
        gi_wp2_with (refine ⟨trivial, ?_⟩; gi_at_call 83; refine (CallsIn.inRound l (callsIn_wide.2 (hN _))).mono ?_; rintro e w' ⟨rfl, rfl⟩)
        exact (e2 _).out
      · have e1 : ∀ a, Hid (roundLeft _ _ _ _ _ _ _ _ _ _) := fun a => fin1 (pf_bad hm hx) a
        have hx' : (nf x != 0) = true := by simpa using hx
        have hN := fun w => hNf x w
        obtain ⟨v, hv⟩ : ∃ v, nf x = v := ⟨_, rfl⟩
        rw [hv] at hN hx'
        clear fin1 hNf hx qa hv
        gi_wp2_with (refine ⟨trivial, ?_⟩; gi_at_call 83; refine (CallsIn.inRound l (callsIn_wide.2 (hN _))).mono ?_; rintro e w' ⟨rfl, rfl⟩)
        exact (e1 _).out
  case done =>
    rintro D W hD ⟨⟨q0, q1, q4, qa⟩, qB⟩ hK
    have c0 := q0.1
    have f0 := q0.2
    have HP : Hid (pf s = 0) := pf_ok q4 qa
    have hK2 := (KeepsOthers.setCell W ⟨b, 0, none⟩ (.int .i64 0)).same D _ hK rfl
    have q2 := q0.set 0
    have B2 := qB.setCell (p := ⟨b, 0, none⟩) (Nat.le_refl _) (.int .i64 0)
    clear q1 q4 qa
    gi_wp2
    refine ⟨by simp, .inl ⟨_, _, rfl, run_takeDeferred hK2, ?_⟩⟩
    have e0 := cell_kept q2.1 (grownBy_putObj' _ D (.deferred none)) (fun r e => by cases e; exact ⟨_, hK2, rfl⟩)
    refine ⟨.int .i64 0, ?_, ret_int HP.out.symm, ?_⟩
    · simp [results, Tryz.results47, go_sem, e0]
    · rw [hb]
      exact B2.trans (belowK_b (w := w) (Nat.le_of_eq hb.symm) _ D _ _ (by omega) hK2 rfl rfl)
  case stop =>
    rintro D pre W hD ⟨⟨q0, q1⟩, qB⟩ hK
    have HP : Hid (pf s = 1) := q1
    clear q1
    gi_wp2
    refine ⟨by simp, .inl ⟨_, _, rfl, run_takeDeferred hK, ?_⟩⟩
    have e0 := cell_kept q0.1 (grownBy_putObj' _ D (.deferred none)) (fun r e => by cases e; exact ⟨_, hK, rfl⟩)
    refine ⟨.int .i64 1, ?_, ret_int HP.out.symm, ?_⟩
    · simp [results, Tryz.results47, go_sem, e0]
    · rw [hb]
      exact qB.trans (belowK_b (w := w) (Nat.le_of_eq hb.symm) _ D _ _ (by omega) hK rfl rfl)
end Go.Proofs.YtjcnnmnnbjaheaaGreatDoor
/- Rows of entries, one behind the other. No statement is proved here. -/
namespace Go.Proofs.YtjcnnmnnbjaheaaGreatDoor.En
open Go.ChangeShapes Go.WideShapes Go.ChangeAt Go.RowKit

theorem ocell_app (l m : List Ob) (j : Nat) : ocell (l ++ m) (l.length * 4 + j) = ocell m j := by
  unfold ocell
  have e1 : (l.length * 4 + j) % 4 = j % 4 := by omega
  have e2 : (l.length * 4 + j) / 4 = l.length + j / 4 := by omega
  rw [e1, e2]
  have e3 : (l ++ m).getD (l.length + j / 4) onil = m.getD (j / 4) onil := by rw [List.getD, List.getD, List.getElem?_append_right (by omega), show l.length + j / 4 - l.length = j / 4 by omega]
  rw [e3]
theorem ocell_left (l m : List Ob) (j : Nat) (h : j < l.length * 4) : ocell (l ++ m) j = ocell l j := by
  unfold ocell
  have h3 : j / 4 < l.length := by omega
  have e3 : (l ++ m).getD (j / 4) onil = l.getD (j / 4) onil := by simp [List.getD, List.getElem?_append_left h3]
  rw [e3]
theorem ocells_app (l m : List Ob) : ocells (l ++ m) = ocells l ++ ocells m := by
  unfold ocells
  rw [List.length_append, Nat.add_mul, rowG_append]
  congr 1
  · exact rowG_congr fun j hj => ocell_left l m j hj
  · exact rowG_congr fun j _ => ocell_app l m j
theorem ocells_one (o : Ob) : ocells [o] = [.string o.1, .int .i64 o.2.1, .int .i64 o.2.2.1, .string o.2.2.2] := by
  unfold ocells rowG
  show (List.range 4).map (ocell [o]) = _
  rw [show List.range 4 = [0, 1, 2, 3] from rfl]
  simp [ocell]
end Go.Proofs.YtjcnnmnnbjaheaaGreatDoor.En
