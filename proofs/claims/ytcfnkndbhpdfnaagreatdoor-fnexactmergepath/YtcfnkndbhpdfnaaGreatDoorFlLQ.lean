/- Rows of files in memory: their cells, who owns them, and what is left of a size. No statement is proved here. -/
import Derived.Test.YtcfnkndbhpdfnaaGreatDoorDTabQ
import Derived.Deep.RegionWith
import Derived.Laws.Cover1
import Derived.Laws.StructEq
namespace Go.Proofs.YtcfnkndbhpdfnaaGreatDoor.Fl
open Go.ChangeShapes Go.WideShapes Go.ChangeAt Go.RowKit
abbrev Ob := ByteArray × Int × ByteArray
def onil : Ob := (ByteArray.empty, 0, ByteArray.empty)
theorem ob_mem (l : List Ob) (k : Nat) (hk : k < l.length) : l.getD k onil ∈ l := by
 rw [List.getD, List.getElem?_eq_getElem hk]; exact List.getElem_mem hk
theorem ob_drop (l : List Ob) (k : Nat) (h : k < l.length) : l.drop k = l.getD k onil :: l.drop (k + 1) := by
 rw [List.drop_eq_getElem_cons h]; simp [List.getD, h]
theorem ob_take (l : List Ob) (k : Nat) (h : k < l.length) : l.take (k + 1) = l.take k ++ [l.getD k onil] := by
 rw [List.take_succ_eq_append_getElem h]; simp [List.getD, h]
def rowG (f : Nat -> Value) (m : Nat) : List Value := (List.range m).map f
theorem rowG_length (f : Nat -> Value) (m : Nat) : (rowG f m).length = m := by simp [rowG]
theorem rowG_at (f : Nat -> Value) (m j : Nat) (h : j < m) : (rowG f m)[j]? = some (f j) := by simp [rowG, h]
theorem rowG_congr {f g : Nat -> Value} {m : Nat} (h : ∀ j, j < m -> f j = g j) : rowG f m = rowG g m := by
 unfold rowG
 apply List.map_congr_left
 intro j hj
 exact h j (List.mem_range.1 hj)
theorem rowG_set (f : Nat -> Value) (m i : Nat) (v : Value) : (rowG f m).set i v = rowG (fun j => if j = i then v else f j) m := by
 apply List.ext_getElem?
 intro j
 by_cases hj : j < m
 ·rw [rowG_at _ _ _ hj]
  by_cases e : j = i
  ·subst e
   rw [List.getElem?_set_self (by rw [rowG_length]; exact hj), if_pos rfl]
  ·rw [List.getElem?_set_ne (by omega), rowG_at _ _ _ hj, if_neg e]
 ·rw [List.getElem?_eq_none (by rw [List.length_set, rowG_length]; omega), List.getElem?_eq_none (by rw [rowG_length]; omega)]
theorem rowG_append (f : Nat -> Value) (m n : Nat) : rowG f (m + n) = rowG f m ++ rowG (fun j => f (m + j)) n := by
 unfold rowG
 rw [List.range_add, List.map_append, List.map_map]
 rfl
theorem infoObj : (Tryz.prog.info? 34).map (fun i => (i.zero, i.size, i.bytes)) = some (some (.agg #[.string ⟨#[]⟩, .int .i64 0, .string ⟨#[]⟩]), 3, 40) := by kernel_rfl
def ocell (l : List Ob) (j : Nat) : Value :=
 if j % 3 = 0 then .string (l.getD (j / 3) onil).1 else if j % 3 = 1 then .int .i64 (l.getD (j / 3) onil).2.1 else .string (l.getD (j / 3) onil).2.2
theorem ocell0 (l : List Ob) (k : Nat) : ocell l (k * 3) = .string (l.getD k onil).1 := by
 unfold ocell; rw [if_pos (by omega), show k * 3 / 3 = k by omega]
theorem ocell1 (l : List Ob) (k : Nat) : ocell l (k * 3 + 1) = .int .i64 (l.getD k onil).2.1 := by
 unfold ocell; rw [if_neg (by omega), if_pos (by omega), show (k * 3 + 1) / 3 = k by omega]
theorem ocell2 (l : List Ob) (k : Nat) : ocell l (k * 3 + 2) = .string (l.getD k onil).2.2 := by
 unfold ocell; rw [if_neg (by omega), if_neg (by omega), show (k * 3 + 2) / 3 = k by omega]
def ocells (l : List Ob) : List Value := rowG (ocell l) (l.length * 3)
theorem ocells_length (l : List Ob) : (ocells l).length = l.length * 3 := rowG_length _ _
def OB (B : Nat) (w : World) (a : Option Addr) (l : List Ob) : Prop :=
 ∀ k, k < l.length -> ∃ g off, a = some ⟨g, off, none⟩ /\ g < B /\ w.cell? ⟨g, off + k * 3, none⟩ = some (.string (l.getD k onil).1) /\ w.cell? ⟨g, off + k * 3 + 1, none⟩ = some (.int .i64 (l.getD k onil).2.1) /\ w.cell? ⟨g, off + k * 3 + 2, none⟩ = some (.string (l.getD k onil).2.2)
theorem OB.fr {lo hi B : Nat} {w w' : World} {a : Option Addr} {l : List Ob} (h : OB B w a l) (hF : Fr lo hi w w') (hb : B <= lo \/ hi <= lo) : OB B w' a l := fun k hk => by
 obtain ⟨g, off, e, hg, d0, d1, d2⟩ := h k hk
 have ho : g < lo \/ hi <= g := by omega
 exact ⟨g, off, e, hg, hF.cell d0 ho, hF.cell d1 ho, hF.cell d2 ho⟩
theorem OB.below {B : Nat} {w w' : World} {a : Option Addr} {l : List Ob} (h : OB B w a l) (hb : Below w.heap.size w w') : OB B w' a l := h.fr (Fr.ofBelow (lo := 0) (hi := 0) hb) (.inr (Nat.le_refl _))
theorem OB.mono {B B' : Nat} {w : World} {a : Option Addr} {l : List Ob} (h : OB B w a l) (hb : B <= B') : OB B' w a l := fun k hk => by
 obtain ⟨g, off, e, hg, d⟩ := h k hk
 exact ⟨g, off, e, by omega, d⟩
theorem OB.of {w : World} {base c : Nat} {a : Option Addr} {l : List Ob} (h : w.ownsRow base 34 3 (.slice a l.length c) l.length (ocells l)) : OB w.heap.size w a l := by
 intro k hk
 rcases h.2 with ⟨h', h0⟩ | ⟨g, cap, cur, h', _, hh, _⟩
 ·omega
 ·simp only [Value.slice.injEq] at h'
  obtain ⟨rfl, _, rfl⟩ := h'
  have hc := h.cellAt
  refine ⟨g, 0, rfl, (Array.getElem?_eq_some_iff.1 hh).1, ?_, ?_, ?_⟩
  ·rw [Nat.zero_add, hc (k * 3) (by omega), ocells, rowG_at _ _ _ (by omega), ocell0]
  ·rw [Nat.zero_add, hc (k * 3 + 1) (by omega), ocells, rowG_at _ _ _ (by omega), ocell1]
  ·rw [Nat.zero_add, hc (k * 3 + 2) (by omega), ocells, rowG_at _ _ _ (by omega), ocell2]
def SmallO (l : List Ob) : Prop := ∀ o ∈ l, o.1.size <= 1048576 /\ o.2.2.size <= 1048576
def left1 (n : Int) (o : Ob) : Int := if n - o.1.size < 0 then -1 else if n - o.1.size - o.2.2.size < 0 then -1 else n - o.1.size - o.2.2.size
def leftOF : Int -> List Ob -> Int
 | n, [] => n
 | n, o :: t => if left1 n o < 0 then -1 else leftOF (left1 n o) t
def leftO (n : Int) (l : List Ob) : Int := if n - l.length < 0 then -1 else leftOF (n - l.length) l
theorem left1_nums {n : Int} {o : Ob} (h : ¬ left1 n o < 0) : left1 n o = n - o.1.size - o.2.2.size /\ (o.1.size : Int) <= n /\ (o.2.2.size : Int) <= n := by
 unfold left1 at h ⊢
 split at h
 ·omega
 ·rename_i h1
  rw [if_neg h1]
  split at h
  ·omega
  ·rename_i h2
   rw [if_neg h2]; omega
theorem leftOF_stop {n : Int} {o : Ob} {t : List Ob} (h : left1 n o < 0) : leftOF n (o :: t) = -1 := by rw [leftOF, if_pos h]
theorem leftOF_go {n : Int} {o : Ob} {t : List Ob} (h : ¬ left1 n o < 0) : leftOF n (o :: t) = leftOF (left1 n o) t := by rw [leftOF, if_neg h]
def mixO (l : List Ob) (k j : Nat) : Value := if j < k * 3 then ocell l j else if j % 3 = 1 then .int .i64 0 else .string ⟨#[]⟩
theorem mixO_zero (l : List Ob) (m : Nat) : (madeCells (Value.agg #[.string ⟨#[]⟩, .int .i64 0, .string ⟨#[]⟩]).cells m).toList = rowG (mixO l 0) m := by
 apply List.ext_getElem?
 intro j
 by_cases hj : j < m
 ·rw [rowG_at _ _ _ hj]
  have h3 : j % 3 = 0 \/ j % 3 = 1 \/ j % 3 = 2 := by omega
  unfold mixO
  rw [if_neg (by omega)]
  rcases h3 with h | h | h <;> simp [madeCells, hj, Value.cells, h]
 ·have h0 : (rowG (mixO l 0) m)[j]? = none := List.getElem?_eq_none (by rw [rowG_length]; omega)
  rw [h0]
  simp [madeCells, hj]
theorem mixO_full (l : List Ob) : rowG (mixO l l.length) (l.length * 3) = ocells l := by
 apply rowG_congr
 intro j hj
 unfold mixO
 rw [if_pos hj]
end Go.Proofs.YtcfnkndbhpdfnaaGreatDoor.Fl
namespace Go.Proofs.YtcfnkndbhpdfnaaGreatDoor.Fl
open Go.ChangeShapes Go.WideShapes Go.ChangeAt Go.RowKit
set_option maxHeartbeats 1000000 in
theorem szFile (o : Ob) (n : Int) (w : World) (f1 : o.1.size <= 9223372036854775807) (f2 : o.2.2.size <= 9223372036854775807) (h0 : 0 <= n) (h1 : n <= 1048576) :
  Calls Tryz.prog 5 #[.agg #[.string o.1, .int .i64 o.2.1, .string o.2.2], .int .i64 n] w fun e w' => e = .returned (.int .i64 (left1 n o)) /\ Below w.heap.size w w' := by
 obtain ⟨s, k, t⟩ := o
 simp only [] at f1 f2 ⊢
 by_cases hn : n - s.size < 0
 ·have hC : Hid (left1 n (s, k, t) = -1) := if_pos hn
  go_enter Tryz.func5, Tryz.ntmps5
  go_wp2
  go_ret
  exact ⟨ret_int hC.out.symm, allocBelow _ _⟩
 ·by_cases hm : n - s.size - t.size < 0
  ·have hC : Hid (left1 n (s, k, t) = -1) := by show _ = _; unfold left1; rw [if_neg hn, if_pos hm]
   go_enter Tryz.func5, Tryz.ntmps5
   go_wp2
   go_ret
   exact ⟨ret_int hC.out.symm, allocBelow _ _⟩
  ·have hC : Hid (left1 n (s, k, t) = n - s.size - t.size) := by show _ = _; unfold left1; rw [if_neg hn, if_neg hm]
   go_enter Tryz.func5, Tryz.ntmps5
   go_wp2
   go_ret
   exact ⟨ret_int hC.out.symm, allocBelow _ _⟩
set_option maxHeartbeats 1000000 in
theorem toFile (s t : ByteArray) (k : Int) (w : World) :
  Calls Tryz.prog 8 #[.agg #[.string s, .int .i64 k, .string t]] w fun e w' => e = .returned (.agg #[.string s, .int .i64 k, .string t]) /\ Below w.heap.size w w' := by
 go_enter Tryz.func8, Tryz.ntmps8
 go_wp2
 refine bodyPost_ret (v := .agg #[.string s, .int .i64 k, .string t]) (by simp [results, Tryz.results8, go_sem]) rfl ⟨rfl, ?_⟩
 exact (((Below.refl _ _).alloc (Nat.le_refl _) _).alloc (by simp) _).alloc (by simp; omega) _
theorem beqSelf (s : ByteArray) : (s.toList == s.toList) = true := beq_bytes_true rfl
end Go.Proofs.YtcfnkndbhpdfnaaGreatDoor.Fl
namespace Go.Proofs.YtcfnkndbhpdfnaaGreatDoor.Fl
open Go.ChangeShapes Go.WideShapes Go.ChangeAt Go.RowKit
theorem ocell_app (l m : List Ob) (j : Nat) : ocell (l ++ m) (l.length * 3 + j) = ocell m j := by
 unfold ocell
 have e1 : (l.length * 3 + j) % 3 = j % 3 := by omega
 have e2 : (l.length * 3 + j) / 3 = l.length + j / 3 := by omega
 rw [e1, e2]
 have e3 : (l ++ m).getD (l.length + j / 3) onil = m.getD (j / 3) onil := by rw [List.getD, List.getD, List.getElem?_append_right (by omega), show l.length + j / 3 - l.length = j / 3 by omega]
 rw [e3]
theorem ocell_left (l m : List Ob) (j : Nat) (h : j < l.length * 3) : ocell (l ++ m) j = ocell l j := by
 unfold ocell
 have h3 : j / 3 < l.length := by omega
 have e3 : (l ++ m).getD (j / 3) onil = l.getD (j / 3) onil := by simp [List.getD, List.getElem?_append_left h3]
 rw [e3]
theorem ocells_app (l m : List Ob) : ocells (l ++ m) = ocells l ++ ocells m := by
 unfold ocells
 rw [List.length_append, Nat.add_mul, rowG_append]
 congr 1
 ·exact rowG_congr fun j hj => ocell_left l m j hj
 ·exact rowG_congr fun j _ => ocell_app l m j
theorem ocells_one (o : Ob) : ocells [o] = [.string o.1, .int .i64 o.2.1, .string o.2.2] := by
 unfold ocells rowG
 show (List.range 3).map (ocell [o]) = _
 rw [show List.range 3 = [0, 1, 2] from rfl]
 simp [ocell]
end Go.Proofs.YtcfnkndbhpdfnaaGreatDoor.Fl
namespace Go.Proofs.YtcfnkndbhpdfnaaGreatDoor.Fl
open Go.ChangeShapes Go.WideShapes Go.ChangeAt Go.RowKit
theorem run_eqF (x1 x3 y1 y3 : ByteArray) (x2 y2 : Int) (w : World) : (Op.equalIn 10000 34 (.agg #[.string x1, .int .i64 x2, .string x3]) (.agg #[.string y1, .int .i64 y2, .string y3])).run Tryz.prog w = .ok (decide (((x1, x2, x3) : Ob) = (y1, y2, y3))) w := by
 by_cases h1 : x1 = y1
 ·subst h1
  have b1 := beqSelf x1
  by_cases h2 : x2 = y2
  ·subst h2
   by_cases h3 : x3 = y3
   ·subst h3
    have b3 := beqSelf x3
    go_simp
   ·have b3 : (x3.toList == y3.toList) = false := beq_bytes_false h3
    have e : ¬ (((x1, x2, x3) : Ob) = (x1, x2, y3)) := fun h => h3 (by simpa using h)
    rw [decide_eq_false e]
    go_simp
  ·have b2 : (x2 == y2) = false := by simp [h2]
   have e : ¬ (((x1, x2, x3) : Ob) = (x1, y2, y3)) := fun h => h2 (by simp at h; exact h.1)
   rw [decide_eq_false e]
   go_simp
 ·have b1 : (x1.toList == y1.toList) = false := beq_bytes_false h1
  have e : ¬ (((x1, x2, x3) : Ob) = (y1, y2, y3)) := fun h => h1 (by simp at h; exact h.1)
  rw [decide_eq_false e]
  go_simp
def mk (b o t : Ob) : Int := if o = t then 0 else if t = b then 1 else if o = b then 2 else if o = onil then 4 else if t = onil then 4 else 3
theorem ef_yes {x1 x3 y1 y3 : ByteArray} {x2 y2 : Int} (h : ((x1, x2, x3) : Ob) = (y1, y2, y3)) (w : World) : (Op.equalIn 10000 34 (.agg #[.string x1, .int .i64 x2, .string x3]) (.agg #[.string y1, .int .i64 y2, .string y3])).run Tryz.prog w = .ok true w := by
 rw [run_eqF, decide_eq_true h]
theorem ef_no {x1 x3 y1 y3 : ByteArray} {x2 y2 : Int} (h : ¬ ((x1, x2, x3) : Ob) = (y1, y2, y3)) (w : World) : (Op.equalIn 10000 34 (.agg #[.string x1, .int .i64 x2, .string x3]) (.agg #[.string y1, .int .i64 y2, .string y3])).run Tryz.prog w = .ok false w := by
 rw [run_eqF, decide_eq_false h]
theorem ef_nil {x1 x3 : ByteArray} {x2 : Int} (h : ((x1, x2, x3) : Ob) = onil) (w : World) : (Op.equalIn 10000 34 (.agg #[.string x1, .int .i64 x2, .string x3]) (.agg #[.string ⟨#[]⟩, .int .i64 0, .string ⟨#[]⟩])).run Tryz.prog w = .ok true w := ef_yes h w
theorem ef_some {x1 x3 : ByteArray} {x2 : Int} (h : ¬ ((x1, x2, x3) : Ob) = onil) (w : World) : (Op.equalIn 10000 34 (.agg #[.string x1, .int .i64 x2, .string x3]) (.agg #[.string ⟨#[]⟩, .int .i64 0, .string ⟨#[]⟩])).run Tryz.prog w = .ok false w := ef_no h w
set_option maxRecDepth 20000 in
set_option maxHeartbeats 2000000 in
theorem specMergeKind (b1 b3 o1 o3 t1 t3 : ByteArray) (b2 o2 t2 : Int) (w : World) :
  Calls Tryz.prog 45 #[.agg #[.string b1, .int .i64 b2, .string b3], .agg #[.string o1, .int .i64 o2, .string o3], .agg #[.string t1, .int .i64 t2, .string t3]] w fun e w' => e = .returned (.int .i64 (mk (b1, b2, b3) (o1, o2, o3) (t1, t2, t3))) /\ Below w.heap.size w w' := by
 obtain ⟨R, hR⟩ : ∃ R, mk (b1, b2, b3) (o1, o2, o3) (t1, t2, t3) = R := ⟨_, rfl⟩
 rw [hR]
 unfold mk at hR
 by_cases h1 : ((o1, o2, o3) : Ob) = (t1, t2, t3)
 ·have f1 := fun w => ef_yes h1 w
  rw [if_pos h1] at hR
  have HC : Hid (R = 0) := hR.symm
  clear hR h1
  go_enter Tryz.func45, Tryz.ntmps45
  go_wp2
  go_ret
  exact ⟨ret_int HC.out.symm, ((((Below.refl _ _).alloc (Nat.le_refl _) _).alloc (by simp) _).alloc (by simp; omega) _).alloc (by simp; omega) _⟩
 have f1 := fun w => ef_no h1 w
 rw [if_neg h1] at hR
 clear h1
 by_cases h2 : ((t1, t2, t3) : Ob) = (b1, b2, b3)
 ·have f2 := fun w => ef_yes h2 w
  rw [if_pos h2] at hR
  have HC : Hid (R = 1) := hR.symm
  clear hR h2
  go_enter Tryz.func45, Tryz.ntmps45
  go_wp2
  go_ret
  exact ⟨ret_int HC.out.symm, ((((Below.refl _ _).alloc (Nat.le_refl _) _).alloc (by simp) _).alloc (by simp; omega) _).alloc (by simp; omega) _⟩
 have f2 := fun w => ef_no h2 w
 rw [if_neg h2] at hR
 clear h2
 by_cases h3 : ((o1, o2, o3) : Ob) = (b1, b2, b3)
 ·have f3 := fun w => ef_yes h3 w
  rw [if_pos h3] at hR
  have HC : Hid (R = 2) := hR.symm
  clear hR h3
  go_enter Tryz.func45, Tryz.ntmps45
  go_wp2
  go_ret
  exact ⟨ret_int HC.out.symm, ((((Below.refl _ _).alloc (Nat.le_refl _) _).alloc (by simp) _).alloc (by simp; omega) _).alloc (by simp; omega) _⟩
 have f3 := fun w => ef_no h3 w
 rw [if_neg h3] at hR
 clear h3
 by_cases h4 : ((o1, o2, o3) : Ob) = onil
 ·have f4 := fun w => ef_nil h4 w
  rw [if_pos h4] at hR
  have HC : Hid (R = 4) := hR.symm
  clear hR h4
  go_enter Tryz.func45, Tryz.ntmps45
  go_wp2
  go_ret
  exact ⟨ret_int HC.out.symm, ((((Below.refl _ _).alloc (Nat.le_refl _) _).alloc (by simp) _).alloc (by simp; omega) _).alloc (by simp; omega) _⟩
 have f4 := fun w => ef_some h4 w
 rw [if_neg h4] at hR
 clear h4
 by_cases h5 : ((t1, t2, t3) : Ob) = onil
 ·have f5 := fun w => ef_nil h5 w
  rw [if_pos h5] at hR
  have HC : Hid (R = 4) := hR.symm
  clear hR h5
  go_enter Tryz.func45, Tryz.ntmps45
  go_wp2
  go_ret
  exact ⟨ret_int HC.out.symm, ((((Below.refl _ _).alloc (Nat.le_refl _) _).alloc (by simp) _).alloc (by simp; omega) _).alloc (by simp; omega) _⟩
 have f5 := fun w => ef_some h5 w
 rw [if_neg h5] at hR
 have HC : Hid (R = 3) := hR.symm
 clear hR h5
 go_enter Tryz.func45, Tryz.ntmps45
 go_wp2
 go_ret
 exact ⟨ret_int HC.out.symm, ((((Below.refl _ _).alloc (Nat.le_refl _) _).alloc (by simp) _).alloc (by simp; omega) _).alloc (by simp; omega) _⟩
set_option maxRecDepth 20000 in
set_option maxHeartbeats 2000000 in
theorem implMergeKind (b1 b3 o1 o3 t1 t3 : ByteArray) (b2 o2 t2 : Int) (w : World) :
  Calls Tryz.prog 58 #[.agg #[.string b1, .int .i64 b2, .string b3], .agg #[.string o1, .int .i64 o2, .string o3], .agg #[.string t1, .int .i64 t2, .string t3]] w fun e w' => e = .returned (.int .i64 (mk (b1, b2, b3) (o1, o2, o3) (t1, t2, t3))) /\ Below w.heap.size w w' := by
 obtain ⟨R, hR⟩ : ∃ R, mk (b1, b2, b3) (o1, o2, o3) (t1, t2, t3) = R := ⟨_, rfl⟩
 rw [hR]
 unfold mk at hR
 by_cases h1 : ((o1, o2, o3) : Ob) = (t1, t2, t3)
 ·have f1 := fun w => ef_yes h1 w
  rw [if_pos h1] at hR
  have HC : Hid (R = 0) := hR.symm
  clear hR h1
  go_enter Tryz.func58, Tryz.ntmps58
  go_wp2
  go_ret
  exact ⟨ret_int HC.out.symm, (((Below.refl _ _).alloc (Nat.le_refl _) _).alloc (by simp) _).alloc (by simp; omega) _⟩
 have f1 := fun w => ef_no h1 w
 rw [if_neg h1] at hR
 clear h1
 by_cases h2 : ((t1, t2, t3) : Ob) = (b1, b2, b3)
 ·have f2 := fun w => ef_yes h2 w
  rw [if_pos h2] at hR
  have HC : Hid (R = 1) := hR.symm
  clear hR h2
  go_enter Tryz.func58, Tryz.ntmps58
  go_wp2
  go_ret
  exact ⟨ret_int HC.out.symm, (((Below.refl _ _).alloc (Nat.le_refl _) _).alloc (by simp) _).alloc (by simp; omega) _⟩
 have f2 := fun w => ef_no h2 w
 rw [if_neg h2] at hR
 clear h2
 by_cases h3 : ((o1, o2, o3) : Ob) = (b1, b2, b3)
 ·have f3 := fun w => ef_yes h3 w
  rw [if_pos h3] at hR
  have HC : Hid (R = 2) := hR.symm
  clear hR h3
  go_enter Tryz.func58, Tryz.ntmps58
  go_wp2
  go_ret
  exact ⟨ret_int HC.out.symm, (((Below.refl _ _).alloc (Nat.le_refl _) _).alloc (by simp) _).alloc (by simp; omega) _⟩
 have f3 := fun w => ef_no h3 w
 rw [if_neg h3] at hR
 clear h3
 by_cases h4 : ((o1, o2, o3) : Ob) = onil
 ·have f4 := fun w => ef_nil h4 w
  rw [if_pos h4] at hR
  have HC : Hid (R = 4) := hR.symm
  clear hR h4
  go_enter Tryz.func58, Tryz.ntmps58
  go_wp2
  go_ret
  exact ⟨ret_int HC.out.symm, (((Below.refl _ _).alloc (Nat.le_refl _) _).alloc (by simp) _).alloc (by simp; omega) _⟩
 have f4 := fun w => ef_some h4 w
 rw [if_neg h4] at hR
 clear h4
 by_cases h5 : ((t1, t2, t3) : Ob) = onil
 ·have f5 := fun w => ef_nil h5 w
  rw [if_pos h5] at hR
  have HC : Hid (R = 4) := hR.symm
  clear hR h5
  go_enter Tryz.func58, Tryz.ntmps58
  go_wp2
  go_ret
  exact ⟨ret_int HC.out.symm, (((Below.refl _ _).alloc (Nat.le_refl _) _).alloc (by simp) _).alloc (by simp; omega) _⟩
 have f5 := fun w => ef_some h5 w
 rw [if_neg h5] at hR
 have HC : Hid (R = 3) := hR.symm
 clear hR h5
 go_enter Tryz.func58, Tryz.ntmps58
 go_wp2
 go_ret
 exact ⟨ret_int HC.out.symm, (((Below.refl _ _).alloc (Nat.le_refl _) _).alloc (by simp) _).alloc (by simp; omega) _⟩
end Go.Proofs.YtcfnkndbhpdfnaaGreatDoor.Fl
