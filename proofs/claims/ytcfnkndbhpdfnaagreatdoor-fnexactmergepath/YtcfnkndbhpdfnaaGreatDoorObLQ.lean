/- Rows of objects in memory: their cells, who owns them, and what is left of a size. No statement is proved here. -/
import Derived.Test.YtcfnkndbhpdfnaaGreatDoorDTabQ
import Derived.Deep.RegionWith
import Derived.Deep.Strs
import Derived.Lib.SmallJoins
namespace Go.Proofs.YtcfnkndbhpdfnaaGreatDoor
open Go.ChangeShapes Go.WideShapes Go.ChangeAt Go.RowKit
abbrev Ob := ByteArray × Int × ByteArray
def onil : Ob := (ByteArray.empty, 0, ByteArray.empty)
theorem ob_mem (l : List Ob) (k : Nat) (hk : k < l.length) : l.getD k onil ∈ l := by
 rw [List.getD, List.getElem?_eq_getElem hk]; exact List.getElem_mem hk
theorem ob_drop (l : List Ob) (k : Nat) (h : k < l.length) : l.drop k = l.getD k onil :: l.drop (k + 1) := by
 rw [List.drop_eq_getElem_cons h]; simp [List.getD, h]
theorem ob_take (l : List Ob) (k : Nat) (h : k < l.length) : l.take (k + 1) = l.take k ++ [l.getD k onil] := by
 rw [List.take_succ_eq_append_getElem h]; simp [List.getD, h]
def rowG (f : Nat -> Value) (m : Nat) : List Value := (List.range m).map f
theorem rowG_length (f : Nat -> Value) (m : Nat) : (rowG f m).length = m := by simp [rowG]
theorem rowG_at (f : Nat -> Value) (m j : Nat) (h : j < m) : (rowG f m)[j]? = some (f j) := by simp [rowG, h]
theorem rowG_congr {f g : Nat -> Value} {m : Nat} (h : ∀ j, j < m -> f j = g j) : rowG f m = rowG g m := by
 unfold rowG
 apply List.map_congr_left
 intro j hj
 exact h j (List.mem_range.1 hj)
theorem rowG_set (f : Nat -> Value) (m i : Nat) (v : Value) : (rowG f m).set i v = rowG (fun j => if j = i then v else f j) m := by
 apply List.ext_getElem?
 intro j
 by_cases hj : j < m
 ·rw [rowG_at _ _ _ hj]
  by_cases e : j = i
  ·subst e
   rw [List.getElem?_set_self (by rw [rowG_length]; exact hj), if_pos rfl]
  ·rw [List.getElem?_set_ne (by omega), rowG_at _ _ _ hj, if_neg e]
 ·rw [List.getElem?_eq_none (by rw [List.length_set, rowG_length]; omega), List.getElem?_eq_none (by rw [rowG_length]; omega)]
theorem rowG_append (f : Nat -> Value) (m n : Nat) : rowG f (m + n) = rowG f m ++ rowG (fun j => f (m + j)) n := by
 unfold rowG
 rw [List.range_add, List.map_append, List.map_map]
 rfl
theorem infoObj : (Tryz.prog.info? 50).map (fun i => (i.zero, i.size, i.bytes)) = some (some (.agg #[.string ⟨#[]⟩, .int .i64 0, .string ⟨#[]⟩]), 3, 40) := by kernel_rfl
def ocell (l : List Ob) (j : Nat) : Value :=
 if j % 3 = 0 then .string (l.getD (j / 3) onil).1 else if j % 3 = 1 then .int .i64 (l.getD (j / 3) onil).2.1 else .string (l.getD (j / 3) onil).2.2
theorem ocell0 (l : List Ob) (k : Nat) : ocell l (k * 3) = .string (l.getD k onil).1 := by
 unfold ocell; rw [if_pos (by omega), show k * 3 / 3 = k by omega]
theorem ocell1 (l : List Ob) (k : Nat) : ocell l (k * 3 + 1) = .int .i64 (l.getD k onil).2.1 := by
 unfold ocell; rw [if_neg (by omega), if_pos (by omega), show (k * 3 + 1) / 3 = k by omega]
theorem ocell2 (l : List Ob) (k : Nat) : ocell l (k * 3 + 2) = .string (l.getD k onil).2.2 := by
 unfold ocell; rw [if_neg (by omega), if_neg (by omega), show (k * 3 + 2) / 3 = k by omega]
def ocells (l : List Ob) : List Value := rowG (ocell l) (l.length * 3)
theorem ocells_length (l : List Ob) : (ocells l).length = l.length * 3 := rowG_length _ _
def OB (B : Nat) (w : World) (a : Option Addr) (l : List Ob) : Prop :=
 ∀ k, k < l.length -> ∃ g off, a = some ⟨g, off, none⟩ /\ g < B /\ w.cell? ⟨g, off + k * 3, none⟩ = some (.string (l.getD k onil).1) /\ w.cell? ⟨g, off + k * 3 + 1, none⟩ = some (.int .i64 (l.getD k onil).2.1) /\ w.cell? ⟨g, off + k * 3 + 2, none⟩ = some (.string (l.getD k onil).2.2)
theorem OB.fr {lo hi B : Nat} {w w' : World} {a : Option Addr} {l : List Ob} (h : OB B w a l) (hF : Fr lo hi w w') (hb : B <= lo \/ hi <= lo) : OB B w' a l := fun k hk => by
 obtain ⟨g, off, e, hg, d0, d1, d2⟩ := h k hk
 have ho : g < lo \/ hi <= g := by omega
 exact ⟨g, off, e, hg, hF.cell d0 ho, hF.cell d1 ho, hF.cell d2 ho⟩
theorem OB.below {B : Nat} {w w' : World} {a : Option Addr} {l : List Ob} (h : OB B w a l) (hb : Below w.heap.size w w') : OB B w' a l := h.fr (Fr.ofBelow (lo := 0) (hi := 0) hb) (.inr (Nat.le_refl _))
theorem OB.mono {B B' : Nat} {w : World} {a : Option Addr} {l : List Ob} (h : OB B w a l) (hb : B <= B') : OB B' w a l := fun k hk => by
 obtain ⟨g, off, e, hg, d⟩ := h k hk
 exact ⟨g, off, e, by omega, d⟩
theorem OB.of {w : World} {base c : Nat} {a : Option Addr} {l : List Ob} (h : w.ownsRow base 50 3 (.slice a l.length c) l.length (ocells l)) : OB w.heap.size w a l := by
 intro k hk
 rcases h.2 with ⟨h', h0⟩ | ⟨g, cap, cur, h', _, hh, _⟩
 ·omega
 ·simp only [Value.slice.injEq] at h'
  obtain ⟨rfl, _, rfl⟩ := h'
  have hc := h.cellAt
  refine ⟨g, 0, rfl, (Array.getElem?_eq_some_iff.1 hh).1, ?_, ?_, ?_⟩
  ·rw [Nat.zero_add, hc (k * 3) (by omega), ocells, rowG_at _ _ _ (by omega), ocell0]
  ·rw [Nat.zero_add, hc (k * 3 + 1) (by omega), ocells, rowG_at _ _ _ (by omega), ocell1]
  ·rw [Nat.zero_add, hc (k * 3 + 2) (by omega), ocells, rowG_at _ _ _ (by omega), ocell2]
def FitsO (l : List Ob) : Prop := ∀ o ∈ l, o.1.size <= 9223372036854775807 /\ o.2.2.size <= 9223372036854775807
def SmallO (l : List Ob) : Prop := ∀ o ∈ l, o.1.size <= 1048576 /\ o.2.2.size <= 1048576
def left1 (n : Int) (o : Ob) : Int := if n - o.1.size < 0 then -1 else if n - o.1.size - o.2.2.size < 0 then -1 else n - o.1.size - o.2.2.size
def leftOF : Int -> List Ob -> Int
 | n, [] => n
 | n, o :: t => if left1 n o < 0 then -1 else leftOF (left1 n o) t
def leftO (n : Int) (l : List Ob) : Int := if n - l.length < 0 then -1 else leftOF (n - l.length) l
theorem left1_nums {n : Int} {o : Ob} (h : ¬ left1 n o < 0) : left1 n o = n - o.1.size - o.2.2.size /\ (o.1.size : Int) <= n /\ (o.2.2.size : Int) <= n := by
 unfold left1 at h ⊢
 split at h
 ·omega
 ·rename_i h1
  rw [if_neg h1]
  split at h
  ·omega
  ·rename_i h2
   rw [if_neg h2]; omega
theorem leftOF_stop {n : Int} {o : Ob} {t : List Ob} (h : left1 n o < 0) : leftOF n (o :: t) = -1 := by rw [leftOF, if_pos h]
theorem leftOF_go {n : Int} {o : Ob} {t : List Ob} (h : ¬ left1 n o < 0) : leftOF n (o :: t) = leftOF (left1 n o) t := by rw [leftOF, if_neg h]
theorem leftOF_nums : ∀ (l : List Ob) (n : Int), ¬ leftOF n l < 0 -> ∀ o ∈ l, (o.1.size : Int) <= n /\ (o.2.2.size : Int) <= n := by
 intro l
 induction l with
 | nil => intro n _ o h; cases h
 | cons h t ih =>
  intro n hn
  by_cases hl : left1 n h < 0
  ·rw [leftOF_stop hl] at hn; omega
  ·rw [leftOF_go hl] at hn
   obtain ⟨e, h1, h2⟩ := left1_nums hl
   have i := ih _ hn
   rw [e] at i
   intro o ho
   rcases List.mem_cons.1 ho with rfl | ho
   ·exact ⟨h1, h2⟩
   ·have := i o ho; omega
theorem leftO_nums {l : List Ob} {n : Int} (h : ¬ leftO n l < 0) (hn : n <= 1048576) : SmallO l /\ l.length <= 1048576 := by
 unfold leftO at h
 split at h
 ·omega
 ·rename_i h'
  refine ⟨fun o ho => ?_, by omega⟩
  have := leftOF_nums l _ h o ho
  omega
theorem leftO_bd {l : List Ob} {n : Int} (h : ¬ leftO n l < 0) : leftO n l <= n := by
 have key : ∀ (l : List Ob) (n : Int), ¬ leftOF n l < 0 -> leftOF n l <= n := by
  intro l
  induction l with
  | nil => intro n _; exact Int.le_refl _
  | cons o t ih =>
   intro n hn
   by_cases hl : left1 n o < 0
   ·rw [leftOF_stop hl] at hn; omega
   ·rw [leftOF_go hl] at hn ⊢
    have := ih _ hn
    have := (left1_nums hl).1
    omega
 unfold leftO at h ⊢
 split at h
 ·omega
 ·rename_i h'
  rw [if_neg h']
  have := key l _ h
  omega
def mixO (l : List Ob) (k j : Nat) : Value := if j < k * 3 then ocell l j else if j % 3 = 1 then .int .i64 0 else .string ⟨#[]⟩
theorem mixO_zero (l : List Ob) (m : Nat) : (madeCells (Value.agg #[.string ⟨#[]⟩, .int .i64 0, .string ⟨#[]⟩]).cells m).toList = rowG (mixO l 0) m := by
 apply List.ext_getElem?
 intro j
 by_cases hj : j < m
 ·rw [rowG_at _ _ _ hj]
  have h3 : j % 3 = 0 \/ j % 3 = 1 \/ j % 3 = 2 := by omega
  unfold mixO
  rw [if_neg (by omega)]
  rcases h3 with h | h | h <;> simp [madeCells, hj, Value.cells, h]
 ·have h0 : (rowG (mixO l 0) m)[j]? = none := List.getElem?_eq_none (by rw [rowG_length]; omega)
  rw [h0]
  simp [madeCells, hj]
theorem mixO_set (l : List Ob) (k m : Nat) :
  (((rowG (mixO l k) m).set (k * 3) (.string (l.getD k onil).1)).set (k * 3 + 1) (.int .i64 (l.getD k onil).2.1)).set (k * 3 + 2) (.string (l.getD k onil).2.2) = rowG (mixO l (k + 1)) m := by
 rw [rowG_set, rowG_set, rowG_set]
 apply rowG_congr
 intro j _
 by_cases e2 : j = k * 3 + 2
 ·rw [if_pos e2]; unfold mixO; rw [if_pos (by omega), e2, ocell2]
 ·rw [if_neg e2]
  by_cases e1 : j = k * 3 + 1
  ·rw [if_pos e1]; unfold mixO; rw [if_pos (by omega), e1, ocell1]
  ·rw [if_neg e1]
   by_cases e0 : j = k * 3
   ·rw [if_pos e0]; unfold mixO; rw [if_pos (by omega), e0, ocell0]
   ·rw [if_neg e0]
    unfold mixO
    by_cases h : j < k * 3
    ·rw [if_pos h, if_pos (by omega)]
    ·have h1 : ¬ j < (k + 1) * 3 := by omega
     rw [if_neg h, if_neg h1]
theorem mixO_full (l : List Ob) : rowG (mixO l l.length) (l.length * 3) = ocells l := by
 apply rowG_congr
 intro j hj
 unfold mixO
 rw [if_pos hj]
end Go.Proofs.YtcfnkndbhpdfnaaGreatDoor
namespace Go.Proofs.YtcfnkndbhpdfnaaGreatDoor
open Go.ChangeShapes Go.WideShapes Go.ChangeAt Go.RowKit
set_option maxHeartbeats 1000000 in
theorem szObject (o : Ob) (n : Int) (w : World) (f1 : o.1.size <= 9223372036854775807) (f2 : o.2.2.size <= 9223372036854775807) (h0 : 0 <= n) (h1 : n <= 1048576) :
  Calls Tryz.prog 15 #[.agg #[.string o.1, .int .i64 o.2.1, .string o.2.2], .int .i64 n] w fun e w' => e = .returned (.int .i64 (left1 n o)) /\ Below w.heap.size w w' := by
 obtain ⟨s, k, t⟩ := o
 simp only [] at f1 f2 ⊢
 by_cases hn : n - s.size < 0
 ·have hC : Hid (left1 n (s, k, t) = -1) := if_pos hn
  go_enter Tryz.func15, Tryz.ntmps15
  go_wp2
  go_ret
  exact ⟨ret_int hC.out.symm, allocBelow _ _⟩
 ·by_cases hm : n - s.size - t.size < 0
  ·have hC : Hid (left1 n (s, k, t) = -1) := by show _ = _; unfold left1; rw [if_neg hn, if_pos hm]
   go_enter Tryz.func15, Tryz.ntmps15
   go_wp2
   go_ret
   exact ⟨ret_int hC.out.symm, allocBelow _ _⟩
  ·have hC : Hid (left1 n (s, k, t) = n - s.size - t.size) := by show _ = _; unfold left1; rw [if_neg hn, if_neg hm]
   go_enter Tryz.func15, Tryz.ntmps15
   go_wp2
   go_ret
   exact ⟨ret_int hC.out.symm, allocBelow _ _⟩
set_option maxRecDepth 20000 in
set_option maxHeartbeats 2000000 in
theorem szObjectS (a : Option Addr) (c : Nat) (l : List Ob) (n : Int) (w : World) (h : OB w.heap.size w a l) (hf : FitsO l) (hn : l.length <= 9223372036854775807) (h0 : 0 <= n) (h1 : n <= 1048576) :
  Calls Tryz.prog 4 #[.slice a l.length c, .int .i64 n] w fun e w' => e = .returned (.int .i64 (leftO n l)) /\ Below w.heap.size w w' := by
 by_cases hneg : n - l.length < 0
 ·have hC : Hid (leftO n l = -1) := if_pos hneg
  go_enter Tryz.func4, Tryz.ntmps4
  go_wp2
  go_ret
  exact ⟨ret_int hC.out.symm, Below.refl _ _⟩
 have HF : Hid (leftO n l = leftOF (n - l.length) l) := if_neg hneg
 obtain ⟨V, hV⟩ : ∃ V, leftO n l = V := ⟨_, rfl⟩
 rw [hV] at HF ⊢
 clear hV
 have hlen : l.length <= 1048576 := by omega
 go_enter Tryz.func4, Tryz.ntmps4
 go_wp2
 go_loopw [1, 5] (fun t i wr => ∃ (k : Nat) (m : Int), k <= l.length /\ i = .int .i64 k /\ t = .int .i64 m /\ 0 <= m /\ m <= 1048576 /\ Hid (leftOF m (l.drop k) = leftOF (n - l.length) l) /\ Below w.heap.size w wr) (fun _ i _ => l.length - (intOf i).toNat)
 case atStart => exact ⟨0, n - l.length, Nat.zero_le _, rfl, rfl, by omega, by omega, rfl, Below.refl _ _⟩
 case round =>
  obtain ⟨k, m, hk, rfl, rfl, hm0, hm1, hL, hbel⟩ := hrel
  have hsz := hbel.size
  by_cases hlt : k < l.length
  ·have q : (k : Int) < (l.length : Int) := by omega
   obtain ⟨g, off, e, hg, d0, d1, d2⟩ := h.below hbel k hlt
   subst e
   have hdr := ob_drop l k hlt
   have hsl := hf _ (ob_mem l k hlt)
   obtain ⟨C, hCe⟩ : ∃ C, l.getD k onil = C := ⟨_, rfl⟩
   rw [hCe] at d0 d1 d2 hdr hsl
   rw [hdr] at hL
   have hZ := szObject C m wr hsl.1 hsl.2 hm0 hm1
   have hST : left1 m C < 0 -> Hid (leftOF (n - l.length) l = -1) := fun h1 => by show _ = _; rw [<- hL.out, leftOF_stop h1]
   have hGO : ¬ left1 m C < 0 -> Hid (leftOF (left1 m C) (l.drop (k + 1)) = leftOF (n - l.length) l) := fun h1 => by show _ = _; rw [<- hL.out, leftOF_go h1]
   have hbd : ¬ left1 m C < 0 -> left1 m C <= 1048576 := fun h1 => by
    have := left1_nums h1; omega
   obtain ⟨M, hM⟩ : ∃ M, left1 m C = M := ⟨_, rfl⟩
   rw [hM] at hZ hST hGO hbd
   clear hL hCe hdr hM hsl
   by_cases hneg2 : M < 0
   ·have hC := hST hneg2
    clear hST hGO hbd
    go_wp2_with fail
    refine hZ.mono ?_; rintro e w2 ⟨rfl, b2⟩
    have HB := below_step hbel hsz b2
    clear b2 hZ
    go_wp2
    go_ret
    exact ⟨ret_int (hC.out.symm.trans HF.out.symm), HB⟩
   ·have hC := hGO hneg2
    have hM1 := hbd hneg2
    clear hST hGO hbd
    go_wp2_with fail
    refine hZ.mono ?_; rintro e w2 ⟨rfl, b2⟩
    have HB := below_step hbel hsz b2
    clear b2 hZ
    go_wp2
    go_roundw
    case rel => exact ⟨k + 1, M, by omega, by first | rfl | go_num, rfl, by omega, hM1, hC, HB⟩
    case measure => first | (simp [intOf]; omega) | simp [intOf]
  ·have q : ¬ (k : Int) < (l.length : Int) := by omega
   have hC : Hid (leftOF (n - l.length) l = m) := by
    show _ = _
    rw [<- hL.out, List.drop_of_length_le (by omega)]; rfl
   clear hL
   go_wp2
   go_ret
   exact ⟨ret_int (hC.out.symm.trans HF.out.symm), hbel⟩
set_option maxHeartbeats 1000000 in
theorem toObject (s t : ByteArray) (k : Int) (w : World) :
  Calls Tryz.prog 22 #[.agg #[.string s, .int .i64 k, .string t]] w fun e w' => e = .returned (.agg #[.string s, .int .i64 k, .string t]) /\ Below w.heap.size w w' := by
 go_enter Tryz.func22, Tryz.ntmps22
 go_wp2
 refine bodyPost_ret (v := .agg #[.string s, .int .i64 k, .string t]) (by simp [results, Tryz.results22, go_sem]) rfl ⟨rfl, ?_⟩
 exact (((Below.refl _ _).alloc (Nat.le_refl _) _).alloc (by simp) _).alloc (by simp; omega) _
set_option maxRecDepth 20000 in
set_option maxHeartbeats 2000000 in
theorem toObjectS (a : Option Addr) (c : Nat) (l : List Ob) (w : World) (h : OB w.heap.size w a l) (hn : l.length <= 1048576) :
  Calls Tryz.prog 7 #[.slice a l.length c] w fun e w' => e = .returned (.slice (some ⟨w.heap.size, 0, none⟩) l.length l.length) /\
   w'.ownsRow w.heap.size 50 3 (.slice (some ⟨w.heap.size, 0, none⟩) l.length l.length) l.length (ocells l) /\ Below w.heap.size w w' := by
 obtain ⟨i0, hi, hz0, hz1, hz2⟩ := info_parts infoObj
 go_enter Tryz.func7, Tryz.ntmps7
 go_wp2_with (first | (at_make; refine wpList_make_full _ rfl (.tmp 6) (.tmp 6) 27 rfl w.heap.size 50 i0 (.agg #[.string ⟨#[]⟩, .int .i64 0, .string ⟨#[]⟩]) 3 Tryz.underlying27 hi hz0 hz1 .i64 .i64 _ _ l.length rfl rfl (by omega) (by omega) (by rw [hz2]; omega) (by unfold maxLen; omega) (Nat.le_refl _) ?_; intro w1 hown1 hg1))
 have hown : w1.ownsRow w.heap.size 50 3 (.slice (some ⟨w.heap.size, 0, none⟩) l.length l.length) l.length (rowG (mixO l 0) (l.length * 3)) := by
  rw [<- mixO_zero]
  exact hown1
 have hbel : Below w.heap.size w w1 := (Below.refl _ _).grown hg1 (Nat.le_refl _) (by intro k h; cases h)
 clear hown1 hg1
 go_loopw [4] (fun i wr => ∃ (k : Nat), k <= l.length /\ i = .int .i64 k /\ wr.ownsRow w.heap.size 50 3 (.slice (some ⟨w.heap.size, 0, none⟩) l.length l.length) l.length (rowG (mixO l k) (l.length * 3)) /\ Below w.heap.size w wr) (fun i _ => l.length - (intOf i).toNat)
 case atStart => exact ⟨0, Nat.zero_le _, rfl, hown, hbel⟩
 case round =>
  clear hown hbel
  obtain ⟨k, hk, rfl, howr, hbr⟩ := hrel
  have hsz := hbr.size
  by_cases hlt : k < l.length
  ·have q : (k : Int) < (l.length : Int) := by omega
   obtain ⟨g, off, e, hg, d0, d1, d2⟩ := h.below hbr k hlt
   subst e
   have hset := mixO_set l k (l.length * 3)
   obtain ⟨C, hCe⟩ : ∃ C, l.getD k onil = C := ⟨_, rfl⟩
   obtain ⟨x0, x1, x2⟩ := C
   rw [hCe] at d0 d1 d2 hset
   simp only [] at d0 d1 d2 hset
   clear hCe
   go_wp2_with fail
   refine (toObject x0 x2 x1 _).mono ?_; rintro e w2 ⟨rfl, b2⟩
   have ho2 := howr.kept (grownOfBelow b2 none) (.inr (by simp [Value.ownBlock]))
   have hb2 : Below w.heap.size w w2 := below_step hbr hsz b2
   have hlen : (rowG (mixO l k) (l.length * 3)).length = l.length * 3 := ho2.1
   have hcell : ∀ j, j < 3 -> ∃ u, w2.cell? ⟨w.heap.size, k * 3 + j, none⟩ = some u := fun j hj => by
    rw [ho2.cellAt (k * 3 + j) (by omega), List.getElem?_eq_getElem (by omega)]; exact ⟨_, rfl⟩
   obtain ⟨u0, e0⟩ := hcell 0 (by omega)
   obtain ⟨u1, e1⟩ := hcell 1 (by omega)
   obtain ⟨u2, e2⟩ := hcell 2 (by omega)
   rw [Nat.add_zero] at e0
   have f0 := ho2.frozenAt (k * 3)
   have f1 := ho2.frozenAt (k * 3 + 1)
   have f2 := ho2.frozenAt (k * 3 + 2)
   have s0 := ho2.stored (k * 3) (.string x0)
   have s1 := s0.1.stored (k * 3 + 1) (.int .i64 x1)
   have s2 := s1.1.stored (k * 3 + 2) (.string x2)
   have hs3 := s2.1
   rw [hset] at hs3
   have HS : Hid (World.ownsRow _ _ _ _ _ _ _) := hs3
   have HB : Hid (Below w.heap.size w (((w2.setCell ⟨w.heap.size, k * 3, none⟩ (.string x0)).setCell ⟨w.heap.size, k * 3 + 1, none⟩ (.int .i64 x1)).setCell ⟨w.heap.size, k * 3 + 2, none⟩ (.string x2))) :=
    ((hb2.setCell (p := ⟨w.heap.size, k * 3, none⟩) (Nat.le_refl _) _).setCell (p := ⟨w.heap.size, k * 3 + 1, none⟩) (Nat.le_refl _) _).setCell (p := ⟨w.heap.size, k * 3 + 2, none⟩) (Nat.le_refl _) _
   clear s0 s1 s2 hs3 hset hb2 ho2 howr hbr b2 hcell hlen d0 d1 d2
   go_wp2
   go_roundw
   case rel => exact ⟨k + 1, by omega, by go_num, HS.out, HB.out⟩
   case measure => first | (simp [intOf]; omega) | simp [intOf]
  ·have q : ¬ (k : Int) < (l.length : Int) := by omega
   obtain rfl : k = l.length := by omega
   rw [mixO_full] at howr
   go_wp2
   go_ret
   exact ⟨rfl, howr, hbr⟩
theorem beqSelf (s : ByteArray) : (s.toList == s.toList) = true := beq_bytes_true rfl
set_option maxHeartbeats 1000000 in
theorem eqObject (s t : ByteArray) (k : Int) (w : World) :
  Calls Tryz.prog 33 #[.agg #[.string s, .int .i64 k, .string t], .agg #[.string s, .int .i64 k, .string t]] w fun e w' => e = .returned (.bool true) /\ Below w.heap.size w w' := by
 have hb := beqSelf s
 have hc := beqSelf t
 go_enter Tryz.func33, Tryz.ntmps33
 go_wp2
 go_ret
 exact ⟨rfl, ((Below.refl _ _).alloc (Nat.le_refl _) _).alloc (by simp) _⟩
set_option maxRecDepth 20000 in
set_option maxHeartbeats 2000000 in
theorem eqObjectS (a1 a2 : Option Addr) (c1 c2 : Nat) (l : List Ob) (w : World) (h1 : OB w.heap.size w a1 l) (h2 : OB w.heap.size w a2 l) (hn : l.length <= 1048576) :
  Calls Tryz.prog 11 #[.slice a1 l.length c1, .slice a2 l.length c2] w fun e w' => e = .returned (.bool true) /\ Below w.heap.size w w' := by
 have hl : ((l.length : Int) != (l.length : Int)) = false := by simp
 go_enter Tryz.func11, Tryz.ntmps11
 go_wp2
 go_loopw [5] (fun i wr => ∃ k : Nat, k <= l.length /\ i = .int .i64 k /\ Below w.heap.size w wr) (fun i _ => l.length - (intOf i).toNat)
 case atStart => exact ⟨0, Nat.zero_le _, rfl, Below.refl _ _⟩
 case round =>
  obtain ⟨k, hk, rfl, hbel⟩ := hrel
  have hsz := hbel.size
  by_cases hlt : k < l.length
  ·have q : (k : Int) < (l.length : Int) := by omega
   obtain ⟨g, off, e, _, d0, d1, d2⟩ := h1.below hbel k hlt
   obtain ⟨g', off', e', _, f0, f1, f2⟩ := h2.below hbel k hlt
   subst e e'
   obtain ⟨C, hCe⟩ : ∃ C, l.getD k onil = C := ⟨_, rfl⟩
   obtain ⟨x0, x1, x2⟩ := C
   rw [hCe] at d0 d1 d2 f0 f1 f2
   simp only [] at d0 d1 d2 f0 f1 f2
   clear hCe h1 h2
   go_wp2
   go_region_with (go_at_call 33; refine (eqObject x0 x2 x1 _).mono ?_; rintro e w' ⟨rfl, b⟩)
   all_goals
    have b' : Below wr.heap.size wr w' := (below_drew (Below.refl wr.heap.size wr)).trans b
    have HB : Hid (Below w.heap.size w w') := below_step hbel hsz b'
    clear d0 d1 d2 f0 f1 f2 b b' hbel
    go_wp2
    go_roundw
    case rel => exact ⟨k + 1, by omega, by go_num, by first | exact HB.out | exact below_drew HB.out | exact below_drewN' HB.out _⟩
    case measure => first | (simp [intOf]; omega) | simp [intOf]
  ·have q : ¬ (k : Int) < (l.length : Int) := by omega
   go_wp2
   go_ret
   exact ⟨rfl, hbel⟩
end Go.Proofs.YtcfnkndbhpdfnaaGreatDoor
namespace Go.Proofs.YtcfnkndbhpdfnaaGreatDoor
open Go.ChangeShapes Go.WideShapes Go.ChangeAt Go.RowKit
def mkO (m n : Nat) : List Ob := (List.range n).map fun j => (mtxt (m + 3 * j), ((m + 3 * j + 1 : Nat) : Int), mtxt (m + 3 * j + 2))
theorem mkO_length (m n : Nat) : (mkO m n).length = n := by simp [mkO]
theorem mkO_at (m n k : Nat) (h : k < n) : (mkO m n).getD k onil = (mtxt (m + 3 * k), ((m + 3 * k + 1 : Nat) : Int), mtxt (m + 3 * k + 2)) := by simp [mkO, List.getD, h]
def mixP (l : List Ob) (xs : List Value) (k j : Nat) : Value := if j < k * 3 then ocell l j else xs.getD j (.int .i64 0)
theorem mixP_zero (l : List Ob) (xs : List Value) : rowG (mixP l xs 0) xs.length = xs := by
 apply List.ext_getElem?
 intro j
 by_cases hj : j < xs.length
 ·rw [rowG_at _ _ _ hj]
  unfold mixP
  rw [if_neg (by omega)]
  simp [List.getD, hj]
 ·rw [List.getElem?_eq_none (by rw [rowG_length]; omega), List.getElem?_eq_none (by omega)]
theorem mixP_set (l : List Ob) (xs : List Value) (k m : Nat) :
  (((rowG (mixP l xs k) m).set (k * 3) (.string (l.getD k onil).1)).set (k * 3 + 1) (.int .i64 (l.getD k onil).2.1)).set (k * 3 + 2) (.string (l.getD k onil).2.2) = rowG (mixP l xs (k + 1)) m := by
 rw [rowG_set, rowG_set, rowG_set]
 apply rowG_congr
 intro j _
 by_cases e2 : j = k * 3 + 2
 ·rw [if_pos e2]; unfold mixP; rw [if_pos (by omega), e2, ocell2]
 ·rw [if_neg e2]
  by_cases e1 : j = k * 3 + 1
  ·rw [if_pos e1]; unfold mixP; rw [if_pos (by omega), e1, ocell1]
  ·rw [if_neg e1]
   by_cases e0 : j = k * 3
   ·rw [if_pos e0]; unfold mixP; rw [if_pos (by omega), e0, ocell0]
   ·rw [if_neg e0]
    unfold mixP
    by_cases h : j < k * 3
    ·rw [if_pos h, if_pos (by omega)]
    ·have h1 : ¬ j < (k + 1) * 3 := by omega
     rw [if_neg h, if_neg h1]
theorem mixP_full (l : List Ob) (xs : List Value) : rowG (mixP l xs l.length) (l.length * 3) = ocells l := by
 apply rowG_congr
 intro j hj
 unfold mixP
 rw [if_pos hj]
set_option maxRecDepth 20000 in
set_option maxHeartbeats 2000000 in
theorem markObjectS (base : Nat) (a : Option Addr) (n cap m : Nat) (xs : List Value) (w : World) (h1 : 1 <= m) (h2 : m + 3 * n <= 4194304)
  (ho : w.ownsRow base 50 3 (.slice a n cap) n xs) :
  Calls Tryz.prog 12 #[.slice a n cap, .int .i64 m] w fun e w' => e = .returned (.int .i64 ((m + 3 * n : Nat) : Int)) /\
   w'.ownsRow base 50 3 (.slice a n cap) n (ocells (mkO m n)) /\ w.grownBy w' (Value.slice a n cap).ownBlock := by
 have hxl : xs.length = n * 3 := ho.1
 have hst := fun k => mixP_set (mkO m n) xs k (n * 3)
 have hz := mixP_zero (mkO m n) xs
 have hfull := mixP_full (mkO m n) xs
 rw [mkO_length] at hfull
 rw [hxl] at hz
 have hat := fun k h => mkO_at m n k h
 obtain ⟨L, hL⟩ : ∃ L, mkO m n = L := ⟨_, rfl⟩
 rw [hL] at hst hz hfull hat ⊢
 clear hL
 go_enter Tryz.func12, Tryz.ntmps12
 go_wp2
 go_loopw [1, 5] (fun t i wr => ∃ k : Nat, k <= n /\ i = .int .i64 k /\ t = .int .i64 ((m + 3 * k : Nat) : Int) /\ wr.ownsRow base 50 3 (.slice a n cap) n (rowG (mixP L xs k) (n * 3)) /\ w.grownBy wr (Value.slice a n cap).ownBlock) (fun _ i _ => n - (intOf i).toNat)
 case atStart => exact ⟨0, Nat.zero_le _, rfl, rfl, by rw [hz]; exact ho, World.grownBy.refl _ _⟩
 case round =>
  obtain ⟨k, hk, rfl, rfl, hor, hgr⟩ := hrel
  by_cases hlt : k < n
  ·have q : (k : Int) < (n : Int) := by omega
   obtain ⟨g, rfl⟩ : ∃ g, a = some ⟨g, 0, none⟩ := by
    rcases hor.2 with ⟨h', h0⟩ | ⟨g, c, cur, h', _⟩
    ·omega
    ·simp only [Value.slice.injEq] at h'; exact ⟨g, h'.1⟩
   have hM0 := fun w => markText (m + 3 * k) (by omega) (by omega) w
   have hM2 := fun w => markText (m + 3 * k + 2) (by omega) (by omega) w
   have hs3 := hst k
   rw [hat k hlt] at hs3
   simp only [] at hs3
   obtain ⟨t0, ht0⟩ : ∃ t, mtxt (m + 3 * k) = t := ⟨_, rfl⟩
   obtain ⟨t2, ht2⟩ : ∃ t, mtxt (m + 3 * k + 2) = t := ⟨_, rfl⟩
   obtain ⟨M, hMe⟩ : ∃ M, m + 3 * k = M := ⟨_, rfl⟩
   rw [hMe] at hM0 hM2 ht0 ht2 hs3 ⊢
   rw [ht0] at hM0 hs3
   rw [ht2] at hM2 hs3
   have hMb : M + 2 <= 4194304 := by omega
   have HMe : Hid (m + 3 * (k + 1) = M + 3) := by show _ = _; omega
   have HS3 : Hid (_ = _) := hs3
   clear ht0 ht2 hMe hst hat hs3
   have own1 : ∀ {w w' : World} {xs : List Value}, w.ownsRow base 50 3 (.slice (some ⟨g, 0, none⟩) n cap) n xs -> Below w.heap.size w w' -> w'.ownsRow base 50 3 (.slice (some ⟨g, 0, none⟩) n cap) n xs := fun h b => h.kept (grownOfBelow b none) (blockCases _ _ fun b c1 c2 => by cases c2)
   have hcell : ∀ {w : World} {xs : List Value}, w.ownsRow base 50 3 (.slice (some ⟨g, 0, none⟩) n cap) n xs -> ∀ j, j < 3 -> ∃ u, w.cell? ⟨g, k * 3 + j, none⟩ = some u := fun h j hj => by
    have hl := h.1
    rw [h.cellAt (k * 3 + j) (by omega), List.getElem?_eq_getElem (by omega)]; exact ⟨_, rfl⟩
   have own1H : Hid (∀ {w w' : World} {xs : List Value}, w.ownsRow base 50 3 (.slice (some ⟨g, 0, none⟩) n cap) n xs -> Below w.heap.size w w' -> w'.ownsRow base 50 3 (.slice (some ⟨g, 0, none⟩) n cap) n xs) := own1
   have hcellH : Hid (∀ {w : World} {xs : List Value}, w.ownsRow base 50 3 (.slice (some ⟨g, 0, none⟩) n cap) n xs -> ∀ j, j < 3 -> ∃ u, w.cell? ⟨g, k * 3 + j, none⟩ = some u) := hcell
   clear own1 hcell
   go_wp2_with fail
   refine (hM0 _).mono ?_; rintro e w1 ⟨rfl, b1⟩
   have o1 := own1H.out hor b1
   obtain ⟨u0, e0⟩ := hcellH.out o1 0 (by omega)
   rw [Nat.add_zero] at e0
   have f0 := o1.frozenAt (k * 3)
   have s0 := o1.stored (k * 3) (.string t0)
   have g0 := grownTrans (grownTrans hgr (grownOfBelow b1 _)) s0.2
   obtain ⟨u1, e1⟩ := hcellH.out s0.1 1 (by omega)
   have f1 := s0.1.frozenAt (k * 3 + 1)
   have s1 := s0.1.stored (k * 3 + 1) (.int .i64 ((M + 1 : Nat) : Int))
   have g1 := grownTrans g0 s1.2
   have S1 : Hid (World.ownsRow _ _ _ _ _ _ _) := s1.1
   have G1 : Hid (World.grownBy _ _ _) := g1
   clear hM0 hor hgr b1 o1 s0 g0 s1 g1
   go_wp2_with fail
   refine (hM2 _).mono ?_; rintro e w2 ⟨rfl, b2⟩
   have o2 := own1H.out S1.out b2
   obtain ⟨u2, e2⟩ := hcellH.out o2 2 (by omega)
   have f2 := o2.frozenAt (k * 3 + 2)
   have s2 := o2.stored (k * 3 + 2) (.string t2)
   have g2 := grownTrans (grownTrans G1.out (grownOfBelow b2 _)) s2.2
   have o3 := s2.1
   rw [HS3.out] at o3
   have S3 : Hid (World.ownsRow _ _ _ _ _ _ _) := o3
   have G3 : Hid (World.grownBy _ _ _) := g2
   clear hM2 S1 G1 b2 o2 s2 g2 o3 e0 f0 e1 f1 own1H hcellH
   go_wp2
   go_roundw
   case rel => exact ⟨k + 1, by omega, by go_num, by rw [HMe.out]; go_num, S3.out, G3.out⟩
   case measure => first | (simp [intOf]; omega) | simp [intOf]
  ·have q : ¬ (k : Int) < (n : Int) := by omega
   obtain rfl : k = n := by omega
   rw [hfull] at hor
   clear hst hz hfull hat
   go_wp2
   go_ret
   exact ⟨rfl, hor, hgr⟩
end Go.Proofs.YtcfnkndbhpdfnaaGreatDoor
namespace Go.Proofs.YtcfnkndbhpdfnaaGreatDoor
open Go.ChangeShapes Go.WideShapes Go.ChangeAt Go.RowKit
set_option maxRecDepth 20000 in
set_option maxHeartbeats 4000000 in
theorem heldObjectS (a : Option Addr) (n cap m : Nat) (w : World) (h1 : 1 <= m) (h2 : m + 3 * n <= 4194304) (hs : OB w.heap.size w a (mkO m n)) :
  Calls Tryz.prog 37 #[.slice a n cap, .int .i64 m] w fun e w' => e = .returned (.int .i64 ((m + 3 * n : Nat) : Int)) /\ Below w.heap.size w w' := by
 go_enter Tryz.func37, Tryz.ntmps37
 go_wp2
 go_loopw [1, 5] (fun t i wr => ∃ k : Nat, k <= n /\ i = .int .i64 k /\ t = .int .i64 ((m + 3 * k : Nat) : Int) /\ Below w.heap.size w wr) (fun _ i _ => n - (intOf i).toNat)
 case atStart => exact ⟨0, Nat.zero_le _, rfl, rfl, Below.refl _ _⟩
 case round =>
  obtain ⟨k, hk, rfl, rfl, hbr⟩ := hrel
  have hsz := hbr.size
  by_cases hlt : k < n
  ·have q : (k : Int) < (n : Int) := by omega
   obtain ⟨g, off, e, hg, d0, d1, d2⟩ := hs.below hbr k (by rw [mkO_length]; exact hlt)
   subst e
   rw [mkO_at m n k hlt] at d0 d1 d2
   simp only [] at d0 d1 d2
   have hM0 := fun w => markText (m + 3 * k) (by omega) (by omega) w
   have hM2 := fun w => markText (m + 3 * k + 2) (by omega) (by omega) w
   obtain ⟨t0, ht0⟩ : ∃ t, mtxt (m + 3 * k) = t := ⟨_, rfl⟩
   obtain ⟨t2, ht2⟩ : ∃ t, mtxt (m + 3 * k + 2) = t := ⟨_, rfl⟩
   obtain ⟨M, hMe⟩ : ∃ M, m + 3 * k = M := ⟨_, rfl⟩
   rw [hMe] at hM0 hM2 ht0 ht2 d0 d1 d2 ⊢
   rw [ht0] at hM0 d0
   rw [ht2] at hM2 d2
   have HMe : Hid (m + 3 * (k + 1) = M + 3) := by show _ = _; omega
   have hMb : M + 3 <= 4194304 := by omega
   obtain ⟨V, hV⟩ : ∃ V : Int, (M : Int) = V := ⟨_, rfl⟩
   have HV : Hid ((M : Int) = V) := hV
   have hV1 : ((M + 1 : Nat) : Int) = V + 1 := by omega
   have hV2 : ((M + 2 : Nat) : Int) = V + 1 + 1 := by omega
   rw [hV] at hM0 ⊢
   rw [hV1] at d1
   rw [hV2] at hM2
   have hVp : 0 <= V := by omega
   have hVl : V < 16777216 := by omega
   have e0 := beq_bytes_true (rfl : t0 = t0)
   have e2 := beq_bytes_true (rfl : t2 = t2)
   have e1 : (V + 1 != V + 1) = false := by simp
   have hgw : g < wr.heap.size := by omega
   have HB0 : Hid (Below w.heap.size w wr) := hbr
   clear ht0 ht2 hMe hV hV1 hV2 hs hbr
   go_wp2
   go_region_with (go_at_call 34; refine (hM0 _).mono ?_; rintro e w1 ⟨rfl, b1⟩; have x0 := (b1.cell (p := ⟨g, off + k * 3, none⟩) hgw).trans d0; have x1 := (b1.cell (p := ⟨g, off + k * 3 + 1, none⟩) hgw).trans d1; have x2 := (b1.cell (p := ⟨g, off + k * 3 + 2, none⟩) hgw).trans d2; have s1 := b1.size; have HB1 : Hid (Below w.heap.size w w1) := HB0.out.drew.trans (b1.mono HB0.out.size))
   all_goals
    have hgw1 : g < w1.heap.size := Nat.lt_of_lt_of_le hgw s1
    clear d0 d1 d2 b1 hM0 s1
    go_wp2
    go_region_with (go_at_call 34; refine (hM2 _).mono ?_; rintro e w2 ⟨rfl, b2⟩; have y2 := (b2.cell (p := ⟨g, off + k * 3 + 2, none⟩) hgw1).trans x2; have HB2 : Hid (Below w.heap.size w w2) := HB1.out.drew.trans (b2.mono HB1.out.size))
    all_goals
     clear x0 x1 x2 b2 hM2
     go_wp2
     go_roundw
     case rel => exact ⟨k + 1, by omega, by first | rfl | go_num, by rw [HMe.out]; have := HV.out; first | go_num | (congr 1; omega), HB2.out⟩
     case measure => first | (simp [intOf]; omega) | simp [intOf]
  ·have e : k = n := by omega
   subst e
   go_wp2
   go_ret
   exact ⟨rfl, hbr⟩
end Go.Proofs.YtcfnkndbhpdfnaaGreatDoor
namespace Go.Proofs.YtcfnkndbhpdfnaaGreatDoor
open Go.ChangeShapes Go.WideShapes Go.ChangeAt Go.RowKit
theorem oneOf {cs : List Value} {k : Nat} {v : Value} (h : (cs.drop k).take 1 = [v]) : cs[k]? = some v := by
 have := congrArg (fun l => l[0]?) h
 simpa [List.getElem?_take, List.getElem?_drop] using this
theorem openOB {H : Type} {enc : TypeId × Value -> H} {W : World} {a : Option Addr} {len cap : Nat} {d : DataW H} {p : List MemPlace}
  (h : DataW.Trod enc Tryz.prog W 0 (fun _ => true) true 22 (.slice a len cap) d p) :
  ∃ l : List Ob, len = l.length /\ OB W.heap.size W a l /\ FitsO l /\ l.length <= 9223372036854775807 := by
 obtain ⟨fuel, hf⟩ := h
 have hc3 : Tryz.prog.cellsOf 43 = 3 := by kernel_rfl
 have hc1 : Tryz.prog.cellsOf 2 = 1 := by kernel_rfl
 have hc2 : Tryz.prog.cellsOf 9 = 1 := by kernel_rfl
 rcases DataW.trod_slice Tryz.underlying22 hf with ⟨hcs, _⟩ | ⟨x, l, c, elems, rest, n, _, hcs, _, hb, hl, hm, hlen, hel, _, _⟩
 ·simp [Value.cells] at hcs
  obtain ⟨rfl, rfl, rfl⟩ := hcs
  exact ⟨[], rfl, fun k hk => absurd hk (Nat.not_lt_zero _), fun _ hx => by (cases hx), by simp⟩
 ·simp [Value.cells] at hcs
  obtain ⟨rfl, rfl, rfl⟩ := hcs
  unfold maxLen at hm
  rw [hc3] at hel
  have each : ∀ i, i < len -> ∃ C : Ob, (W.cell? ((x.add (i * 3)).add 0) = some (.string C.1) /\ W.cell? ((x.add (i * 3)).add 1) = some (.int .i64 C.2.1) /\ W.cell? ((x.add (i * 3)).add 2) = some (.string C.2.2)) /\ C.1.size <= 9223372036854775807 /\ C.2.2.size <= 9223372036854775807 := by
   intro i hi
   have hy := hel i hi
   rw [List.getElem?_eq_getElem (by omega), Option.bind_eq_some_iff] at hy
   obtain ⟨cs', hcs, hy'⟩ := hy
   obtain ⟨hcb, hcl, hce⟩ := World.cells?_some hcs
   obtain ⟨y0, y1, y2, m, _, hl3, t0, t1, t2⟩ := Go.Deep.trod_struct3 Tryz.underlying43 hy'
   simp only [hc2] at t0 t2
   simp only [hc1] at t1
   obtain ⟨x0, e0, _, w0⟩ := DataW.trod_string Tryz.underlying9 t0
   obtain ⟨x1, e1, _, _⟩ := DataW.trod_int Tryz.underlying2 t1
   obtain ⟨x2, e2, _, w2⟩ := DataW.trod_string Tryz.underlying9 t2
   have g0 := oneOf e0
   have g1 := oneOf e1
   have g2 := oneOf e2
   unfold maxLen at w0 w2
   refine ⟨(x0, x1, x2), ⟨?_, ?_, ?_⟩, by simp only []; omega, by simp only []; omega⟩
   ·rw [hce 0 (by omega)]; exact g0
   ·rw [hce 1 (by omega)]; exact g1
   ·rw [hce 2 (by omega)]; exact g2
  obtain ⟨f, hf'⟩ : ∃ f : Nat -> Ob, ∀ i, i < len -> (W.cell? ((x.add (i * 3)).add 0) = some (.string (f i).1) /\ W.cell? ((x.add (i * 3)).add 1) = some (.int .i64 (f i).2.1) /\ W.cell? ((x.add (i * 3)).add 2) = some (.string (f i).2.2)) /\ (f i).1.size <= 9223372036854775807 /\ (f i).2.2.size <= 9223372036854775807 :=
   ⟨fun i => if h : i < len then Classical.choose (each i h) else onil, fun i hi => by simp only [dif_pos hi]; exact Classical.choose_spec (each i hi)⟩
  have hget : ∀ k, k < len -> ((List.range len).map f).getD k onil = f k := fun k hk => by simp [List.getD, hk]
  obtain ⟨b, off, spot⟩ := x
  refine ⟨(List.range len).map f, by simp, fun k hk => ?_, fun y hy => ?_, by simp; omega⟩
  ·have hk' : k < len := by simpa using hk
   obtain ⟨⟨c0, c1, c2⟩, _⟩ := hf' k hk'
   rw [hget k hk']
   have hspot : spot = none := by
    obtain ⟨⟨c00, _⟩, _⟩ := hf' 0 (by omega)
    have := World.cell?_spot c00
    simpa [Addr.add] using this
   subst hspot
   have hadd : ∀ j, ((⟨b, off, none⟩ : Addr).add (k * 3)).add j = ⟨b, off + k * 3 + j, none⟩ := by
    intro j
    rw [add_plain, add_plain]
   rw [hadd] at c0 c1 c2
   exact ⟨b, off, rfl, cellLt c0, c0, c1, c2⟩
  ·obtain ⟨k, hk, rfl⟩ := List.mem_map.1 hy
   exact (hf' k (List.mem_range.1 hk)).2
end Go.Proofs.YtcfnkndbhpdfnaaGreatDoor
