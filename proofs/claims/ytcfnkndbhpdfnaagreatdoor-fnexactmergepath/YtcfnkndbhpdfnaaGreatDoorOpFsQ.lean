/- An argument that is a file, opened. No statement is proved here. -/
import Derived.Test.YtcfnkndbhpdfnaaGreatDoorFlLQ
import Derived.Deep.Strs
import Derived.Lib.SmallJoins
namespace Go.Proofs.YtcfnkndbhpdfnaaGreatDoor.Fl
open Go.ChangeShapes Go.WideShapes Go.ChangeAt Go.RowKit
theorem oneAtF {cs : List Value} {k : Nat} {v : Value} (h : (cs.drop k).take 1 = [v]) : cs[k]? = some v := by
 have := congrArg (fun l => l[0]?) h
 simpa [List.getElem?_take, List.getElem?_drop] using this
theorem openF {H : Type} {enc : TypeId × Value -> H} {W : World} {n : Nat} {cs : List Value} {y : DataW H × List MemPlace}
  (h : DataW.trod enc Tryz.prog W 0 (fun _ => true) true n 24 cs = some y) :
  ∃ C : Ob, cs = [.string C.1, .int .i64 C.2.1, .string C.2.2] /\ C.1.size <= 9223372036854775807 /\ C.2.2.size <= 9223372036854775807 := by
 have hc3 : Tryz.prog.cellsOf 24 = 3 := by kernel_rfl
 have hc1 : Tryz.prog.cellsOf 2 = 1 := by kernel_rfl
 have hc2 : Tryz.prog.cellsOf 9 = 1 := by kernel_rfl
 obtain ⟨y0, y1, y2, m, _, hl, t0, t1, t2⟩ := Go.Deep.trod_struct3 Tryz.underlying24 h
 rw [hc3] at hl
 simp only [hc2] at t0 t2
 simp only [hc1] at t1
 obtain ⟨x0, e0, _, w0⟩ := DataW.trod_string Tryz.underlying9 t0
 obtain ⟨x1, e1, _, _⟩ := DataW.trod_int Tryz.underlying2 t1
 obtain ⟨x2, e2, _, w2⟩ := DataW.trod_string Tryz.underlying9 t2
 have g0 := oneAtF e0
 have g1 := oneAtF e1
 have g2 := oneAtF e2
 unfold maxLen at w0 w2
 refine ⟨(x0, x1, x2), ?_, by simp only []; omega, by simp only []; omega⟩
 match cs, hl with
 | [c0, c1, c2], _ =>
  simp at g0 g1 g2
  rw [g0, g1, g2]
end Go.Proofs.YtcfnkndbhpdfnaaGreatDoor.Fl
namespace Go.Proofs.YtcfnkndbhpdfnaaGreatDoor.En
open Go.ChangeShapes Go.WideShapes Go.ChangeAt Go.RowKit
abbrev Ob := ByteArray × Int × Int × ByteArray
def onil : Ob := (ByteArray.empty, 0, 0, ByteArray.empty)
theorem ob_mem (l : List Ob) (k : Nat) (hk : k < l.length) : l.getD k onil ∈ l := by
 rw [List.getD, List.getElem?_eq_getElem hk]; exact List.getElem_mem hk
theorem ob_drop (l : List Ob) (k : Nat) (h : k < l.length) : l.drop k = l.getD k onil :: l.drop (k + 1) := by
 rw [List.drop_eq_getElem_cons h]; simp [List.getD, h]
theorem ob_take (l : List Ob) (k : Nat) (h : k < l.length) : l.take (k + 1) = l.take k ++ [l.getD k onil] := by
 rw [List.take_succ_eq_append_getElem h]; simp [List.getD, h]
def rowG (f : Nat -> Value) (m : Nat) : List Value := (List.range m).map f
theorem rowG_length (f : Nat -> Value) (m : Nat) : (rowG f m).length = m := by simp [rowG]
theorem rowG_at (f : Nat -> Value) (m j : Nat) (h : j < m) : (rowG f m)[j]? = some (f j) := by simp [rowG, h]
theorem rowG_congr {f g : Nat -> Value} {m : Nat} (h : ∀ j, j < m -> f j = g j) : rowG f m = rowG g m := by
 unfold rowG
 apply List.map_congr_left
 intro j hj
 exact h j (List.mem_range.1 hj)
theorem rowG_set (f : Nat -> Value) (m i : Nat) (v : Value) : (rowG f m).set i v = rowG (fun j => if j = i then v else f j) m := by
 apply List.ext_getElem?
 intro j
 by_cases hj : j < m
 ·rw [rowG_at _ _ _ hj]
  by_cases e : j = i
  ·subst e
   rw [List.getElem?_set_self (by rw [rowG_length]; exact hj), if_pos rfl]
  ·rw [List.getElem?_set_ne (by omega), rowG_at _ _ _ hj, if_neg e]
 ·rw [List.getElem?_eq_none (by rw [List.length_set, rowG_length]; omega), List.getElem?_eq_none (by rw [rowG_length]; omega)]
theorem rowG_append (f : Nat -> Value) (m n : Nat) : rowG f (m + n) = rowG f m ++ rowG (fun j => f (m + j)) n := by
 unfold rowG
 rw [List.range_add, List.map_append, List.map_map]
 rfl
theorem infoObj : (Tryz.prog.info? 86).map (fun i => (i.zero, i.size, i.bytes)) = some (some (.agg #[.string ⟨#[]⟩, .int .i64 0, .int .i64 0, .string ⟨#[]⟩]), 4, 48) := by kernel_rfl
def ocell (l : List Ob) (j : Nat) : Value :=
 if j % 4 = 0 then .string (l.getD (j / 4) onil).1 else if j % 4 = 1 then .int .i64 (l.getD (j / 4) onil).2.1 else if j % 4 = 2 then .int .i64 (l.getD (j / 4) onil).2.2.1 else .string (l.getD (j / 4) onil).2.2.2
theorem ocell0 (l : List Ob) (k : Nat) : ocell l (k * 4) = .string (l.getD k onil).1 := by
 unfold ocell; rw [if_pos (by omega), show k * 4 / 4 = k by omega]
theorem ocell1 (l : List Ob) (k : Nat) : ocell l (k * 4 + 1) = .int .i64 (l.getD k onil).2.1 := by
 unfold ocell; rw [if_neg (by omega), if_pos (by omega), show (k * 4 + 1) / 4 = k by omega]
theorem ocell2 (l : List Ob) (k : Nat) : ocell l (k * 4 + 2) = .int .i64 (l.getD k onil).2.2.1 := by
 unfold ocell; rw [if_neg (by omega), if_neg (by omega), if_pos (by omega), show (k * 4 + 2) / 4 = k by omega]
theorem ocell3 (l : List Ob) (k : Nat) : ocell l (k * 4 + 3) = .string (l.getD k onil).2.2.2 := by
 unfold ocell; rw [if_neg (by omega), if_neg (by omega), if_neg (by omega), show (k * 4 + 3) / 4 = k by omega]
def ocells (l : List Ob) : List Value := rowG (ocell l) (l.length * 4)
theorem ocells_length (l : List Ob) : (ocells l).length = l.length * 4 := rowG_length _ _
def OB (B : Nat) (w : World) (a : Option Addr) (l : List Ob) : Prop :=
 ∀ k, k < l.length -> ∃ g off, a = some ⟨g, off, none⟩ /\ g < B /\ w.cell? ⟨g, off + k * 4, none⟩ = some (.string (l.getD k onil).1) /\ w.cell? ⟨g, off + k * 4 + 1, none⟩ = some (.int .i64 (l.getD k onil).2.1) /\ w.cell? ⟨g, off + k * 4 + 2, none⟩ = some (.int .i64 (l.getD k onil).2.2.1) /\ w.cell? ⟨g, off + k * 4 + 3, none⟩ = some (.string (l.getD k onil).2.2.2)
theorem OB.fr {lo hi B : Nat} {w w' : World} {a : Option Addr} {l : List Ob} (h : OB B w a l) (hF : Fr lo hi w w') (hb : B <= lo \/ hi <= lo) : OB B w' a l := fun k hk => by
 obtain ⟨g, off, e, hg, d0, d1, d2, d3⟩ := h k hk
 have ho : g < lo \/ hi <= g := by omega
 exact ⟨g, off, e, hg, hF.cell d0 ho, hF.cell d1 ho, hF.cell d2 ho, hF.cell d3 ho⟩
theorem OB.below {B : Nat} {w w' : World} {a : Option Addr} {l : List Ob} (h : OB B w a l) (hb : Below w.heap.size w w') : OB B w' a l := h.fr (Fr.ofBelow (lo := 0) (hi := 0) hb) (.inr (Nat.le_refl _))
theorem OB.mono {B B' : Nat} {w : World} {a : Option Addr} {l : List Ob} (h : OB B w a l) (hb : B <= B') : OB B' w a l := fun k hk => by
 obtain ⟨g, off, e, hg, d⟩ := h k hk
 exact ⟨g, off, e, by omega, d⟩
theorem OB.of {w : World} {base c : Nat} {a : Option Addr} {l : List Ob} (h : w.ownsRow base 86 4 (.slice a l.length c) l.length (ocells l)) : OB w.heap.size w a l := by
 intro k hk
 rcases h.2 with ⟨h', h0⟩ | ⟨g, cap, cur, h', _, hh, _⟩
 ·omega
 ·simp only [Value.slice.injEq] at h'
  obtain ⟨rfl, _, rfl⟩ := h'
  have hc := h.cellAt
  refine ⟨g, 0, rfl, (Array.getElem?_eq_some_iff.1 hh).1, ?_, ?_, ?_, ?_⟩
  ·rw [Nat.zero_add, hc (k * 4) (by omega), ocells, rowG_at _ _ _ (by omega), ocell0]
  ·rw [Nat.zero_add, hc (k * 4 + 1) (by omega), ocells, rowG_at _ _ _ (by omega), ocell1]
  ·rw [Nat.zero_add, hc (k * 4 + 2) (by omega), ocells, rowG_at _ _ _ (by omega), ocell2]
  ·rw [Nat.zero_add, hc (k * 4 + 3) (by omega), ocells, rowG_at _ _ _ (by omega), ocell3]
def SmallO (l : List Ob) : Prop := ∀ o ∈ l, o.1.size <= 1048576 /\ o.2.2.2.size <= 1048576
def left1 (n : Int) (o : Ob) : Int := if n - o.1.size < 0 then -1 else if n - o.1.size - o.2.2.2.size < 0 then -1 else n - o.1.size - o.2.2.2.size
def leftOF : Int -> List Ob -> Int
 | n, [] => n
 | n, o :: t => if left1 n o < 0 then -1 else leftOF (left1 n o) t
def leftO (n : Int) (l : List Ob) : Int := if n - l.length < 0 then -1 else leftOF (n - l.length) l
theorem leftOF_stop {n : Int} {o : Ob} {t : List Ob} (h : left1 n o < 0) : leftOF n (o :: t) = -1 := by rw [leftOF, if_pos h]
theorem leftOF_go {n : Int} {o : Ob} {t : List Ob} (h : ¬ left1 n o < 0) : leftOF n (o :: t) = leftOF (left1 n o) t := by rw [leftOF, if_neg h]
def mixO (l : List Ob) (k j : Nat) : Value := if j < k * 4 then ocell l j else if j % 4 = 1 then .int .i64 0 else if j % 4 = 2 then .int .i64 0 else .string ⟨#[]⟩
theorem mixO_zero (l : List Ob) (m : Nat) : (madeCells (Value.agg #[.string ⟨#[]⟩, .int .i64 0, .int .i64 0, .string ⟨#[]⟩]).cells m).toList = rowG (mixO l 0) m := by
 apply List.ext_getElem?
 intro j
 by_cases hj : j < m
 ·rw [rowG_at _ _ _ hj]
  have h3 : j % 4 = 0 \/ j % 4 = 1 \/ j % 4 = 2 \/ j % 4 = 3 := by omega
  unfold mixO
  rw [if_neg (by omega)]
  rcases h3 with h | h | h | h <;> simp [madeCells, hj, Value.cells, h]
 ·have h0 : (rowG (mixO l 0) m)[j]? = none := List.getElem?_eq_none (by rw [rowG_length]; omega)
  rw [h0]
  simp [madeCells, hj]
theorem mixO_full (l : List Ob) : rowG (mixO l l.length) (l.length * 4) = ocells l := by
 apply rowG_congr
 intro j hj
 unfold mixO
 rw [if_pos hj]
end Go.Proofs.YtcfnkndbhpdfnaaGreatDoor.En
namespace Go.Proofs.YtcfnkndbhpdfnaaGreatDoor.En
open Go.ChangeShapes Go.WideShapes Go.ChangeAt Go.RowKit
theorem beqSelf (s : ByteArray) : (s.toList == s.toList) = true := beq_bytes_true rfl
set_option maxHeartbeats 1000000 in
theorem eqEntry (s t : ByteArray) (k k2 : Int) (w : World) :
  Calls Tryz.prog 60 #[.agg #[.string s, .int .i64 k, .int .i64 k2, .string t], .agg #[.string s, .int .i64 k, .int .i64 k2, .string t]] w fun e w' => e = .returned (.bool true) /\ Below w.heap.size w w' := by
 have hb := beqSelf s
 have hc := beqSelf t
 go_enter Tryz.func60, Tryz.ntmps60
 go_wp2
 go_ret
 exact ⟨rfl, ((Below.refl _ _).alloc (Nat.le_refl _) _).alloc (by simp) _⟩
set_option maxRecDepth 20000 in
set_option maxHeartbeats 2000000 in
theorem eqEntryS (a1 a2 : Option Addr) (c1 c2 : Nat) (l : List Ob) (w : World) (h1 : OB w.heap.size w a1 l) (h2 : OB w.heap.size w a2 l) (hn : l.length <= 1048576) :
  Calls Tryz.prog 31 #[.slice a1 l.length c1, .slice a2 l.length c2] w fun e w' => e = .returned (.bool true) /\ Below w.heap.size w w' := by
 have hl : ((l.length : Int) != (l.length : Int)) = false := by simp
 go_enter Tryz.func31, Tryz.ntmps31
 go_wp2
 go_loopw [5] (fun i wr => ∃ k : Nat, k <= l.length /\ i = .int .i64 k /\ Below w.heap.size w wr) (fun i _ => l.length - (intOf i).toNat)
 case atStart => exact ⟨0, Nat.zero_le _, rfl, Below.refl _ _⟩
 case round =>
  obtain ⟨k, hk, rfl, hbel⟩ := hrel
  have hsz := hbel.size
  by_cases hlt : k < l.length
  ·have q : (k : Int) < (l.length : Int) := by omega
   obtain ⟨g, off, e, _, d0, d1, d2, d3⟩ := h1.below hbel k hlt
   obtain ⟨g', off', e', _, f0, f1, f2, f3⟩ := h2.below hbel k hlt
   subst e e'
   obtain ⟨C, hCe⟩ : ∃ C, l.getD k onil = C := ⟨_, rfl⟩
   obtain ⟨x0, x1, y1, x2⟩ := C
   rw [hCe] at d0 d1 d2 d3 f0 f1 f2 f3
   simp only [] at d0 d1 d2 d3 f0 f1 f2 f3
   clear hCe h1 h2
   go_wp2
   go_region_with (go_at_call 60; refine (eqEntry x0 x2 x1 y1 _).mono ?_; rintro e w' ⟨rfl, b⟩)
   all_goals
    have b' : Below wr.heap.size wr w' := (below_drew (Below.refl wr.heap.size wr)).trans b
    have HB : Hid (Below w.heap.size w w') := below_step hbel hsz b'
    clear d0 d1 d2 d3 f0 f1 f2 f3 b b' hbel
    go_wp2
    go_roundw
    case rel => exact ⟨k + 1, by omega, by go_num, by first | exact HB.out | exact below_drew HB.out | exact below_drewN' HB.out _⟩
    case measure => first | (simp [intOf]; omega) | simp [intOf]
  ·have q : ¬ (k : Int) < (l.length : Int) := by omega
   go_wp2
   go_ret
   exact ⟨rfl, hbel⟩
end Go.Proofs.YtcfnkndbhpdfnaaGreatDoor.En
namespace Go.Proofs.YtcfnkndbhpdfnaaGreatDoor.En
open Go.ChangeShapes Go.WideShapes Go.ChangeAt Go.RowKit
def mkO (m n : Nat) : List Ob := (List.range n).map fun j => (mtxt (m + 4 * j), ((m + 4 * j + 1 : Nat) : Int), ((m + 4 * j + 2 : Nat) : Int), mtxt (m + 4 * j + 3))
theorem mkO_length (m n : Nat) : (mkO m n).length = n := by simp [mkO]
theorem mkO_at (m n k : Nat) (h : k < n) : (mkO m n).getD k onil = (mtxt (m + 4 * k), ((m + 4 * k + 1 : Nat) : Int), ((m + 4 * k + 2 : Nat) : Int), mtxt (m + 4 * k + 3)) := by simp [mkO, List.getD, h]
def mixP (l : List Ob) (xs : List Value) (k j : Nat) : Value := if j < k * 4 then ocell l j else xs.getD j (.int .i64 0)
theorem mixP_zero (l : List Ob) (xs : List Value) : rowG (mixP l xs 0) xs.length = xs := by
 apply List.ext_getElem?
 intro j
 by_cases hj : j < xs.length
 ·rw [rowG_at _ _ _ hj]
  unfold mixP
  rw [if_neg (by omega)]
  simp [List.getD, hj]
 ·rw [List.getElem?_eq_none (by rw [rowG_length]; omega), List.getElem?_eq_none (by omega)]
theorem mixP_set (l : List Ob) (xs : List Value) (k m : Nat) :
  ((((rowG (mixP l xs k) m).set (k * 4) (.string (l.getD k onil).1)).set (k * 4 + 1) (.int .i64 (l.getD k onil).2.1)).set (k * 4 + 2) (.int .i64 (l.getD k onil).2.2.1)).set (k * 4 + 3) (.string (l.getD k onil).2.2.2) = rowG (mixP l xs (k + 1)) m := by
 rw [rowG_set, rowG_set, rowG_set, rowG_set]
 apply rowG_congr
 intro j _
 by_cases e3 : j = k * 4 + 3
 ·rw [if_pos e3]; unfold mixP; rw [if_pos (by omega), e3, ocell3]
 ·rw [if_neg e3]
  by_cases e2 : j = k * 4 + 2
  ·rw [if_pos e2]; unfold mixP; rw [if_pos (by omega), e2, ocell2]
  ·rw [if_neg e2]
   by_cases e1 : j = k * 4 + 1
   ·rw [if_pos e1]; unfold mixP; rw [if_pos (by omega), e1, ocell1]
   ·rw [if_neg e1]
    by_cases e0 : j = k * 4
    ·rw [if_pos e0]; unfold mixP; rw [if_pos (by omega), e0, ocell0]
    ·rw [if_neg e0]
     unfold mixP
     by_cases h : j < k * 4
     ·rw [if_pos h, if_pos (by omega)]
     ·have h1 : ¬ j < (k + 1) * 4 := by omega
      rw [if_neg h, if_neg h1]
theorem mixP_full (l : List Ob) (xs : List Value) : rowG (mixP l xs l.length) (l.length * 4) = ocells l := by
 apply rowG_congr
 intro j hj
 unfold mixP
 rw [if_pos hj]
set_option maxRecDepth 20000 in
set_option maxHeartbeats 2000000 in
theorem markEntryS (base : Nat) (a : Option Addr) (n cap m : Nat) (xs : List Value) (w : World) (h1 : 1 <= m) (h2 : m + 4 * n <= 8388608)
  (ho : w.ownsRow base 86 4 (.slice a n cap) n xs) :
  Calls Tryz.prog 35 #[.slice a n cap, .int .i64 m] w fun e w' => e = .returned (.int .i64 ((m + 4 * n : Nat) : Int)) /\
   w'.ownsRow base 86 4 (.slice a n cap) n (ocells (mkO m n)) /\ w.grownBy w' (Value.slice a n cap).ownBlock := by
 have hxl : xs.length = n * 4 := ho.1
 have hst := fun k => mixP_set (mkO m n) xs k (n * 4)
 have hz := mixP_zero (mkO m n) xs
 have hfull := mixP_full (mkO m n) xs
 rw [mkO_length] at hfull
 rw [hxl] at hz
 have hat := fun k h => mkO_at m n k h
 obtain ⟨L, hL⟩ : ∃ L, mkO m n = L := ⟨_, rfl⟩
 rw [hL] at hst hz hfull hat ⊢
 clear hL
 go_enter Tryz.func35, Tryz.ntmps35
 go_wp2
 go_loopw [1, 5] (fun t i wr => ∃ k : Nat, k <= n /\ i = .int .i64 k /\ t = .int .i64 ((m + 4 * k : Nat) : Int) /\ wr.ownsRow base 86 4 (.slice a n cap) n (rowG (mixP L xs k) (n * 4)) /\ w.grownBy wr (Value.slice a n cap).ownBlock) (fun _ i _ => n - (intOf i).toNat)
 case atStart => exact ⟨0, Nat.zero_le _, rfl, rfl, by rw [hz]; exact ho, World.grownBy.refl _ _⟩
 case round =>
  obtain ⟨k, hk, rfl, rfl, hor, hgr⟩ := hrel
  by_cases hlt : k < n
  ·have q : (k : Int) < (n : Int) := by omega
   obtain ⟨g, rfl⟩ : ∃ g, a = some ⟨g, 0, none⟩ := by
    rcases hor.2 with ⟨h', h0⟩ | ⟨g, c, cur, h', _⟩
    ·omega
    ·simp only [Value.slice.injEq] at h'; exact ⟨g, h'.1⟩
   have hM0 := fun w => markText (m + 4 * k) (by omega) (by omega) w
   have hM2 := fun w => markText (m + 4 * k + 3) (by omega) (by omega) w
   have hs3 := hst k
   rw [hat k hlt] at hs3
   simp only [] at hs3
   obtain ⟨t0, ht0⟩ : ∃ t, mtxt (m + 4 * k) = t := ⟨_, rfl⟩
   obtain ⟨t2, ht2⟩ : ∃ t, mtxt (m + 4 * k + 3) = t := ⟨_, rfl⟩
   obtain ⟨M, hMe⟩ : ∃ M, m + 4 * k = M := ⟨_, rfl⟩
   rw [hMe] at hM0 hM2 ht0 ht2 hs3 ⊢
   rw [ht0] at hM0 hs3
   rw [ht2] at hM2 hs3
   have hMb : M + 4 <= 8388608 := by omega
   have HMe : Hid (m + 4 * (k + 1) = M + 4) := by show _ = _; omega
   have cc1 : ((M + 1 : Nat) : Int) = (M : Int) + 1 := by omega
   have cc2 : ((M + 2 : Nat) : Int) = (M : Int) + 1 + 1 := by omega
   rw [cc1, cc2] at hs3
   have HS3 : Hid (_ = _) := hs3
   clear ht0 ht2 hMe hst hat hs3 cc1 cc2
   have own1 : ∀ {w w' : World} {xs : List Value}, w.ownsRow base 86 4 (.slice (some ⟨g, 0, none⟩) n cap) n xs -> Below w.heap.size w w' -> w'.ownsRow base 86 4 (.slice (some ⟨g, 0, none⟩) n cap) n xs := fun h b => h.kept (grownOfBelow b none) (blockCases _ _ fun b c1 c2 => by cases c2)
   have hcell : ∀ {w : World} {xs : List Value}, w.ownsRow base 86 4 (.slice (some ⟨g, 0, none⟩) n cap) n xs -> ∀ j, j < 4 -> ∃ u, w.cell? ⟨g, k * 4 + j, none⟩ = some u := fun h j hj => by
    have hl := h.1
    rw [h.cellAt (k * 4 + j) (by omega), List.getElem?_eq_getElem (by omega)]; exact ⟨_, rfl⟩
   have own1H : Hid (∀ {w w' : World} {xs : List Value}, w.ownsRow base 86 4 (.slice (some ⟨g, 0, none⟩) n cap) n xs -> Below w.heap.size w w' -> w'.ownsRow base 86 4 (.slice (some ⟨g, 0, none⟩) n cap) n xs) := own1
   have hcellH : Hid (∀ {w : World} {xs : List Value}, w.ownsRow base 86 4 (.slice (some ⟨g, 0, none⟩) n cap) n xs -> ∀ j, j < 4 -> ∃ u, w.cell? ⟨g, k * 4 + j, none⟩ = some u) := hcell
   clear own1 hcell
   go_wp2_with fail
   refine (hM0 _).mono ?_; rintro e w1 ⟨rfl, b1⟩
   have o1 := own1H.out hor b1
   obtain ⟨u0, e0⟩ := hcellH.out o1 0 (by omega)
   rw [Nat.add_zero] at e0
   have f0 := o1.frozenAt (k * 4)
   have s0 := o1.stored (k * 4) (.string t0)
   have g0 := grownTrans (grownTrans hgr (grownOfBelow b1 _)) s0.2
   obtain ⟨u1, e1⟩ := hcellH.out s0.1 1 (by omega)
   have f1 := s0.1.frozenAt (k * 4 + 1)
   have s1 := s0.1.stored (k * 4 + 1) (.int .i64 ((M : Int) + 1))
   have g1 := grownTrans g0 s1.2
   obtain ⟨v1, r1⟩ := hcellH.out s1.1 2 (by omega)
   have p1 := s1.1.frozenAt (k * 4 + 2)
   have q1 := s1.1.stored (k * 4 + 2) (.int .i64 ((M : Int) + 1 + 1))
   have g11 := grownTrans g1 q1.2
   have S1 : Hid (World.ownsRow _ _ _ _ _ _ _) := q1.1
   have G1 : Hid (World.grownBy _ _ _) := g11
   clear hM0 hor hgr b1 o1 s0 g0 s1 g1 q1 g11
   go_wp2_with fail
   refine (hM2 _).mono ?_; rintro e w2 ⟨rfl, b2⟩
   have o2 := own1H.out S1.out b2
   obtain ⟨u2, e2⟩ := hcellH.out o2 3 (by omega)
   have f2 := o2.frozenAt (k * 4 + 3)
   have s2 := o2.stored (k * 4 + 3) (.string t2)
   have g2 := grownTrans (grownTrans G1.out (grownOfBelow b2 _)) s2.2
   have o3 := s2.1
   rw [HS3.out] at o3
   have S3 : Hid (World.ownsRow _ _ _ _ _ _ _) := o3
   have G3 : Hid (World.grownBy _ _ _) := g2
   clear hM2 S1 G1 b2 o2 s2 g2 o3 e0 f0 e1 f1 r1 p1 own1H hcellH
   go_wp2
   go_roundw
   case rel => exact ⟨k + 1, by omega, by go_num, by rw [HMe.out]; go_num, S3.out, G3.out⟩
   case measure => first | (simp [intOf]; omega) | simp [intOf]
  ·have q : ¬ (k : Int) < (n : Int) := by omega
   obtain rfl : k = n := by omega
   rw [hfull] at hor
   clear hst hz hfull hat
   go_wp2
   go_ret
   exact ⟨rfl, hor, hgr⟩
end Go.Proofs.YtcfnkndbhpdfnaaGreatDoor.En
namespace Go.Proofs.YtcfnkndbhpdfnaaGreatDoor.En
open Go.ChangeShapes Go.WideShapes Go.ChangeAt Go.RowKit
set_option maxRecDepth 20000 in
set_option maxHeartbeats 4000000 in
theorem heldEntryS (a : Option Addr) (n cap m : Nat) (w : World) (h1 : 1 <= m) (h2 : m + 4 * n <= 8388608) (hs : OB w.heap.size w a (mkO m n)) :
  Calls Tryz.prog 38 #[.slice a n cap, .int .i64 m] w fun e w' => e = .returned (.int .i64 ((m + 4 * n : Nat) : Int)) /\ Below w.heap.size w w' := by
 go_enter Tryz.func38, Tryz.ntmps38
 go_wp2
 go_loopw [1, 5] (fun t i wr => ∃ k : Nat, k <= n /\ i = .int .i64 k /\ t = .int .i64 ((m + 4 * k : Nat) : Int) /\ Below w.heap.size w wr) (fun _ i _ => n - (intOf i).toNat)
 case atStart => exact ⟨0, Nat.zero_le _, rfl, rfl, Below.refl _ _⟩
 case round =>
  obtain ⟨k, hk, rfl, rfl, hbr⟩ := hrel
  have hsz := hbr.size
  by_cases hlt : k < n
  ·have q : (k : Int) < (n : Int) := by omega
   obtain ⟨g, off, e, hg, d0, d1, d2, d3⟩ := hs.below hbr k (by rw [mkO_length]; exact hlt)
   subst e
   rw [mkO_at m n k hlt] at d0 d1 d2 d3
   simp only [] at d0 d1 d2 d3
   have hM0 := fun w => markText (m + 4 * k) (by omega) (by omega) w
   have hM2 := fun w => markText (m + 4 * k + 3) (by omega) (by omega) w
   obtain ⟨t0, ht0⟩ : ∃ t, mtxt (m + 4 * k) = t := ⟨_, rfl⟩
   obtain ⟨t2, ht2⟩ : ∃ t, mtxt (m + 4 * k + 3) = t := ⟨_, rfl⟩
   obtain ⟨M, hMe⟩ : ∃ M, m + 4 * k = M := ⟨_, rfl⟩
   rw [hMe] at hM0 hM2 ht0 ht2 d0 d1 d2 d3 ⊢
   rw [ht0] at hM0 d0
   rw [ht2] at hM2 d3
   have HMe : Hid (m + 4 * (k + 1) = M + 4) := by show _ = _; omega
   have hMb : M + 4 <= 8388608 := by omega
   obtain ⟨V, hV⟩ : ∃ V : Int, (M : Int) = V := ⟨_, rfl⟩
   have HV : Hid ((M : Int) = V) := hV
   have hV1 : ((M + 1 : Nat) : Int) = V + 1 := by omega
   have hV2 : ((M + 2 : Nat) : Int) = V + 1 + 1 := by omega
   have hV3 : ((M + 3 : Nat) : Int) = V + 1 + 1 + 1 := by omega
   rw [hV] at hM0 ⊢
   rw [hV1] at d1
   rw [hV2] at d2
   rw [hV3] at hM2
   have hVp : 0 <= V := by omega
   have hVl : V < 16777216 := by omega
   have e0 := beq_bytes_true (rfl : t0 = t0)
   have e2 := beq_bytes_true (rfl : t2 = t2)
   have e1 : (V + 1 != V + 1) = false := by simp
   have e3 : (V + 1 + 1 != V + 1 + 1) = false := by simp
   have hgw : g < wr.heap.size := by omega
   have HB0 : Hid (Below w.heap.size w wr) := hbr
   clear ht0 ht2 hMe hV hV1 hV2 hV3 hs hbr
   go_wp2
   go_region_with (go_at_call 34; refine (hM0 _).mono ?_; rintro e w1 ⟨rfl, b1⟩; have x0 := (b1.cell (p := ⟨g, off + k * 4, none⟩) hgw).trans d0; have x1 := (b1.cell (p := ⟨g, off + k * 4 + 1, none⟩) hgw).trans d1; have x2 := (b1.cell (p := ⟨g, off + k * 4 + 2, none⟩) hgw).trans d2; have x3 := (b1.cell (p := ⟨g, off + k * 4 + 3, none⟩) hgw).trans d3; have s1 := b1.size; have HB1 : Hid (Below w.heap.size w w1) := HB0.out.drew.trans (b1.mono HB0.out.size))
   all_goals
    have hgw1 : g < w1.heap.size := Nat.lt_of_lt_of_le hgw s1
    clear d0 d1 d2 d3 b1 hM0 s1
    go_wp2
    go_region_with (go_at_call 34; refine (hM2 _).mono ?_; rintro e w2 ⟨rfl, b2⟩; have y3 := (b2.cell (p := ⟨g, off + k * 4 + 3, none⟩) hgw1).trans x3; have HB2 : Hid (Below w.heap.size w w2) := HB1.out.drew.trans (b2.mono HB1.out.size))
    all_goals
     clear x0 x1 x2 x3 b2 hM2
     go_wp2
     go_roundw
     case rel => exact ⟨k + 1, by omega, by first | rfl | go_num, by rw [HMe.out]; have := HV.out; first | go_num | (congr 1; omega), HB2.out⟩
     case measure => first | (simp [intOf]; omega) | simp [intOf]
  ·have e : k = n := by omega
   subst e
   go_wp2
   go_ret
   exact ⟨rfl, hbr⟩
theorem obMk {w : World} {base n c m : Nat} {a : Option Addr} (h : w.ownsRow base 86 4 (.slice a n c) n (ocells (mkO m n))) : OB w.heap.size w a (mkO m n) :=
 OB.of (c := c) (base := base) (by rw [mkO_length]; exact h)
end Go.Proofs.YtcfnkndbhpdfnaaGreatDoor.En
