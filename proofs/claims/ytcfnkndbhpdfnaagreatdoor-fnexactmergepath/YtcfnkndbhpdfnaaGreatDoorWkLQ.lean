/- Rows of works in memory: their cells, who owns them, and what is left of a size. No statement is proved here. -/
import Derived.Test.YtcfnkndbhpdfnaaGreatDoorDTabQ
import Derived.Deep.RegionWith
namespace Go.Proofs.YtcfnkndbhpdfnaaGreatDoor.Wk
open Go.ChangeShapes Go.WideShapes Go.ChangeAt Go.RowKit
abbrev Ob := ByteArray × ByteArray
def onil : Ob := (ByteArray.empty, ByteArray.empty)
theorem ob_drop (l : List Ob) (k : Nat) (h : k < l.length) : l.drop k = l.getD k onil :: l.drop (k + 1) := by
 rw [List.drop_eq_getElem_cons h]; simp [List.getD, h]
theorem ob_take (l : List Ob) (k : Nat) (h : k < l.length) : l.take (k + 1) = l.take k ++ [l.getD k onil] := by
 rw [List.take_succ_eq_append_getElem h]; simp [List.getD, h]
def rowG (f : Nat -> Value) (m : Nat) : List Value := (List.range m).map f
theorem rowG_length (f : Nat -> Value) (m : Nat) : (rowG f m).length = m := by simp [rowG]
theorem rowG_at (f : Nat -> Value) (m j : Nat) (h : j < m) : (rowG f m)[j]? = some (f j) := by simp [rowG, h]
theorem rowG_congr {f g : Nat -> Value} {m : Nat} (h : ∀ j, j < m -> f j = g j) : rowG f m = rowG g m := by
 unfold rowG
 apply List.map_congr_left
 intro j hj
 exact h j (List.mem_range.1 hj)
theorem rowG_set (f : Nat -> Value) (m i : Nat) (v : Value) : (rowG f m).set i v = rowG (fun j => if j = i then v else f j) m := by
 apply List.ext_getElem?
 intro j
 by_cases hj : j < m
 ·rw [rowG_at _ _ _ hj]
  by_cases e : j = i
  ·subst e
   rw [List.getElem?_set_self (by rw [rowG_length]; exact hj), if_pos rfl]
  ·rw [List.getElem?_set_ne (by omega), rowG_at _ _ _ hj, if_neg e]
 ·rw [List.getElem?_eq_none (by rw [List.length_set, rowG_length]; omega), List.getElem?_eq_none (by rw [rowG_length]; omega)]
theorem rowG_append (f : Nat -> Value) (m n : Nat) : rowG f (m + n) = rowG f m ++ rowG (fun j => f (m + j)) n := by
 unfold rowG
 rw [List.range_add, List.map_append, List.map_map]
 rfl
theorem infoObj : (Tryz.prog.info? 83).map (fun i => (i.zero, i.size, i.bytes)) = some (some (.agg #[.string ⟨#[]⟩, .string ⟨#[]⟩]), 2, 32) := by kernel_rfl
def ocell (l : List Ob) (j : Nat) : Value :=
 if j % 2 = 0 then .string (l.getD (j / 2) onil).1 else .string (l.getD (j / 2) onil).2
theorem ocell0 (l : List Ob) (k : Nat) : ocell l (k * 2) = .string (l.getD k onil).1 := by
 unfold ocell; rw [if_pos (by omega), show k * 2 / 2 = k by omega]
theorem ocell1 (l : List Ob) (k : Nat) : ocell l (k * 2 + 1) = .string (l.getD k onil).2 := by
 unfold ocell; rw [if_neg (by omega), show (k * 2 + 1) / 2 = k by omega]
def ocells (l : List Ob) : List Value := rowG (ocell l) (l.length * 2)
theorem ocells_length (l : List Ob) : (ocells l).length = l.length * 2 := rowG_length _ _
def OB (B : Nat) (w : World) (a : Option Addr) (l : List Ob) : Prop :=
 ∀ k, k < l.length -> ∃ g off, a = some ⟨g, off, none⟩ /\ g < B /\ w.cell? ⟨g, off + k * 2, none⟩ = some (.string (l.getD k onil).1) /\ w.cell? ⟨g, off + k * 2 + 1, none⟩ = some (.string (l.getD k onil).2)
theorem OB.fr {lo hi B : Nat} {w w' : World} {a : Option Addr} {l : List Ob} (h : OB B w a l) (hF : Fr lo hi w w') (hb : B <= lo \/ hi <= lo) : OB B w' a l := fun k hk => by
 obtain ⟨g, off, e, hg, d0, d1⟩ := h k hk
 have ho : g < lo \/ hi <= g := by omega
 exact ⟨g, off, e, hg, hF.cell d0 ho, hF.cell d1 ho⟩
theorem OB.below {B : Nat} {w w' : World} {a : Option Addr} {l : List Ob} (h : OB B w a l) (hb : Below w.heap.size w w') : OB B w' a l := h.fr (Fr.ofBelow (lo := 0) (hi := 0) hb) (.inr (Nat.le_refl _))
theorem OB.mono {B B' : Nat} {w : World} {a : Option Addr} {l : List Ob} (h : OB B w a l) (hb : B <= B') : OB B' w a l := fun k hk => by
 obtain ⟨g, off, e, hg, d⟩ := h k hk
 exact ⟨g, off, e, by omega, d⟩
theorem OB.of {w : World} {base c : Nat} {a : Option Addr} {l : List Ob} (h : w.ownsRow base 83 2 (.slice a l.length c) l.length (ocells l)) : OB w.heap.size w a l := by
 intro k hk
 rcases h.2 with ⟨h', h0⟩ | ⟨g, cap, cur, h', _, hh, _⟩
 ·omega
 ·simp only [Value.slice.injEq] at h'
  obtain ⟨rfl, _, rfl⟩ := h'
  have hc := h.cellAt
  refine ⟨g, 0, rfl, (Array.getElem?_eq_some_iff.1 hh).1, ?_, ?_⟩
  ·rw [Nat.zero_add, hc (k * 2) (by omega), ocells, rowG_at _ _ _ (by omega), ocell0]
  ·rw [Nat.zero_add, hc (k * 2 + 1) (by omega), ocells, rowG_at _ _ _ (by omega), ocell1]
def left1 (n : Int) (o : Ob) : Int := if n - o.1.size < 0 then -1 else if n - o.1.size - o.2.size < 0 then -1 else n - o.1.size - o.2.size
def leftOF : Int -> List Ob -> Int
 | n, [] => n
 | n, o :: t => if left1 n o < 0 then -1 else leftOF (left1 n o) t
def leftO (n : Int) (l : List Ob) : Int := if n - l.length < 0 then -1 else leftOF (n - l.length) l
theorem leftOF_stop {n : Int} {o : Ob} {t : List Ob} (h : left1 n o < 0) : leftOF n (o :: t) = -1 := by rw [leftOF, if_pos h]
theorem leftOF_go {n : Int} {o : Ob} {t : List Ob} (h : ¬ left1 n o < 0) : leftOF n (o :: t) = leftOF (left1 n o) t := by rw [leftOF, if_neg h]
def mixO (l : List Ob) (k j : Nat) : Value := if j < k * 2 then ocell l j else .string ⟨#[]⟩
theorem mixO_zero (l : List Ob) (m : Nat) : (madeCells (Value.agg #[.string ⟨#[]⟩, .string ⟨#[]⟩]).cells m).toList = rowG (mixO l 0) m := by
 apply List.ext_getElem?
 intro j
 by_cases hj : j < m
 ·rw [rowG_at _ _ _ hj]
  have h3 : j % 2 = 0 \/ j % 2 = 1 := by omega
  unfold mixO
  rw [if_neg (by omega)]
  rcases h3 with h | h <;> simp [madeCells, hj, Value.cells, h]
 ·have h0 : (rowG (mixO l 0) m)[j]? = none := List.getElem?_eq_none (by rw [rowG_length]; omega)
  rw [h0]
  simp [madeCells, hj]
theorem mixO_full (l : List Ob) : rowG (mixO l l.length) (l.length * 2) = ocells l := by
 apply rowG_congr
 intro j hj
 unfold mixO
 rw [if_pos hj]
end Go.Proofs.YtcfnkndbhpdfnaaGreatDoor.Wk
namespace Go.Proofs.YtcfnkndbhpdfnaaGreatDoor.Wk
open Go.ChangeShapes Go.WideShapes Go.ChangeAt Go.RowKit
def mkO (m n : Nat) : List Ob := (List.range n).map fun j => (mtxt (m + 2 * j), mtxt (m + 2 * j + 1))
theorem mkO_length (m n : Nat) : (mkO m n).length = n := by simp [mkO]
theorem mkO_at (m n k : Nat) (h : k < n) : (mkO m n).getD k onil = (mtxt (m + 2 * k), mtxt (m + 2 * k + 1)) := by simp [mkO, List.getD, h]
def mixP (l : List Ob) (xs : List Value) (k j : Nat) : Value := if j < k * 2 then ocell l j else xs.getD j (.int .i64 0)
theorem mixP_zero (l : List Ob) (xs : List Value) : rowG (mixP l xs 0) xs.length = xs := by
 apply List.ext_getElem?
 intro j
 by_cases hj : j < xs.length
 ·rw [rowG_at _ _ _ hj]
  unfold mixP
  rw [if_neg (by omega)]
  simp [List.getD, hj]
 ·rw [List.getElem?_eq_none (by rw [rowG_length]; omega), List.getElem?_eq_none (by omega)]
theorem mixP_set (l : List Ob) (xs : List Value) (k m : Nat) :
  ((rowG (mixP l xs k) m).set (k * 2) (.string (l.getD k onil).1)).set (k * 2 + 1) (.string (l.getD k onil).2) = rowG (mixP l xs (k + 1)) m := by
 rw [rowG_set, rowG_set]
 apply rowG_congr
 intro j _
 by_cases e1 : j = k * 2 + 1
 ·rw [if_pos e1]; unfold mixP; rw [if_pos (by omega), e1, ocell1]
 ·rw [if_neg e1]
  by_cases e0 : j = k * 2
  ·rw [if_pos e0]; unfold mixP; rw [if_pos (by omega), e0, ocell0]
  ·rw [if_neg e0]
   unfold mixP
   by_cases h : j < k * 2
   ·rw [if_pos h, if_pos (by omega)]
   ·have h1 : ¬ j < (k + 1) * 2 := by omega
    rw [if_neg h, if_neg h1]
theorem mixP_full (l : List Ob) (xs : List Value) : rowG (mixP l xs l.length) (l.length * 2) = ocells l := by
 apply rowG_congr
 intro j hj
 unfold mixP
 rw [if_pos hj]
set_option maxRecDepth 20000 in
set_option maxHeartbeats 2000000 in
theorem markWorkS (base : Nat) (a : Option Addr) (n cap m : Nat) (xs : List Value) (w : World) (h1 : 1 <= m) (h2 : m + 2 * n <= 8388608)
  (ho : w.ownsRow base 83 2 (.slice a n cap) n xs) :
  Calls Tryz.prog 36 #[.slice a n cap, .int .i64 m] w fun e w' => e = .returned (.int .i64 ((m + 2 * n : Nat) : Int)) /\
   w'.ownsRow base 83 2 (.slice a n cap) n (ocells (mkO m n)) /\ w.grownBy w' (Value.slice a n cap).ownBlock := by
 have hxl : xs.length = n * 2 := ho.1
 have hst := fun k => mixP_set (mkO m n) xs k (n * 2)
 have hz := mixP_zero (mkO m n) xs
 have hfull := mixP_full (mkO m n) xs
 rw [mkO_length] at hfull
 rw [hxl] at hz
 have hat := fun k h => mkO_at m n k h
 obtain ⟨L, hL⟩ : ∃ L, mkO m n = L := ⟨_, rfl⟩
 rw [hL] at hst hz hfull hat ⊢
 clear hL
 go_enter Tryz.func36, Tryz.ntmps36
 go_wp2
 go_loopw [1, 5] (fun t i wr => ∃ k : Nat, k <= n /\ i = .int .i64 k /\ t = .int .i64 ((m + 2 * k : Nat) : Int) /\ wr.ownsRow base 83 2 (.slice a n cap) n (rowG (mixP L xs k) (n * 2)) /\ w.grownBy wr (Value.slice a n cap).ownBlock) (fun _ i _ => n - (intOf i).toNat)
 case atStart => exact ⟨0, Nat.zero_le _, rfl, rfl, by rw [hz]; exact ho, World.grownBy.refl _ _⟩
 case round =>
  obtain ⟨k, hk, rfl, rfl, hor, hgr⟩ := hrel
  by_cases hlt : k < n
  ·have q : (k : Int) < (n : Int) := by omega
   obtain ⟨g, rfl⟩ : ∃ g, a = some ⟨g, 0, none⟩ := by
    rcases hor.2 with ⟨h', h0⟩ | ⟨g, c, cur, h', _⟩
    ·omega
    ·simp only [Value.slice.injEq] at h'; exact ⟨g, h'.1⟩
   have hM0 := fun w => markText (m + 2 * k) (by omega) (by omega) w
   have hM2 := fun w => markText (m + 2 * k + 1) (by omega) (by omega) w
   have hs3 := hst k
   rw [hat k hlt] at hs3
   simp only [] at hs3
   obtain ⟨t0, ht0⟩ : ∃ t, mtxt (m + 2 * k) = t := ⟨_, rfl⟩
   obtain ⟨t2, ht2⟩ : ∃ t, mtxt (m + 2 * k + 1) = t := ⟨_, rfl⟩
   obtain ⟨M, hMe⟩ : ∃ M, m + 2 * k = M := ⟨_, rfl⟩
   rw [hMe] at hM0 hM2 ht0 ht2 hs3 ⊢
   rw [ht0] at hM0 hs3
   rw [ht2] at hM2 hs3
   have hMb : M + 1 <= 8388608 := by omega
   have HMe : Hid (m + 2 * (k + 1) = M + 2) := by show _ = _; omega
   have HS3 : Hid (_ = _) := hs3
   clear ht0 ht2 hMe hst hat hs3
   have own1 : ∀ {w w' : World} {xs : List Value}, w.ownsRow base 83 2 (.slice (some ⟨g, 0, none⟩) n cap) n xs -> Below w.heap.size w w' -> w'.ownsRow base 83 2 (.slice (some ⟨g, 0, none⟩) n cap) n xs := fun h b => h.kept (grownOfBelow b none) (blockCases _ _ fun b c1 c2 => by cases c2)
   have hcell : ∀ {w : World} {xs : List Value}, w.ownsRow base 83 2 (.slice (some ⟨g, 0, none⟩) n cap) n xs -> ∀ j, j < 2 -> ∃ u, w.cell? ⟨g, k * 2 + j, none⟩ = some u := fun h j hj => by
    have hl := h.1
    rw [h.cellAt (k * 2 + j) (by omega), List.getElem?_eq_getElem (by omega)]; exact ⟨_, rfl⟩
   have own1H : Hid (∀ {w w' : World} {xs : List Value}, w.ownsRow base 83 2 (.slice (some ⟨g, 0, none⟩) n cap) n xs -> Below w.heap.size w w' -> w'.ownsRow base 83 2 (.slice (some ⟨g, 0, none⟩) n cap) n xs) := own1
   have hcellH : Hid (∀ {w : World} {xs : List Value}, w.ownsRow base 83 2 (.slice (some ⟨g, 0, none⟩) n cap) n xs -> ∀ j, j < 2 -> ∃ u, w.cell? ⟨g, k * 2 + j, none⟩ = some u) := hcell
   clear own1 hcell
   go_wp2_with fail
   refine (hM0 _).mono ?_; rintro e w1 ⟨rfl, b1⟩
   have o1 := own1H.out hor b1
   obtain ⟨u0, e0⟩ := hcellH.out o1 0 (by omega)
   rw [Nat.add_zero] at e0
   have f0 := o1.frozenAt (k * 2)
   have s0 := o1.stored (k * 2) (.string t0)
   have g0 := grownTrans (grownTrans hgr (grownOfBelow b1 _)) s0.2
   have S1 : Hid (World.ownsRow _ _ _ _ _ _ _) := s0.1
   have G1 : Hid (World.grownBy _ _ _) := g0
   clear hM0 hor hgr b1 o1 s0 g0
   go_wp2_with fail
   refine (hM2 _).mono ?_; rintro e w2 ⟨rfl, b2⟩
   have o2 := own1H.out S1.out b2
   obtain ⟨u2, e2⟩ := hcellH.out o2 1 (by omega)
   have f2 := o2.frozenAt (k * 2 + 1)
   have s2 := o2.stored (k * 2 + 1) (.string t2)
   have g2 := grownTrans (grownTrans G1.out (grownOfBelow b2 _)) s2.2
   have o3 := s2.1
   rw [HS3.out] at o3
   have S3 : Hid (World.ownsRow _ _ _ _ _ _ _) := o3
   have G3 : Hid (World.grownBy _ _ _) := g2
   clear hM2 S1 G1 b2 o2 s2 g2 o3 e0 f0 own1H hcellH
   go_wp2
   go_roundw
   case rel => exact ⟨k + 1, by omega, by go_num, by rw [HMe.out]; go_num, S3.out, G3.out⟩
   case measure => first | (simp [intOf]; omega) | simp [intOf]
  ·have q : ¬ (k : Int) < (n : Int) := by omega
   obtain rfl : k = n := by omega
   rw [hfull] at hor
   clear hst hz hfull hat
   go_wp2
   go_ret
   exact ⟨rfl, hor, hgr⟩
end Go.Proofs.YtcfnkndbhpdfnaaGreatDoor.Wk
namespace Go.Proofs.YtcfnkndbhpdfnaaGreatDoor.Wk
open Go.ChangeShapes Go.WideShapes Go.ChangeAt Go.RowKit
theorem beqSelf (s : ByteArray) : (s.toList == s.toList) = true := beq_bytes_true rfl
set_option maxHeartbeats 1000000 in
theorem eqWork (s t : ByteArray) (w : World) :
  Calls Tryz.prog 61 #[.agg #[.string s, .string t], .agg #[.string s, .string t]] w fun e w' => e = .returned (.bool true) /\ Below w.heap.size w w' := by
 have hb := beqSelf s
 have hc := beqSelf t
 go_enter Tryz.func61, Tryz.ntmps61
 go_wp2
 go_ret
 exact ⟨rfl, ((Below.refl _ _).alloc (Nat.le_refl _) _).alloc (by simp) _⟩
set_option maxRecDepth 20000 in
set_option maxHeartbeats 2000000 in
theorem eqWorkS (a1 a2 : Option Addr) (c1 c2 : Nat) (l : List Ob) (w : World) (h1 : OB w.heap.size w a1 l) (h2 : OB w.heap.size w a2 l) (hn : l.length <= 1048576) :
  Calls Tryz.prog 32 #[.slice a1 l.length c1, .slice a2 l.length c2] w fun e w' => e = .returned (.bool true) /\ Below w.heap.size w w' := by
 have hl : ((l.length : Int) != (l.length : Int)) = false := by simp
 go_enter Tryz.func32, Tryz.ntmps32
 go_wp2
 go_loopw [5] (fun i wr => ∃ k : Nat, k <= l.length /\ i = .int .i64 k /\ Below w.heap.size w wr) (fun i _ => l.length - (intOf i).toNat)
 case atStart => exact ⟨0, Nat.zero_le _, rfl, Below.refl _ _⟩
 case round =>
  obtain ⟨k, hk, rfl, hbel⟩ := hrel
  have hsz := hbel.size
  by_cases hlt : k < l.length
  ·have q : (k : Int) < (l.length : Int) := by omega
   obtain ⟨g, off, e, _, d0, d1⟩ := h1.below hbel k hlt
   obtain ⟨g', off', e', _, f0, f1⟩ := h2.below hbel k hlt
   subst e e'
   obtain ⟨C, hCe⟩ : ∃ C, l.getD k onil = C := ⟨_, rfl⟩
   obtain ⟨x0, x1⟩ := C
   rw [hCe] at d0 d1 f0 f1
   simp only [] at d0 d1 f0 f1
   clear hCe h1 h2
   go_wp2
   go_region_with (go_at_call 61; refine (eqWork x0 x1 _).mono ?_; rintro e w' ⟨rfl, b⟩)
   all_goals
    have b' : Below wr.heap.size wr w' := (below_drew (Below.refl wr.heap.size wr)).trans b
    have HB : Hid (Below w.heap.size w w') := below_step hbel hsz b'
    clear d0 d1 f0 f1 b b' hbel
    go_wp2
    go_roundw
    case rel => exact ⟨k + 1, by omega, by go_num, by first | exact HB.out | exact below_drew HB.out | exact below_drewN' HB.out _⟩
    case measure => first | (simp [intOf]; omega) | simp [intOf]
  ·have q : ¬ (k : Int) < (l.length : Int) := by omega
   go_wp2
   go_ret
   exact ⟨rfl, hbel⟩
end Go.Proofs.YtcfnkndbhpdfnaaGreatDoor.Wk
namespace Go.Proofs.YtcfnkndbhpdfnaaGreatDoor.Wk
open Go.ChangeShapes Go.WideShapes Go.ChangeAt Go.RowKit
set_option maxRecDepth 20000 in
set_option maxHeartbeats 4000000 in
theorem heldWorkS (a : Option Addr) (n cap m : Nat) (w : World) (h1 : 1 <= m) (h2 : m + 2 * n <= 4194304) (hs : OB w.heap.size w a (mkO m n)) :
  Calls Tryz.prog 39 #[.slice a n cap, .int .i64 m] w fun e w' => e = .returned (.int .i64 ((m + 2 * n : Nat) : Int)) /\ Below w.heap.size w w' := by
 go_enter Tryz.func39, Tryz.ntmps39
 go_wp2
 go_loopw [1, 5] (fun t i wr => ∃ k : Nat, k <= n /\ i = .int .i64 k /\ t = .int .i64 ((m + 2 * k : Nat) : Int) /\ Below w.heap.size w wr) (fun _ i _ => n - (intOf i).toNat)
 case atStart => exact ⟨0, Nat.zero_le _, rfl, rfl, Below.refl _ _⟩
 case round =>
  obtain ⟨k, hk, rfl, rfl, hbr⟩ := hrel
  have hsz := hbr.size
  by_cases hlt : k < n
  ·have q : (k : Int) < (n : Int) := by omega
   obtain ⟨g, off, e, hg, d0, d2⟩ := hs.below hbr k (by rw [mkO_length]; exact hlt)
   subst e
   rw [mkO_at m n k hlt] at d0 d2
   simp only [] at d0 d2
   have hM0 := fun w => markText (m + 2 * k) (by omega) (by omega) w
   have hM2 := fun w => markText (m + 2 * k + 1) (by omega) (by omega) w
   obtain ⟨t0, ht0⟩ : ∃ t, mtxt (m + 2 * k) = t := ⟨_, rfl⟩
   obtain ⟨t2, ht2⟩ : ∃ t, mtxt (m + 2 * k + 1) = t := ⟨_, rfl⟩
   obtain ⟨M, hMe⟩ : ∃ M, m + 2 * k = M := ⟨_, rfl⟩
   rw [hMe] at hM0 hM2 ht0 ht2 d0 d2 ⊢
   rw [ht0] at hM0 d0
   rw [ht2] at hM2 d2
   have HMe : Hid (m + 2 * (k + 1) = M + 2) := by show _ = _; omega
   have hMb : M + 2 <= 4194304 := by omega
   obtain ⟨V, hV⟩ : ∃ V : Int, (M : Int) = V := ⟨_, rfl⟩
   have HV : Hid ((M : Int) = V) := hV
   have hV1 : ((M + 1 : Nat) : Int) = V + 1 := by omega
   rw [hV] at hM0 ⊢
   rw [hV1] at hM2
   have hVp : 0 <= V := by omega
   have hVl : V < 16777216 := by omega
   have e0 := beq_bytes_true (rfl : t0 = t0)
   have e2 := beq_bytes_true (rfl : t2 = t2)
   have hgw : g < wr.heap.size := by omega
   have HB0 : Hid (Below w.heap.size w wr) := hbr
   clear ht0 ht2 hMe hV hV1 hs hbr
   go_wp2
   go_region_with (go_at_call 34; refine (hM0 _).mono ?_; rintro e w1 ⟨rfl, b1⟩; have x0 := (b1.cell (p := ⟨g, off + k * 2, none⟩) hgw).trans d0; have x2 := (b1.cell (p := ⟨g, off + k * 2 + 1, none⟩) hgw).trans d2; have s1 := b1.size; have HB1 : Hid (Below w.heap.size w w1) := HB0.out.drew.trans (b1.mono HB0.out.size))
   all_goals
    have hgw1 : g < w1.heap.size := Nat.lt_of_lt_of_le hgw s1
    clear d0 d2 b1 hM0 s1
    go_wp2
    go_region_with (go_at_call 34; refine (hM2 _).mono ?_; rintro e w2 ⟨rfl, b2⟩; have y2 := (b2.cell (p := ⟨g, off + k * 2 + 1, none⟩) hgw1).trans x2; have HB2 : Hid (Below w.heap.size w w2) := HB1.out.drew.trans (b2.mono HB1.out.size))
    all_goals
     clear x0 x2 b2 hM2
     go_wp2
     go_roundw
     case rel => exact ⟨k + 1, by omega, by first | rfl | go_num, by rw [HMe.out]; have := HV.out; first | go_num | (congr 1; omega), HB2.out⟩
     case measure => first | (simp [intOf]; omega) | simp [intOf]
  ·have e : k = n := by omega
   subst e
   go_wp2
   go_ret
   exact ⟨rfl, hbr⟩
theorem obMk {w : World} {base n c m : Nat} {a : Option Addr} (h : w.ownsRow base 83 2 (.slice a n c) n (ocells (mkO m n))) : OB w.heap.size w a (mkO m n) :=
 OB.of (c := c) (base := base) (by rw [mkO_length]; exact h)
end Go.Proofs.YtcfnkndbhpdfnaaGreatDoor.Wk
namespace Go.Proofs.YtcfnkndbhpdfnaaGreatDoor
open Go.ChangeShapes Go.WideShapes Go.ChangeAt Go.RowKit
theorem empty_iff (s : ByteArray) : s.toList.isEmpty = decide (s.data.toList = []) := by
 rw [ByteArray.toList_eq]
 cases s.data.toList <;> simp
set_option maxHeartbeats 400000 in
theorem isLine (s : ByteArray) (last : Bool) (w : World) (hs : s.size <= 9223372036854775807) :
  Calls Tryz.prog 197 #[.string s, .bool last] w fun e w' => e = .returned (.bool (okLine s.data.toList last)) /\ w' = w := by
 have he := empty_iff s
 by_cases h0 : s.data.toList = []
 ·have h1 : s.toList.isEmpty = true := by rw [he]; exact decide_eq_true h0
  have H : Hid (okLine s.data.toList last = false) := by show okLine _ _ = false; unfold okLine; rw [if_pos h0]
  clear he h0
  go_enter Tryz.func197, Tryz.ntmps197
  go_wp2
  go_ret
  exact ⟨ret_bool H.out.symm, rfl⟩
 ·have h1 : s.toList.isEmpty = false := by rw [he]; exact decide_eq_false h0
  have hI := fun w => indexByte s 10 w
  obtain ⟨i, hi⟩ : ∃ i, i = Lib.indexByte s.data.toList 10 := ⟨_, rfl⟩
  have hge := Lib.indexByte_ge s.data.toList 10
  have e10 : (10 : Int).toNat.toUInt8 = 10 := rfl
  rw [e10, <- hi] at hI
  rw [<- hi] at hge
  have hsz : s.data.toList.length = s.size := by simp
  by_cases hneg : i < 0
  ·have H : Hid (okLine s.data.toList last = last) := by show okLine _ _ = _; unfold okLine; rw [if_neg h0, <- hi, if_pos hneg]
   clear he h0 hi e10 hsz
   go_enter Tryz.func197, Tryz.ntmps197
   go_wp2_with (go_at_call 114; refine (hI _).mono ?_; rintro e w' ⟨rfl, rfl⟩)
   go_ret
   exact ⟨ret_bool H.out.symm, rfl⟩
  ·have H : Hid (okLine s.data.toList last = decide (i = (s.size : Int) - 1)) := by show okLine _ _ = _; unfold okLine; rw [if_neg h0, <- hi, if_neg hneg, hsz]
   have hpos : 0 < s.size := by
    rw [<- hsz]
    cases h : s.data.toList with
    | nil => exact absurd h h0
    | cons => simp
   clear he h0 hi e10 hsz
   go_enter Tryz.func197, Tryz.ntmps197
   go_wp2_with (go_at_call 114; refine (hI _).mono ?_; rintro e w' ⟨rfl, rfl⟩)
   go_ret
   exact ⟨ret_bool (by rw [H.out]; rfl), rfl⟩
end Go.Proofs.YtcfnkndbhpdfnaaGreatDoor
