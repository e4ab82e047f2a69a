/- Copies of elements of more than one cell, and rows that are told by their cells. No statement is proved here. -/
import Derived.Test.YtgincoiehbdphaaGreatDoorSlBQ
import Derived.Laws.IdiomCopy
import Derived.Laws.BitsLemmas
import Derived.Lib.AppendZerosOnto
import Derived.Lib.Overlaps
import Derived.Laws.Externs
import Derived.Laws.NewBlocks
namespace Go.Proofs.YtgincoiehbdphaaGreatDoor.Cp
open Go.RowKit
theorem run_copy_K {P : Program} (w : World) (dT sT ty elem : TypeId) (K b o dLen dCap : Nat) (a : Addr) (sLen sCap : Nat) (cs : List Value)
  (hu : P.underlying dT = some (.slice elem)) (hs : (P.info? elem).map (·.size) = some K) (hn : cs.length = Nat.min sLen dLen * K)
  (hsrc : ∀ j v, cs[j]? = some v -> w.cell? (a.add j) = some v) (hc : ∀ j, j < cs.length -> (w.cell? ⟨b, o + j, none⟩).isSome = true) (hf : ∀ j, j < cs.length -> w.frozen? ⟨b, o + j, none⟩ = false) (h1 : ∀ v ∈ cs, v.oneCell' = true) :
  (Builtin.copy_ #[dT, sT] ty #[.slice (some ⟨b, o, none⟩) dLen dCap, .slice (some a) sLen sCap]).run P w = .ok (goInt (Nat.min sLen dLen)) (w.setCells b o cs) := by
 have hl := run_loadCells_list (P := P) w a cs hsrc
 have hst := run_storeCells_cells (P := P) b o cs 0 w (by simpa using hc) (by simpa using hf) h1
 cases hq : P.info? elem with
 | none => simp [hq] at hs
 | some i =>
  have hi : i.size = K := by simpa [hq] using hs
  simp [Builtin.copy_, run_underlying hu, Builtin.lenOf, Builtin.firstCells, sizeOf, typeInfo, hq, hi, <- hn, hl, hst]
theorem cells_set (b : Nat) (vs : List Value) (o : Nat) (w : World) (h : ∀ j, j < vs.length -> (w.cell? ⟨b, o + j, none⟩).isSome = true) (j : Nat) :
  (w.setCells b o vs).cell? ⟨b, j, none⟩ = if o <= j /\ j < o + vs.length then vs[j - o]? else w.cell? ⟨b, j, none⟩ := by
 by_cases q : o <= j /\ j < o + vs.length
 ·rw [if_pos q]
  have := World.cell?_setCells_in b vs o w h (j - o) (by omega)
  rw [show o + (j - o) = j by omega] at this
  rw [this, List.getElem?_eq_getElem (by omega)]
 ·rw [if_neg q]
  exact World.cell?_setCells_out b vs o w ⟨b, j, none⟩ (fun _ _ => by show j < o \/ o + vs.length <= j; omega)
theorem setCells_blk (b : Nat) (t : TypeId) : ∀ (vs : List Value) (o : Nat) (w : World) (cur : Array Value), w.heap[b]? = some (.cells cur t (0, 0)) -> ∃ cur' : Array Value, (w.setCells b o vs).heap[b]? = some (.cells cur' t (0, 0)) /\ cur'.size = cur.size
 | [], _, w, cur, h => ⟨cur, h, rfl⟩
 | v :: r, o, w, cur, h => by
  obtain ⟨cur', h1, h2⟩ := setCells_blk b t r (o + 1) (w.setCell ⟨b, o, none⟩ v) (cur.setIfInBounds o v) (heap_setCell_same w b o cur t v h)
  exact ⟨cur', h1, by simpa using h2⟩
theorem ownOf {w : World} {base b n cap K : Nat} {t : TypeId} {cur : Array Value} {xs : List Value} (hb : base <= b) (hh : w.heap[b]? = some (.cells cur t (0, 0))) (hn : n <= cap) (hm : cap <= maxLen) (hs : cur.size = cap * K) (hx : xs.length = n * K)
  (hc : ∀ j, j < n * K -> w.cell? ⟨b, j, none⟩ = xs[j]?) : w.ownsRow base t K (.slice (some ⟨b, 0, none⟩) n cap) n xs := by
 refine ⟨hx, .inr ⟨b, cap, cur, rfl, hb, hh, hn, hm, hs, ?_⟩⟩
 have hle : n * K <= cap * K := Nat.mul_le_mul_right _ hn
 apply List.ext_getElem?
 intro j
 by_cases hj : j < n * K
 ·rw [List.getElem?_take, if_pos hj, <- hc j hj, cell_of_row w b j cur t (0, 0) hh]
  simp
 ·rw [List.getElem?_eq_none (by rw [List.length_take]; omega), List.getElem?_eq_none (by omega)]
theorem blk_some {w : World} {b j : Nat} {cur : Array Value} {t : TypeId} (hh : w.heap[b]? = some (.cells cur t (0, 0))) (hj : j < cur.size) : (w.cell? ⟨b, j, none⟩).isSome = true := by
 rw [cell_of_row w b j cur t (0, 0) hh, Array.getElem?_eq_getElem hj]; rfl
theorem grS {w w1 w2 : World} {r : Option Nat} (h : w.grownBy w1 r) (h2 : w1.grownBy w2 r) : w.grownBy w2 r :=
 ⟨h2.os.trans h.os, h2.tape.trans h.tape, h2.output.trans h.output, Nat.le_trans h.size h2.size, fun k hk hne => (h2.block k (Nat.lt_of_lt_of_le hk h.size) hne).trans (h.block k hk hne)⟩
theorem mid_cells {cs vs : List Value} {p : Nat} (hp : p <= cs.length) (j : Nat) :
  (cs.take p ++ (vs ++ cs.drop p))[j]? = if j < p then cs[j]? else if j < p + vs.length then vs[j - p]? else (cs.drop p)[j - (p + vs.length)]? := by
 have hl : (cs.take p).length = p := by rw [List.length_take]; omega
 by_cases h1 : j < p
 ·rw [if_pos h1, List.getElem?_append_left (by omega), List.getElem?_take, if_pos h1]
 ·rw [if_neg h1, List.getElem?_append_right (by omega), hl]
  by_cases h2 : j < p + vs.length
  ·rw [if_pos h2, List.getElem?_append_left (by omega)]
  ·rw [if_neg h2, List.getElem?_append_right (by omega), show j - p - vs.length = j - (p + vs.length) by omega]
theorem drew_heap (w : World) : w.drew.heap = w.heap := rfl
theorem drew_os (w : World) : w.drew.os = w.os := rfl
theorem drew_tape (w : World) : w.drew.tape = w.tape := rfl
theorem drew_output (w : World) : w.drew.output = w.output := rfl
theorem drew_cell (w : World) (x : Addr) : w.drew.cell? x = w.cell? x := rfl
theorem drew_frozen (w : World) (x : Addr) : w.drew.frozen? x = w.frozen? x := rfl
theorem row_left (xs : List Value) (p : Nat) (Z1 Z2 : Array Value) (j : Nat) (hj : j < p) (hp : p <= xs.length) : ((xs.take p).toArray ++ Z1 ++ Z2)[j]? = xs[j]? := by
 rw [Array.append_assoc, Array.getElem?_append_left (by simp; omega)]
 simp [hj]
end Go.Proofs.YtgincoiehbdphaaGreatDoor.Cp
set_option linter.unusedVariables false
namespace Go.Proofs.YtgincoiehbdphaaGreatDoor.En
open Go.ChangeShapes Go.WideShapes Go.ChangeAt Go.RowKit
open Go.Proofs.YtgincoiehbdphaaGreatDoor.Cp
def insL (l : List Ob) (i : Nat) (E : Ob) : List Ob := l.take i ++ ([E] ++ l.drop i)
theorem insL_length (l : List Ob) (i : Nat) (E : Ob) (h : i <= l.length) : (insL l i E).length = l.length + 1 := by
 unfold insL; rw [List.length_append, List.length_append, List.length_take, List.length_drop]; simp; omega
theorem ocells_take (l : List Ob) (i : Nat) (h : i <= l.length) : ocells (l.take i) = (ocells l).take (i * 4) := by
 have e : ocells l = ocells (l.take i) ++ ocells (l.drop i) := by rw [<- ocells_app, List.take_append_drop]
 have hl : (ocells (l.take i)).length = i * 4 := by rw [ocells_length, List.length_take]; omega
 rw [e, List.take_left' hl]
theorem ocells_drop (l : List Ob) (i : Nat) (h : i <= l.length) : ocells (l.drop i) = (ocells l).drop (i * 4) := by
 have e : ocells l = ocells (l.take i) ++ ocells (l.drop i) := by rw [<- ocells_app, List.take_append_drop]
 have hl : (ocells (l.take i)).length = i * 4 := by rw [ocells_length, List.length_take]; omega
 rw [e, List.drop_left' hl]
theorem insL_cells (l : List Ob) (i : Nat) (E : Ob) (h : i <= l.length) : ocells (insL l i E) = (ocells l).take (i * 4) ++ (ocells [E] ++ (ocells l).drop (i * 4)) := by
 unfold insL; rw [ocells_app, ocells_app, ocells_take l i h, ocells_drop l i h]
theorem infoSz : (Tryz.prog.info? 106).map (·.size) = some 4 := by
 obtain ⟨i0, hi0, h0, h1, h2⟩ := info_parts infoObj
 rw [hi0]; simp [h1]
set_option maxRecDepth 100000 in
set_option maxHeartbeats 4000000 in
theorem insertRoom (base b c vb i : Nat) (l : List Ob) (E : Ob) (w : World) (h : w.ownsRow base 106 4 (.slice (some ⟨b, 0, none⟩) l.length c) l.length (ocells l)) (hi : i < l.length) (hn : l.length <= 1048576) (hroom : l.length + 1 <= c)
  (hv : w.heap[vb]? = some (.cells (ocells [E]).toArray 106 (0, 0))) (hvb : vb ≠ b) :
  Calls Tryz.prog 159 #[.slice (some ⟨b, 0, none⟩) l.length c, .int .i64 i, .slice (some ⟨vb, 0, none⟩) 1 1] w fun e w' => GE base (.slice (some ⟨b, 0, none⟩) l.length c) (insL l i E) w e w' := by
 obtain ⟨cur, hh, hcm, hcs, hbb⟩ : ∃ cur : Array Value, w.heap[b]? = some (.cells cur 106 (0, 0)) /\ c <= maxLen /\ cur.size = c * 4 /\ base <= b := by
  rcases h.2 with ⟨h', _⟩ | ⟨g', c', cur, h', hb, hh, h1, h2, h3, h4⟩
  ·cases h'
  ·simp only [Value.slice.injEq, Option.some.injEq, Addr.mk.injEq, and_true, true_and] at h'
   obtain ⟨rfl, rfl⟩ := h'
   exact ⟨cur, hh, h2, h3, hb⟩
 have hvl : (ocells [E]).length = 4 := ocells_length [E]
 have hcl : (ocells l).length = l.length * 4 := ocells_length l
 have hdl : ((ocells l).drop (i * 4)).length = (l.length - i) * 4 := by rw [List.length_drop, hcl]; omega
 have hget : ∀ j v, (ocells l)[j]? = some v -> w.cell? ⟨b, j, none⟩ = some v := fun j v hj => by
  have := h.cells (g := b) rfl j v hj
  rwa [add_plain, Nat.zero_add] at this
 have hsp : ∀ j, j < (l.length + 1) * 4 -> (w.cell? ⟨b, j, none⟩).isSome = true := fun j hj => blk_some hh (by have := Nat.mul_le_mul_right 4 hroom; omega)
 have hfz : ∀ j, w.frozen? ⟨b, j, none⟩ = false := fun j => h.frozenAt j
 have hvs : ∀ j v, (ocells [E])[j]? = some v -> w.cell? ⟨vb, j, none⟩ = some v := fun j v hj => by rw [cell_of_row w vb j _ _ _ hv]; simpa using hj
 have hvf : ∀ j, w.frozen? ⟨vb, j, none⟩ = false := fun j => frozen_of_row w vb j _ _ hv
 have hsa : w.shape? vb = some (106, 4) := by simp [World.shape?, hv, hvl]
 have hsb : w.shape? b = some (106, c * 4) := by simp [World.shape?, hh, hcs]
 have hov : ∀ lb cb, (callFunc 184 #[.slice (some ⟨vb, 0, none⟩) 1 1, .slice (some ⟨b, (i + 1) * 4, none⟩) lb cb]).run Tryz.prog w = .ok (.value (.bool false)) w := fun lb cb => by
  rw [run_callFunc_extern Tryz.func184 (by kernel_rfl) (by kernel_rfl) (by kernel_rfl) (e := Extern.SlicesOverlaps.overlaps #[28, 28] #[4]) (by kernel_rfl),
   Lib.run_overlaps_apart w 28 4 106 Tryz.underlying28 4 (fun w => by kernel_rfl) ⟨vb, 0, none⟩ ⟨b, (i + 1) * 4, none⟩ 1 1 lb cb hvb 106 106 4 (c * 4) hsa hsb (by omega) (hvf 0) (hvf 4)]
  rfl
 have hcp1 : ∀ ty dL dc sL sc, Nat.min sL dL = l.length - i -> (Builtin.copy_ #[28, 28] ty #[.slice (some ⟨b, (i + 1) * 4, none⟩) dL dc, .slice (some ⟨b, i * 4, none⟩) sL sc]).run Tryz.prog w.drew = .ok (goInt (Nat.min sL dL)) (w.drew.setCells b ((i + 1) * 4) ((ocells l).drop (i * 4))) := fun ty dL dc sL sc hmin =>
  run_copy_K w.drew _ _ ty 106 4 b ((i + 1) * 4) dL dc ⟨b, i * 4, none⟩ sL sc ((ocells l).drop (i * 4)) Tryz.underlying28 infoSz (by rw [hmin, hdl])
   (fun j v hj => by rw [add_plain]; exact hget (i * 4 + j) v (by rwa [List.getElem?_drop] at hj))
   (fun j hj => hsp _ (by rw [hdl] at hj; omega)) (fun j hj => hfz _) (fun v hv => oneE l v (List.mem_of_mem_drop hv))
 obtain ⟨W1, hW1⟩ : ∃ W1, W1 = w.drew.setCells b ((i + 1) * 4) ((ocells l).drop (i * 4)) := ⟨_, rfl⟩
 have hs1 : ∀ j, j < ((ocells l).drop (i * 4)).length -> (w.drew.cell? ⟨b, (i + 1) * 4 + j, none⟩).isSome = true := fun j hj => hsp _ (by rw [hdl] at hj; omega)
 have hsp1 : ∀ k, k < (l.length + 1) * 4 -> (W1.cell? ⟨b, k, none⟩).isSome = true := fun k hk => by
  rw [hW1, cells_set b _ _ _ hs1]
  split
  ·rename_i q; rw [List.getElem?_eq_getElem (by omega)]; rfl
  ·exact hsp k hk
 have hcp2 : ∀ ty dL dc, 1 <= dL -> (Builtin.copy_ #[28, 28] ty #[.slice (some ⟨b, i * 4, none⟩) dL dc, .slice (some ⟨vb, 0, none⟩) 1 1]).run Tryz.prog W1 = .ok (goInt (Nat.min 1 dL)) (W1.setCells b (i * 4) (ocells [E])) := fun ty dL dc hdL =>
  run_copy_K W1 _ _ ty 106 4 b (i * 4) dL dc ⟨vb, 0, none⟩ 1 1 (ocells [E]) Tryz.underlying28 infoSz (by rw [hvl]; have : Nat.min 1 dL = 1 := Nat.min_eq_left hdL; rw [this])
   (fun j v hj => by rw [add_plain, Nat.zero_add, hW1, World.cell?_setCells_out b _ _ _ _ (fun h _ => absurd h hvb)]; exact hvs j v hj)
   (fun j hj => hsp1 _ (by rw [hvl] at hj; omega)) (fun j hj => by rw [hW1, World.frozen?_setCells]; exact hfz _) (oneE [E])
 rw [<- hW1] at hcp1
 have HF : Hid (GE base (.slice (some ⟨b, 0, none⟩) l.length c) (insL l i E) w (.returned (.slice (some ⟨b, 0, none⟩) (l.length + 1) c)) (W1.setCells b (i * 4) (ocells [E]))) := by
  have gD : w.grownBy w.drew (some b) := ⟨rfl, rfl, rfl, Nat.le_refl _, fun k _ _ => rfl⟩
  have g1 : w.drew.grownBy W1 (some b) := by rw [hW1]; exact grownSets b _ _ _
  have g2 := grownSets b (ocells [E]) (i * 4) W1
  obtain ⟨c1, k1, z1⟩ := setCells_blk b 106 ((ocells l).drop (i * 4)) ((i + 1) * 4) w.drew cur hh
  rw [<- hW1] at k1
  obtain ⟨c2, k2, z2⟩ := setCells_blk b 106 (ocells [E]) (i * 4) W1 c1 k1
  refine ⟨_, rfl, ?_, grS (grS gD g1) g2, .inl rfl⟩
  rw [insL_length l i E (by omega)]
  refine ownOf hbb k2 hroom hcm (by rw [z2, z1, hcs]) (by rw [ocells_length, insL_length l i E (by omega)]) fun j hj => ?_
  rw [insL_cells l i E (by omega), mid_cells (by rw [hcl]; exact Nat.mul_le_mul_right _ (by omega)), hvl]
  rw [cells_set b _ _ _ (fun j hj => hsp1 _ (by rw [hvl] at hj; omega)), hvl]
  by_cases q1 : j < i * 4
  ·rw [if_neg (by omega), if_pos q1, hW1, cells_set b _ _ _ hs1, if_neg (by omega)]
   have : j < (ocells l).length := by rw [hcl]; omega
   rw [List.getElem?_eq_getElem this]
   exact hget j _ (List.getElem?_eq_getElem this)
  ·rw [if_neg q1]
   by_cases q2 : j < i * 4 + 4
   ·rw [if_pos q2, if_pos (by omega)]
   ·rw [if_neg q2, if_neg (by omega), hW1, cells_set b _ _ _ hs1, if_pos (by rw [hdl]; omega)]
    rw [show (i + 1) * 4 = i * 4 + 4 by omega]
 have hz2 : ¬ ((i : Int) = (l.length : Int)) := by omega
 have hq2 : ((i : Int) == (l.length : Int)) = false := beq_eq_false_iff_ne.2 hz2
 have hw1 : IntKind.i64.wrap ((i : Int) + 1) = (i : Int) + 1 := by rw [IntKind.wrap_i64]; omega
 have hw2 : IntKind.i64.wrap ((l.length : Int) + 1) = (l.length : Int) + 1 := by rw [IntKind.wrap_i64]; omega
 have hb1 : (0 : Int) <= (i : Int) + 1 := by omega
 have hb0 : (0 : Int) <= (l.length : Int) + 1 := by omega
 have hin : i <= l.length := by omega
 have hinI : (i : Int) <= (l.length : Int) := by omega
 have htn : ((i : Int) + 1).toNat = i + 1 := by omega
 have htl : ((l.length : Int) + 1).toNat = l.length + 1 := by omega
 have hb2 : ¬ (c = i + 1) := by omega
 have hb4 : ¬ (c = i) := by omega
 have hb3 : (i : Int) <= (l.length : Int) + 1 := by omega
 have hb5 : (i : Int) + 1 <= (l.length : Int) + 1 := by omega
 have hb6 : (l.length : Int) + 1 <= (c : Int) := by omega
 have hb7 : ¬ (c : Int) < (l.length : Int) + 1 := by omega
 have hle : l.length <= c := by omega
 have hmn1 : Nat.min (l.length + 1 - i) (l.length - i) = l.length - i := Nat.min_eq_right (by omega)
 have hmn3 : 1 <= l.length + 1 - i := by omega
 have hmn2 : Nat.min (l.length + 1 - i) (l.length + 1 - (i + 1)) = l.length - i := by rw [Nat.add_sub_add_right]; exact hmn1
 clear hW1 hs1 hsp1 hcs hh hsp hfz hvs hvf hsa hsb h hv hget hdl hcl hvl
 go_enter Tryz.func159, Tryz.ntmps159
 go_wp2_with (simp only [hov])
 go_region_law (fail)
 all_goals
  go_wp2_with (at_builtin; refine wpList_copy_run _ rfl _ _ 28 28 rfl _ _ rfl rfl (hcp2 _ _ _ hmn3) ?_)
  go_ret
  exact HF.out
set_option maxRecDepth 100000 in
set_option maxHeartbeats 4000000 in
theorem insertGrow (base b c vb i : Nat) (l : List Ob) (E : Ob) (w : World) (h : w.ownsRow base 106 4 (.slice (some ⟨b, 0, none⟩) l.length c) l.length (ocells l)) (hi : i < l.length) (hn : l.length <= 1048576) (hroom : c < l.length + 1)
  (hv : w.heap[vb]? = some (.cells (ocells [E]).toArray 106 (0, 0))) (hbase : base <= w.heap.size) :
  Calls Tryz.prog 159 #[.slice (some ⟨b, 0, none⟩) l.length c, .int .i64 i, .slice (some ⟨vb, 0, none⟩) 1 1] w fun e w' => GE base (.slice (some ⟨b, 0, none⟩) l.length c) (insL l i E) w e w' := by
 obtain ⟨i0, hi0, hz0, hzs, hzb⟩ := info_parts infoObj
 have hlc : l.length = c := by
  rcases h.2 with ⟨h', _⟩ | ⟨g', c', cur, h', hb, hh, h1, h2, h3, h4⟩
  ·cases h'
  ·simp only [Value.slice.injEq] at h'; omega
 have hvl : (ocells [E]).length = 4 := ocells_length [E]
 have hcl : (ocells l).length = l.length * 4 := ocells_length l
 have hdl : ((ocells l).drop (i * 4)).length = (l.length - i) * 4 := by rw [List.length_drop, hcl]; omega
 have htl : ((ocells l).take (i * 4)).length = i * 4 := by rw [List.length_take, hcl]; have := Nat.mul_le_mul_right 4 (Nat.le_of_lt hi); omega
 have hget : ∀ j v, (ocells l)[j]? = some v -> w.cell? ⟨b, j, none⟩ = some v := fun j v hj => by
  have := h.cells (g := b) rfl j v hj
  rwa [add_plain, Nat.zero_add] at this
 have hvs : ∀ j v, (ocells [E])[j]? = some v -> w.cell? ⟨vb, j, none⟩ = some v := fun j v hj => by rw [cell_of_row w vb j _ _ _ hv]; simpa using hj
 have hbw : b < w.heap.size := (h.lt b rfl).2
 have hvw : vb < w.heap.size := (Array.getElem?_eq_some_iff.1 hv).1
 have hold : (Builtin.firstCells i0.size i (.slice (some ⟨b, 0, none⟩) i c)).run Tryz.prog w.drew = .ok ((ocells l).take (i * 4)).toArray w.drew := by
  rw [hzs]
  exact run_firstCells_some w.drew 4 i ⟨b, 0, none⟩ i c ((ocells l).take (i * 4)) htl (fun j v hj => by
   rw [add_plain, Nat.zero_add]
   rw [List.getElem?_take] at hj
   split at hj
   ·exact hget j v hj
   ·cases hj)
 have hik : i + (l.length + 1 - i) = l.length + 1 := by omega
 have hkk : (l.length : Int) + 1 - (i : Int) = ((l.length + 1 - i : Nat) : Int) := by omega
 obtain ⟨G, hG⟩ : ∃ G, grownCap w (l.length + 1) c 106 = G := ⟨_, rfl⟩
 obtain ⟨ROW, hROW⟩ : ∃ ROW : Array Value, ((ocells l).take (i * 4)).toArray ++ Builtin.zeroCells (Value.agg #[.string ⟨#[]⟩, .int .i64 0, .int .i64 0, .string ⟨#[]⟩]).cells (l.length + 1 - i) ++ Builtin.zeroCells (Value.agg #[.string ⟨#[]⟩, .int .i64 0, .int .i64 0, .string ⟨#[]⟩]).cells (G - (l.length + 1)) = ROW := ⟨_, rfl⟩
 have hrz : ∀ ty, (Builtin.append_ #[28, 3] ty #[.slice (some ⟨b, 0, none⟩) i c, .int .i64 ((l.length : Int) + 1 - (i : Int))]).run Tryz.prog w = .ok (.slice (some ⟨w.heap.size, 0, none⟩) (l.length + 1) G) (w.drew.alloc (.cells ROW 106)) := fun ty => by
  have h := Lib.run_append_grow_zeros w 28 3 ty 106 i0 _ .i64 .i64 Tryz.underlying28 Tryz.underlying3 hi0 hz0 (some ⟨b, 0, none⟩) i c ((ocells l).take (i * 4)) hold (l.length + 1 - i) (by omega) (by rw [hzs]; omega) (by omega) (by omega) (by rw [hzb]; omega) (by rw [hzb, hik]; exact growslice_fits hroom (by omega))
  rw [hik, hG, hROW] at h
  rw [hkk]
  exact h
 have hGn : l.length + 1 <= G := by rw [<- hG]; exact grownCap_ge w _ _ _
 have hGm : G <= maxLen := by rw [<- hG]; exact grownCap_le_maxLen w _ _ _ (by unfold maxLen; omega)
 have hRs : ROW.size = G * 4 := by
  rw [<- hROW]
  simp [Builtin.zeroCells, Value.cells, htl]
  omega
 obtain ⟨N, hN0⟩ : ∃ N, w.heap.size = N := ⟨_, rfl⟩
 obtain ⟨W1, hW1⟩ : ∃ W1, w.drew.alloc (.cells ROW 106) = W1 := ⟨_, rfl⟩
 have hblk : W1.heap[N]? = some (.cells ROW 106 (0, 0)) := by rw [<- hW1, <- hN0]; exact heap_alloc_new w.drew _
 have hle : (l.length + 1) * 4 <= G * 4 := Nat.mul_le_mul_right _ hGn
 have hNs : ∀ j, j < (l.length + 1) * 4 -> (W1.cell? ⟨N, j, none⟩).isSome = true := fun j hj => blk_some hblk (by omega)
 have hNf : ∀ j, W1.frozen? ⟨N, j, none⟩ = false := fun j => frozen_of_row W1 N j _ _ hblk
 have hOb : ∀ j v, (ocells l)[j]? = some v -> W1.cell? ⟨b, j, none⟩ = some v := fun j v hj => by rw [<- hW1]; exact (World.cell?_alloc_past (w := w.drew) _ b j hbw).trans (hget j v hj)
 have hOv : ∀ j v, (ocells [E])[j]? = some v -> W1.cell? ⟨vb, j, none⟩ = some v := fun j v hj => by rw [<- hW1]; exact (World.cell?_alloc_past (w := w.drew) _ vb j hvw).trans (hvs j v hj)
 have hbN : b ≠ N := by omega
 have hcpA : ∀ (W : World), (∀ x, W.cell? x = W1.cell? x) -> (∀ x, W.frozen? x = W1.frozen? x) -> ∀ ty dL dc, 1 <= dL -> (Builtin.copy_ #[28, 28] ty #[.slice (some ⟨N, i * 4, none⟩) dL dc, .slice (some ⟨vb, 0, none⟩) 1 1]).run Tryz.prog W = .ok (goInt (Nat.min 1 dL)) (W.setCells N (i * 4) (ocells [E])) := fun W hWc hWf ty dL dc hdL =>
  run_copy_K W _ _ ty 106 4 N (i * 4) dL dc ⟨vb, 0, none⟩ 1 1 (ocells [E]) Tryz.underlying28 infoSz (by rw [hvl]; have : Nat.min 1 dL = 1 := Nat.min_eq_left hdL; rw [this])
   (fun j v hj => by rw [add_plain, Nat.zero_add, hWc]; exact hOv j v hj)
   (fun j hj => by rw [hWc]; exact hNs _ (by rw [hvl] at hj; omega)) (fun j hj => by rw [hWf]; exact hNf _) (oneE [E])
 have hs1 : ∀ j, j < (ocells [E]).length -> (W1.cell? ⟨N, i * 4 + j, none⟩).isSome = true := fun j hj => hNs _ (by rw [hvl] at hj; omega)
 have hsp1 : ∀ k, k < (l.length + 1) * 4 -> ((W1.setCells N (i * 4) (ocells [E])).cell? ⟨N, k, none⟩).isSome = true := fun k hk => by
  rw [cells_set N _ _ _ hs1]
  split
  ·rename_i q; rw [List.getElem?_eq_getElem (by omega)]; rfl
  ·exact hNs k hk
 have hcpB : ∀ (W : World), (∀ x, W.cell? x = (W1.setCells N (i * 4) (ocells [E])).cell? x) -> (∀ x, W.frozen? x = (W1.setCells N (i * 4) (ocells [E])).frozen? x) -> ∀ ty dL dc sL sc, Nat.min sL dL = l.length - i -> (Builtin.copy_ #[28, 28] ty #[.slice (some ⟨N, (i + 1) * 4, none⟩) dL dc, .slice (some ⟨b, i * 4, none⟩) sL sc]).run Tryz.prog W = .ok (goInt (Nat.min sL dL)) (W.setCells N ((i + 1) * 4) ((ocells l).drop (i * 4))) := fun W hWc hWf ty dL dc sL sc hmin =>
  run_copy_K W _ _ ty 106 4 N ((i + 1) * 4) dL dc ⟨b, i * 4, none⟩ sL sc ((ocells l).drop (i * 4)) Tryz.underlying28 infoSz (by rw [hmin, hdl])
   (fun j v hj => by rw [add_plain, hWc, World.cell?_setCells_out _ _ _ _ _ (fun h _ => absurd h hbN)]; exact hOb (i * 4 + j) v (by rwa [List.getElem?_drop] at hj))
   (fun j hj => by rw [hWc]; exact hsp1 _ (by rw [hdl] at hj; omega)) (fun j hj => by rw [hWf, World.frozen?_setCells]; exact hNf _) (fun v hv => oneE l v (List.mem_of_mem_drop hv))
 have HF : ∀ (A B : World), (∀ x, A.cell? x = W1.cell? x) -> A.heap = W1.heap -> A.os = w.os -> A.tape = w.tape -> A.output = w.output -> B.heap = (A.setCells N (i * 4) (ocells [E])).heap -> B.os = w.os -> B.tape = w.tape -> B.output = w.output -> Hid (GE base (.slice (some ⟨b, 0, none⟩) l.length c) (insL l i E) w (.returned (.slice (some ⟨N, 0, none⟩) (l.length + 1) G)) (B.setCells N ((i + 1) * 4) ((ocells l).drop (i * 4)))) := by
  intro A B hA hAh o1 t1 u1 hBh o2 t2 u2
  have hA2 : A.heap[N]? = some (.cells ROW 106 (0, 0)) := by rw [hAh]; exact hblk
  obtain ⟨c1, k1, z1⟩ := setCells_blk N 106 (ocells [E]) (i * 4) A ROW hA2
  rw [<- hBh] at k1
  obtain ⟨c2, k2, z2⟩ := setCells_blk N 106 ((ocells l).drop (i * 4)) ((i + 1) * 4) B c1 k1
  have hBc : ∀ x, B.cell? x = (A.setCells N (i * 4) (ocells [E])).cell? x := fun x => by unfold World.cell?; rw [hBh]
  have hAs : ∀ j, j < (ocells [E]).length -> (A.cell? ⟨N, i * 4 + j, none⟩).isSome = true := fun j hj => by rw [hA]; exact hs1 j hj
  have hBs : ∀ j, j < ((ocells l).drop (i * 4)).length -> (B.cell? ⟨N, (i + 1) * 4 + j, none⟩).isSome = true := fun j hj => by
   rw [hBc, cells_set N _ _ _ hAs]
   split
   ·rename_i q; rw [List.getElem?_eq_getElem (by omega)]; rfl
   ·rw [hA]; exact hNs _ (by rw [hdl] at hj; omega)
  have g2 := grownSets N ((ocells l).drop (i * 4)) ((i + 1) * 4) B
  have g1 := grownSets N (ocells [E]) (i * 4) A
  have zA : w.heap.size <= A.heap.size := by rw [hAh, <- hW1]; exact (allocBelow w.drew (.cells ROW 106)).size
  have kA : ∀ k, k < w.heap.size -> A.heap[k]? = w.heap[k]? := fun k hk => by rw [hAh, <- hW1]; exact (allocBelow w.drew (.cells ROW 106)).block k hk
  have hgr : w.grownBy (B.setCells N ((i + 1) * 4) ((ocells l).drop (i * 4))) (some b) := by
   refine ⟨g2.os.trans o2, g2.tape.trans t2, g2.output.trans u2, ?_, fun k hk _ => ?_⟩
   ·have e1 := g1.size
    have e2 := g2.size
    rw [<- hBh] at e1
    omega
   ·have e1 := g1.block k (by omega) (by simp; omega)
    rw [<- hBh, kA k hk] at e1
    have hkB : k < B.heap.size := by have e3 := g1.size; rw [<- hBh] at e3; omega
    exact (g2.block k hkB (by simp; omega)).trans e1
  refine ⟨_, rfl, ?_, hgr, .inr (by rw [hN0]; rfl)⟩
  rw [insL_length l i E (by omega)]
  refine ownOf (by omega) k2 hGn hGm (by rw [z2, z1, hRs]) (by rw [ocells_length, insL_length l i E (by omega)]) fun j hj => ?_
  rw [insL_cells l i E (by omega), mid_cells (by rw [hcl]; exact Nat.mul_le_mul_right _ (by omega)), hvl]
  rw [cells_set N _ _ _ hBs, hdl]
  by_cases q1 : j < i * 4
  ·rw [if_neg (by omega), if_pos q1, hBc, cells_set N _ _ _ hAs, if_neg (by omega), hA, cell_of_row W1 N j _ _ _ hblk, <- hROW]
   exact row_left _ _ _ _ j q1 (by rw [hcl]; exact Nat.mul_le_mul_right _ (by omega))
  ·rw [if_neg q1]
   by_cases q2 : j < i * 4 + 4
   ·rw [if_pos q2, if_neg (by omega), hBc, cells_set N _ _ _ hAs, hvl, if_pos (by omega)]
   ·rw [if_neg q2, if_pos (by omega)]
    rw [show (i + 1) * 4 = i * 4 + 4 by omega]
 rw [hN0] at hrz
 have hz2 : ¬ ((i : Int) = (l.length : Int)) := by omega
 have hq2 : ((i : Int) == (l.length : Int)) = false := beq_eq_false_iff_ne.2 hz2
 have hw1 : IntKind.i64.wrap ((i : Int) + 1) = (i : Int) + 1 := by rw [IntKind.wrap_i64]; omega
 have hw2 : IntKind.i64.wrap ((l.length : Int) + 1) = (l.length : Int) + 1 := by rw [IntKind.wrap_i64]; omega
 have hw3 : IntKind.i64.wrap ((l.length : Int) + 1 - (i : Int)) = (l.length : Int) + 1 - (i : Int) := by rw [IntKind.wrap_i64]; omega
 have hb1 : (0 : Int) <= (i : Int) + 1 := by omega
 have hin : i <= l.length := by omega
 have hinI : (i : Int) <= (l.length : Int) := by omega
 have htn : ((i : Int) + 1).toNat = i + 1 := by omega
 have hic : (i : Int) <= (c : Int) := by omega
 have hb3 : (i : Int) <= (l.length : Int) + 1 := by omega
 have hb5 : (i : Int) + 1 <= (l.length : Int) + 1 := by omega
 have hb7 : (c : Int) < (l.length : Int) + 1 := by omega
 have hGi : ¬ (G = i) := by omega
 have hGim : ¬ (G = i + 1) := by omega
 have hci : ¬ (c = i) := by omega
 have hGI : (i : Int) + 1 <= (G : Int) := by omega
 have HLC : Hid (l.length = c) := hlc
 have hGmi : G <= 9223372036854775807 := by unfold maxLen at hGm; omega
 have hmn1 : Nat.min (l.length - i) (l.length - i) = l.length - i := Nat.min_self _
 have hmn2 : Nat.min (l.length - i) (l.length + 1 - (i + 1)) = l.length - i := by rw [Nat.add_sub_add_right]; exact hmn1
 have hmn3 : 1 <= l.length + 1 - i := by omega
 have hE1 : ∀ x, W1.cell? x = W1.cell? x := fun x => rfl
 have hE2 : ∀ x, W1.frozen? x = W1.frozen? x := fun x => rfl
 have hcA := fun ty dL dc (q : 1 <= dL) => hcpA W1 hE1 hE2 ty dL dc q
 have hcB := fun ty dL dc sL sc (q : Nat.min sL dL = l.length - i) => hcpB (W1.setCells N (i * 4) (ocells [E])).drew (drew_cell _) (drew_frozen _) ty dL dc sL sc q
 have hos : W1.os = w.os := by rw [<- hW1]; rfl
 have hta : W1.tape = w.tape := by rw [<- hW1]; rfl
 have hou : W1.output = w.output := by rw [<- hW1]; rfl
 have HQ := HF W1 (W1.setCells N (i * 4) (ocells [E])).drew (fun _ => rfl) rfl hos hta hou (drew_heap _) ((drew_os _).trans ((grownSets N (ocells [E]) (i * 4) W1).os.trans hos)) ((drew_tape _).trans ((grownSets N (ocells [E]) (i * 4) W1).tape.trans hta)) ((drew_output _).trans ((grownSets N (ocells [E]) (i * 4) W1).output.trans hou))
 clear hos hta hou
 rw [hW1] at hrz
 clear hcpA hcpB HF hE1 hE2
 clear hW1 hs1 hsp1 hRs hROW hblk hle hNs hNf hOb hOv hold hik hkk hvs h hv hget hlc hGm hG hzs hzb hz0 hi0 htl hcl hvl hdl hbw hvw
 go_enter Tryz.func159, Tryz.ntmps159
 go_wp2_with (first
  | (at_builtin; refine Lib.wpList_append_run _ rfl _ _ _ _ rfl _ _ rfl rfl _ _ (hrz _) ?_)
  | (at_builtin; refine wpList_copy_run _ rfl _ _ 28 28 rfl _ _ rfl rfl (hcA _ _ _ hmn3) ?_))
 go_region_law (fail)
 all_goals
  go_wp2
  go_ret
  exact HQ.out
end Go.Proofs.YtgincoiehbdphaaGreatDoor.En
set_option linter.unusedVariables false
namespace Go.Proofs.YtgincoiehbdphaaGreatDoor.En
open Go.ChangeShapes Go.WideShapes Go.ChangeAt Go.RowKit
theorem insertMidC (base : Nat) (a : Option Addr) (c g i : Nat) (l : List Ob) (E : Ob) (w : World) (h : w.ownsRow base 106 4 (.slice a l.length c) l.length (ocells l)) (hi : i < l.length) (hn : l.length <= 1048576)
  (hE : w.heap[g]? = some (.cells (ocells [E]).toArray 106 (0, 0))) (hg : (Value.slice a l.length c).ownBlock ≠ some g) (hb : base <= w.heap.size) :
  Calls Tryz.prog 159 #[.slice a l.length c, .int .i64 i, .slice (some ⟨g, 0, none⟩) 1 1] w fun e w' => GE base (.slice a l.length c) (insL l i E) w e w' := by
 obtain ⟨b, rfl⟩ : ∃ b, a = some ⟨b, 0, none⟩ := by
  rcases h.2 with ⟨_, h0⟩ | ⟨b, c', cur, e, _⟩
  ·omega
  ·simp only [Value.slice.injEq] at e
   exact ⟨b, e.1⟩
 by_cases hr : l.length + 1 <= c
 ·exact insertRoom base b c g i l E w h hi hn hr hE (fun e => hg (by rw [e]; rfl))
 ·exact insertGrow base b c g i l E w h hi hn (by omega) hE hb
set_option maxRecDepth 20000 in
set_option maxHeartbeats 4000000 in
theorem addMidC (b : Nat) (l : List Ob) (v : Value) (E : Ob) (p : Nat) (w : World) (h : SL w b l v) (hn : l.length <= 1048575) (hl : Cuts l E p) (hpl : p < l.length) (hh : hit l E p = false) :
  Calls Tryz.prog 116 #[.pointer (some ⟨b, 0, none⟩), .agg #[.string E.1, .int .i64 E.2.1, .int .i64 E.2.2.1, .string E.2.2.2]] w fun e w' => AD b (insL l p E) w e w' := by
 obtain ⟨va, vc, rfl⟩ := shapeK3 h.own
 have hS := fun W q => searchC va vc l E p W q (by omega) hl
 simp only [hh] at hS
 have hI := fun g W q r s t => insertMidC (b + 1) va vc g p l E W q hpl (by omega) r s t
 clear hl hh
 obtain ⟨x0, x1, x2, x3⟩ := E
 simp only [] at hS hI ⊢
 obtain ⟨W, hW⟩ : ∃ W, w.alloc (.cells #[.string x0, .int .i64 x1, .int .i64 x2, .string x3] 106) = W := ⟨_, rfl⟩
 have bW : Below w.heap.size w W := by rw [<- hW]; exact allocBelow _ _
 have oW : Rf W w.heap.size [.string x0, .int .i64 x1, .int .i64 x2, .string x3] := by rw [<- hW]; exact Rf.new _ _ _
 have zW : w.heap.size < W.heap.size := by rw [<- hW]; simp
 have h1 := h.below bW
 have k0 := h1.rf.at_ 0 _ rfl
 have k1 := h1.rf.at_ 1 _ rfl
 have m0 := oW.at_ 0 _ rfl
 have m1 := oW.at_ 1 _ rfl
 have m2 := oW.at_ 2 _ rfl
 have m3 := oW.at_ 3 _ rfl
 have hbw := h.lt
 go_enter Tryz.func116, Tryz.ntmps116
 go_wp2_with fail
 go_cut [4, 5] from 6 to 18 (fun s t wx => s = .int .i64 p /\ t = .bool false /\ Below W.heap.size W wx)
 case first =>
  have OD : OB W.drew.heap.size W.drew va l := OB.of h1.own
  clear hI h1 oW h hbw hW bW zW
  go_region_held (fun w' => w'.cell? ⟨b, 0, none⟩ = some (.func (.func 115) #[] #[]) /\ w'.cell? ⟨b, 1, none⟩ = some (.slice va l.length vc) /\ w'.cell? ⟨w.heap.size, 0, none⟩ = some (.string x0) /\ w'.cell? ⟨w.heap.size, 1, none⟩ = some (.int .i64 x1) /\ w'.cell? ⟨w.heap.size, 2, none⟩ = some (.int .i64 x2) /\ w'.cell? ⟨w.heap.size, 3, none⟩ = some (.string x3)) (first | with_reducible exact ⟨k0, k1, m0, m1, m2, m3⟩ | with_reducible exact ⟨f0, f1, e0, e1, e2, e3⟩ | exact ⟨k0, k1, m0, m1, m2, m3⟩)
   ((go_at_call 158; refine (hS _ OD).mono ?_; rintro e wb ⟨rfl, bb⟩; have fb := Fr.ofBelow (lo := 0) (hi := 0) bb; have e0 := fb.cell m0 (.inr (Nat.zero_le _)); have e1 := fb.cell m1 (.inr (Nat.zero_le _)); have e2 := fb.cell m2 (.inr (Nat.zero_le _)); have e3 := fb.cell m3 (.inr (Nat.zero_le _)); have f0 := fb.cell k0 (.inr (Nat.zero_le _)); have f1 := fb.cell k1 (.inr (Nat.zero_le _)); have Bt1 : Below W.heap.size W wb := (below_drew (Below.refl _ _)).trans bb))
  all_goals (go_wp2_with fail; go_meet; exact ⟨rfl, rfl, Bt1⟩)
 case rest =>
 obtain ⟨rfl, rfl, hB⟩ := hcut
 have h2 := h1.below hB
 have o2 := oW.below zW hB
 have k1 := h2.rf.at_ 1 _ rfl
 have fz := h2.rf.fz 1
 have m0 := o2.at_ 0 _ rfl
 have m1 := o2.at_ 1 _ rfl
 have m2 := o2.at_ 2 _ rfl
 have m3 := o2.at_ 3 _ rfl
 have BA : Below b w wc := ((bW.trans (hB.mono bW.size)).mono (Nat.le_of_lt hbw))
 have hbc : b + 1 <= wc.heap.size := h2.lt
 obtain ⟨V, hV⟩ : ∃ V, wc.alloc (.cells #[.string x0, .int .i64 x1, .int .i64 x2, .string x3] 106) = V := ⟨_, rfl⟩
 have nw : V.drew.heap[wc.heap.size]? = some (.cells (ocells [(x0, x1, x2, x3)]).toArray 106 (0, 0)) := by rw [<- hV, ocells_one]; exact heap_alloc_new wc _
 have bV : Below wc.heap.size wc V := by rw [<- hV]; exact allocBelow _ _
 have h3 := h2.below bV
 have hII := hI wc.heap.size V.drew h3.own.drew nw (fun e => (by have h9 := (h2.own.lt _ e).2; omega)) h3.lt
 have BV : Below b w V := BA.trans (bV.mono (by omega))
 have R3 := h3.rf
 have zV := h3.lt
 have hvb : ∀ j, (Value.slice va l.length vc).ownBlock = some j -> b + 1 <= j := fun j hj => (h3.own.lt j hj).1
 clear hS hI h h1 h2 h3 oW o2 bW zW hW hB BA nw bV k0
 go_wp2_with fail
 have hne : some b ≠ (Value.slice va l.length vc).ownBlock := fun e => absurd (hvb b e.symm) (by omega)
 have R3D : Rf V.drew b [.func (.func 115) #[] #[], .slice va l.length vc] := ⟨R3.at_, R3.fz⟩
 have BVD : Below b w V.drew := BV.drew
 have k1V := R3.at_ 1 _ rfl
 have fzV := R3.fz 1
 go_region_with (go_at_call 159; refine hII.mono ?_; rintro e w5 ⟨v5, rfl, o5, g5, _⟩; obtain ⟨ua, uc, rfl⟩ := shapeK3 o5; have R5 := rfGrew R3D g5 hne zV; have c5 := R5.at_ 1 _ rfl; have z5 := R5.fz 1)
 all_goals
  have z6 : b < w5.heap.size := Nat.lt_of_lt_of_le zV g5.size
  have R6 : Rf (w5.setCell ⟨b, 1, none⟩ (.slice ua (insL l p (x0, x1, x2, x3)).length uc)) b [.func (.func 115) #[] #[], .slice ua (insL l p (x0, x1, x2, x3)).length uc] := R5.set (o := 1) (by simp) _
  have o6 := o5.kept (grownSet w5 b 1 (.slice ua (insL l p (x0, x1, x2, x3)).length uc)) (blockCases _ _ fun j c1 c2 => by cases c2; have := (o5.lt _ c1).1; omega)
  have B6 : Below b w (w5.setCell ⟨b, 1, none⟩ (.slice ua (insL l p (x0, x1, x2, x3)).length uc)) := (BVD.grown g5 (Nat.le_of_lt zV) (fun j hj => by have := hvb j hj; omega)).setCell (p := ⟨b, 1, none⟩) (Nat.le_refl _) _
  have HF : Hid (AD b (insL l p (x0, x1, x2, x3)) w (.returned (.tuple #[])) (w5.setCell ⟨b, 1, none⟩ (.slice ua (insL l p (x0, x1, x2, x3)).length uc))) := ⟨rfl, ⟨_, R6, o6, by rw [World.size_setCell]; exact z6⟩, B6⟩
  clear R6 o6 B6 R5 o5 g5 c5 z5 R3 R3D BV BVD
  go_wp2
  refine bodyPost_end (results_none rfl _ _ _) rfl ?_
  exact HF.out
end Go.Proofs.YtgincoiehbdphaaGreatDoor.En
