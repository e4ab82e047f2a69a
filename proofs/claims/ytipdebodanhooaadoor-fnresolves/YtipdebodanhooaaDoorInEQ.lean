/- slices.Insert in the midst of a list. No statement is proved here. -/
import Derived.Test.YtipdebodanhooaaDoorRows
import Derived.Test.YtipdebodanhooaaDoorLemQ
import Derived.Test.YtipdebodanhooaaDoorDTabQ
import Derived.Test.YtipdebodanhooaaDoorHkTQ
import Derived.Test.YtipdebodanhooaaDoorCpKQ
import Derived.Test.YtipdebodanhooaaDoorEnLQ
import Derived.Test.YtipdebodanhooaaDoorIxMQ
import Derived.Test.YtipdebodanhooaaDoorSlBQ
import Derived.WalkKit
import Derived.ProofKit
import Derived.Below
import Derived.WalkSpells
import Derived.Maps.AppendAt
import Derived.Deep.QuietTactic
import Derived.BigQuiet
import Derived.Deep.RegionWith
import Derived.Lib.AppendZerosOnto
import Derived.Lib.Overlaps
import Derived.Laws.Externs
import Derived.Laws.NewBlocks
set_option linter.unusedVariables false
namespace Go.Proofs.YtipdebodanhooaaDoor.En
open Go.ChangeShapes Go.WideShapes Go.ChangeAt Go.RowKit
open Go.Proofs.YtipdebodanhooaaDoor.Cp
/-- An element in the midst. -/
def insL (l : List Ob) (i : Nat) (E : Ob) : List Ob := l.take i ++ ([E] ++ l.drop i)
theorem insL_length (l : List Ob) (i : Nat) (E : Ob) (h : i ≤ l.length) : (insL l i E).length = l.length + 1 := by
  unfold insL; rw [List.length_append, List.length_append, List.length_take, List.length_drop]; simp; omega
theorem ocells_take (l : List Ob) (i : Nat) (h : i ≤ l.length) : ocells (l.take i) = (ocells l).take (i * 4) := by
  have e : ocells l = ocells (l.take i) ++ ocells (l.drop i) := by rw [← ocells_app, List.take_append_drop]
  have hl : (ocells (l.take i)).length = i * 4 := by rw [ocells_length, List.length_take]; omega
  rw [e, List.take_left' hl]
theorem ocells_drop (l : List Ob) (i : Nat) (h : i ≤ l.length) : ocells (l.drop i) = (ocells l).drop (i * 4) := by
  have e : ocells l = ocells (l.take i) ++ ocells (l.drop i) := by rw [← ocells_app, List.take_append_drop]
  have hl : (ocells (l.take i)).length = i * 4 := by rw [ocells_length, List.length_take]; omega
  rw [e, List.drop_left' hl]
theorem insL_cells (l : List Ob) (i : Nat) (E : Ob) (h : i ≤ l.length) : ocells (insL l i E) = (ocells l).take (i * 4) ++ (ocells [E] ++ (ocells l).drop (i * 4)) := by
  unfold insL; rw [ocells_app, ocells_app, ocells_take l i h, ocells_drop l i h]
theorem infoSz : (Tryd.prog.info? 62).map (·.size) = some 4 := by
  obtain ⟨i0, hi0, h0, h1, h2⟩ := info_parts infoObj
  rw [hi0]; simp [h1]
set_option maxRecDepth 100000 in
set_option maxHeartbeats 4000000 in
theorem insertRoom (base b c vb i : Nat) (l : List Ob) (E : Ob) (w : World) (h : w.ownsRow base 62 4 (.slice (some ⟨b, 0, none⟩) l.length c) l.length (ocells l)) (hi : i < l.length) (hn : l.length ≤ 1048576) (hroom : l.length + 1 ≤ c)
    (hv : w.heap[vb]? = some (.cells (ocells [E]).toArray 62 (0, 0))) (hvb : vb ≠ b) :
    Calls Tryd.prog 56 #[.slice (some ⟨b, 0, none⟩) l.length c, .int .i64 i, .slice (some ⟨vb, 0, none⟩) 1 1] w fun e w' => GE base (.slice (some ⟨b, 0, none⟩) l.length c) (insL l i E) w e w' := by
  obtain ⟨cur, hh, hcm, hcs, hbb⟩ : ∃ cur : Array Value, w.heap[b]? = some (.cells cur 62 (0, 0)) ∧ c ≤ maxLen ∧ cur.size = c * 4 ∧ base ≤ b := by
    rcases h.2 with ⟨h', _⟩ | ⟨g', c', cur, h', hb, hh, h1, h2, h3, h4⟩
    · cases h'
    · simp only [Value.slice.injEq, Option.some.injEq, Addr.mk.injEq, and_true, true_and] at h'
      obtain ⟨rfl, rfl⟩ := h'
      exact ⟨cur, hh, h2, h3, hb⟩
  have hvl : (ocells [E]).length = 4 := ocells_length [E]
  have hcl : (ocells l).length = l.length * 4 := ocells_length l
  have hdl : ((ocells l).drop (i * 4)).length = (l.length - i) * 4 := by rw [List.length_drop, hcl]; omega
  have hget : ∀ j v, (ocells l)[j]? = some v → w.cell? ⟨b, j, none⟩ = some v := fun j v hj => by
    have := h.cells (g := b) rfl j v hj
    rwa [add_plain, Nat.zero_add] at this
  have hsp : ∀ j, j < (l.length + 1) * 4 → (w.cell? ⟨b, j, none⟩).isSome = true := fun j hj => blk_some hh (by have := Nat.mul_le_mul_right 4 hroom; omega)
  have hfz : ∀ j, w.frozen? ⟨b, j, none⟩ = false := fun j => h.frozenAt j
  have hvs : ∀ j v, (ocells [E])[j]? = some v → w.cell? ⟨vb, j, none⟩ = some v := fun j v hj => by rw [cell_of_row w vb j _ _ _ hv]; simpa using hj
  have hvf : ∀ j, w.frozen? ⟨vb, j, none⟩ = false := fun j => frozen_of_row w vb j _ _ hv
  have hsa : w.shape? vb = some (62, 4) := by simp [World.shape?, hv, hvl]
  have hsb : w.shape? b = some (62, c * 4) := by simp [World.shape?, hh, hcs]
  have hov : ∀ lb cb, (callFunc 73 #[.slice (some ⟨vb, 0, none⟩) 1 1, .slice (some ⟨b, (i + 1) * 4, none⟩) lb cb]).run Tryd.prog w = .ok (.value (.bool false)) w := fun lb cb => by
    rw [run_callFunc_extern Tryd.func73 (by kernel_rfl) (by kernel_rfl) (by kernel_rfl) (e := Extern.SlicesOverlaps.overlaps #[24, 24] #[4]) (by kernel_rfl),
      Lib.run_overlaps_apart w 24 4 62 Tryd.underlying24 4 (fun w => by kernel_rfl) ⟨vb, 0, none⟩ ⟨b, (i + 1) * 4, none⟩ 1 1 lb cb hvb 62 62 4 (c * 4) hsa hsb (by omega) (hvf 0) (hvf 4)]
    rfl
  have hcp1 : ∀ ty dL dc sL sc, Nat.min sL dL = l.length - i → (Builtin.copy_ #[24, 24] ty #[.slice (some ⟨b, (i + 1) * 4, none⟩) dL dc, .slice (some ⟨b, i * 4, none⟩) sL sc]).run Tryd.prog w.drew = .ok (goInt (Nat.min sL dL)) (w.drew.setCells b ((i + 1) * 4) ((ocells l).drop (i * 4))) := fun ty dL dc sL sc hmin =>
    run_copy_K w.drew _ _ ty 62 4 b ((i + 1) * 4) dL dc ⟨b, i * 4, none⟩ sL sc ((ocells l).drop (i * 4)) Tryd.underlying24 infoSz (by rw [hmin, hdl])
      (fun j v hj => by rw [add_plain]; exact hget (i * 4 + j) v (by rwa [List.getElem?_drop] at hj))
      (fun j hj => hsp _ (by rw [hdl] at hj; omega)) (fun j hj => hfz _) (fun v hv => oneE l v (List.mem_of_mem_drop hv))
  obtain ⟨W1, hW1⟩ : ∃ W1, W1 = w.drew.setCells b ((i + 1) * 4) ((ocells l).drop (i * 4)) := ⟨_, rfl⟩
  have hs1 : ∀ j, j < ((ocells l).drop (i * 4)).length → (w.drew.cell? ⟨b, (i + 1) * 4 + j, none⟩).isSome = true := fun j hj => hsp _ (by rw [hdl] at hj; omega)
  have hsp1 : ∀ k, k < (l.length + 1) * 4 → (W1.cell? ⟨b, k, none⟩).isSome = true := fun k hk => by
    rw [hW1, cells_set b _ _ _ hs1]
    split
    · rename_i q; rw [List.getElem?_eq_getElem (by omega)]; rfl
    · exact hsp k hk
  have hcp2 : ∀ ty dL dc, 1 ≤ dL → (Builtin.copy_ #[24, 24] ty #[.slice (some ⟨b, i * 4, none⟩) dL dc, .slice (some ⟨vb, 0, none⟩) 1 1]).run Tryd.prog W1 = .ok (goInt (Nat.min 1 dL)) (W1.setCells b (i * 4) (ocells [E])) := fun ty dL dc hdL =>
    run_copy_K W1 _ _ ty 62 4 b (i * 4) dL dc ⟨vb, 0, none⟩ 1 1 (ocells [E]) Tryd.underlying24 infoSz (by rw [hvl]; have : Nat.min 1 dL = 1 := Nat.min_eq_left hdL; rw [this])
      (fun j v hj => by rw [add_plain, Nat.zero_add, hW1, World.cell?_setCells_out b _ _ _ _ (fun h _ => absurd h hvb)]; exact hvs j v hj)
      (fun j hj => hsp1 _ (by rw [hvl] at hj; omega)) (fun j hj => by rw [hW1, World.frozen?_setCells]; exact hfz _) (oneE [E])
  rw [← hW1] at hcp1
  have HF : Hid (GE base (.slice (some ⟨b, 0, none⟩) l.length c) (insL l i E) w (.returned (.slice (some ⟨b, 0, none⟩) (l.length + 1) c)) (W1.setCells b (i * 4) (ocells [E]))) := by
    have gD : w.grownBy w.drew (some b) := ⟨rfl, rfl, rfl, Nat.le_refl _, fun k _ _ => rfl⟩
    have g1 : w.drew.grownBy W1 (some b) := by rw [hW1]; exact grownSets b _ _ _
    have g2 := grownSets b (ocells [E]) (i * 4) W1
    obtain ⟨c1, k1, z1⟩ := setCells_blk b 62 ((ocells l).drop (i * 4)) ((i + 1) * 4) w.drew cur hh
    rw [← hW1] at k1
    obtain ⟨c2, k2, z2⟩ := setCells_blk b 62 (ocells [E]) (i * 4) W1 c1 k1
    refine ⟨_, rfl, ?_, grS (grS gD g1) g2, .inl rfl⟩
    rw [insL_length l i E (by omega)]
    refine ownOf hbb k2 hroom hcm (by rw [z2, z1, hcs]) (by rw [ocells_length, insL_length l i E (by omega)]) fun j hj => ?_
    rw [insL_cells l i E (by omega), mid_cells (by rw [hcl]; exact Nat.mul_le_mul_right _ (by omega)), hvl]
    rw [cells_set b _ _ _ (fun j hj => hsp1 _ (by rw [hvl] at hj; omega)), hvl]
    by_cases q1 : j < i * 4
    · rw [if_neg (by omega), if_pos q1, hW1, cells_set b _ _ _ hs1, if_neg (by omega)]
      have : j < (ocells l).length := by rw [hcl]; omega
      rw [List.getElem?_eq_getElem this]
      exact hget j _ (List.getElem?_eq_getElem this)
    · rw [if_neg q1]
      by_cases q2 : j < i * 4 + 4
      · rw [if_pos q2, if_pos (by omega)]
      · rw [if_neg q2, if_neg (by omega), hW1, cells_set b _ _ _ hs1, if_pos (by rw [hdl]; omega)]
        rw [show (i + 1) * 4 = i * 4 + 4 by omega]
  have hz2 : ¬ ((i : Int) = (l.length : Int)) := by omega
  have hq2 : ((i : Int) == (l.length : Int)) = false := beq_eq_false_iff_ne.2 hz2
  have hw1 : IntKind.i64.wrap ((i : Int) + 1) = (i : Int) + 1 := by rw [IntKind.wrap_i64]; omega
  have hw2 : IntKind.i64.wrap ((l.length : Int) + 1) = (l.length : Int) + 1 := by rw [IntKind.wrap_i64]; omega
  have hb1 : (0 : Int) ≤ (i : Int) + 1 := by omega
  have hb0 : (0 : Int) ≤ (l.length : Int) + 1 := by omega
  have hin : i ≤ l.length := by omega
  have hinI : (i : Int) ≤ (l.length : Int) := by omega
  have htn : ((i : Int) + 1).toNat = i + 1 := by omega
  have htl : ((l.length : Int) + 1).toNat = l.length + 1 := by omega
  have hb2 : ¬ (c = i + 1) := by omega
  have hb4 : ¬ (c = i) := by omega
  have hb3 : (i : Int) ≤ (l.length : Int) + 1 := by omega
  have hb5 : (i : Int) + 1 ≤ (l.length : Int) + 1 := by omega
  have hb6 : (l.length : Int) + 1 ≤ (c : Int) := by omega
  have hb7 : ¬ (c : Int) < (l.length : Int) + 1 := by omega
  have hle : l.length ≤ c := by omega
  have hmn1 : Nat.min (l.length + 1 - i) (l.length - i) = l.length - i := Nat.min_eq_right (by omega)
  have hmn3 : 1 ≤ l.length + 1 - i := by omega
  have hmn2 : Nat.min (l.length + 1 - i) (l.length + 1 - (i + 1)) = l.length - i := by rw [Nat.add_sub_add_right]; exact hmn1
  clear hW1 hs1 hsp1 hcs hh hsp hfz hvs hvf hsa hsb h hv hget hdl hcl hvl
  go_enter Tryd.func56, Tryd.ntmps56
  go_wp2_with (simp only [hov])
  go_region_law (fail)
  all_goals
    go_wp2_with (at_builtin; refine wpList_copy_run _ rfl _ _ 24 24 rfl _ _ rfl rfl (hcp2 _ _ _ hmn3) ?_)
    go_ret
    exact HF.out

set_option maxRecDepth 100000 in
set_option maxHeartbeats 4000000 in
theorem insertGrow (base b c vb i : Nat) (l : List Ob) (E : Ob) (w : World) (h : w.ownsRow base 62 4 (.slice (some ⟨b, 0, none⟩) l.length c) l.length (ocells l)) (hi : i < l.length) (hn : l.length ≤ 1048576) (hroom : c < l.length + 1)
    (hv : w.heap[vb]? = some (.cells (ocells [E]).toArray 62 (0, 0))) (hbase : base ≤ w.heap.size) :
    Calls Tryd.prog 56 #[.slice (some ⟨b, 0, none⟩) l.length c, .int .i64 i, .slice (some ⟨vb, 0, none⟩) 1 1] w fun e w' => GE base (.slice (some ⟨b, 0, none⟩) l.length c) (insL l i E) w e w' := by
  obtain ⟨i0, hi0, hz0, hzs, hzb⟩ := info_parts infoObj
  have hlc : l.length = c := by
    rcases h.2 with ⟨h', _⟩ | ⟨g', c', cur, h', hb, hh, h1, h2, h3, h4⟩
    · cases h'
    · simp only [Value.slice.injEq] at h'; omega
  have hvl : (ocells [E]).length = 4 := ocells_length [E]
  have hcl : (ocells l).length = l.length * 4 := ocells_length l
  have hdl : ((ocells l).drop (i * 4)).length = (l.length - i) * 4 := by rw [List.length_drop, hcl]; omega
  have htl : ((ocells l).take (i * 4)).length = i * 4 := by rw [List.length_take, hcl]; have := Nat.mul_le_mul_right 4 (Nat.le_of_lt hi); omega
  have hget : ∀ j v, (ocells l)[j]? = some v → w.cell? ⟨b, j, none⟩ = some v := fun j v hj => by
    have := h.cells (g := b) rfl j v hj
    rwa [add_plain, Nat.zero_add] at this
  have hvs : ∀ j v, (ocells [E])[j]? = some v → w.cell? ⟨vb, j, none⟩ = some v := fun j v hj => by rw [cell_of_row w vb j _ _ _ hv]; simpa using hj
  have hbw : b < w.heap.size := (h.lt b rfl).2
  have hvw : vb < w.heap.size := (Array.getElem?_eq_some_iff.1 hv).1
  have hold : (Builtin.firstCells i0.size i (.slice (some ⟨b, 0, none⟩) i c)).run Tryd.prog w.drew = .ok ((ocells l).take (i * 4)).toArray w.drew := by
    rw [hzs]
    exact run_firstCells_some w.drew 4 i ⟨b, 0, none⟩ i c ((ocells l).take (i * 4)) htl (fun j v hj => by
      rw [add_plain, Nat.zero_add]
      rw [List.getElem?_take] at hj
      split at hj
      · exact hget j v hj
      · cases hj)
  have hik : i + (l.length + 1 - i) = l.length + 1 := by omega
  have hkk : (l.length : Int) + 1 - (i : Int) = ((l.length + 1 - i : Nat) : Int) := by omega
  obtain ⟨G, hG⟩ : ∃ G, grownCap w (l.length + 1) c 62 = G := ⟨_, rfl⟩
  obtain ⟨ROW, hROW⟩ : ∃ ROW : Array Value, ((ocells l).take (i * 4)).toArray ++ Builtin.zeroCells (Value.agg #[.string ⟨#[]⟩, .int .i64 0, .int .i64 0, .string ⟨#[]⟩]).cells (l.length + 1 - i) ++ Builtin.zeroCells (Value.agg #[.string ⟨#[]⟩, .int .i64 0, .int .i64 0, .string ⟨#[]⟩]).cells (G - (l.length + 1)) = ROW := ⟨_, rfl⟩
  have hrz : ∀ ty, (Builtin.append_ #[24, 3] ty #[.slice (some ⟨b, 0, none⟩) i c, .int .i64 ((l.length : Int) + 1 - (i : Int))]).run Tryd.prog w = .ok (.slice (some ⟨w.heap.size, 0, none⟩) (l.length + 1) G) (w.drew.alloc (.cells ROW 62)) := fun ty => by
    have h := Lib.run_append_grow_zeros w 24 3 ty 62 i0 _ .i64 .i64 Tryd.underlying24 Tryd.underlying3 hi0 hz0 (some ⟨b, 0, none⟩) i c ((ocells l).take (i * 4)) hold (l.length + 1 - i) (by omega) (by rw [hzs]; omega) (by omega) (by omega) (by rw [hzb]; omega) (by rw [hzb, hik]; exact growslice_fits hroom (by omega))
    rw [hik, hG, hROW] at h
    rw [hkk]
    exact h
  have hGn : l.length + 1 ≤ G := by rw [← hG]; exact grownCap_ge w _ _ _
  have hGm : G ≤ maxLen := by rw [← hG]; exact grownCap_le_maxLen w _ _ _ (by unfold maxLen; omega)
  have hRs : ROW.size = G * 4 := by
    rw [← hROW]
    simp [Builtin.zeroCells, Value.cells, htl]
    omega
  obtain ⟨N, hN0⟩ : ∃ N, w.heap.size = N := ⟨_, rfl⟩
  obtain ⟨W1, hW1⟩ : ∃ W1, w.drew.alloc (.cells ROW 62) = W1 := ⟨_, rfl⟩
  have hblk : W1.heap[N]? = some (.cells ROW 62 (0, 0)) := by rw [← hW1, ← hN0]; exact heap_alloc_new w.drew _
  have hle : (l.length + 1) * 4 ≤ G * 4 := Nat.mul_le_mul_right _ hGn
  have hNs : ∀ j, j < (l.length + 1) * 4 → (W1.cell? ⟨N, j, none⟩).isSome = true := fun j hj => blk_some hblk (by omega)
  have hNf : ∀ j, W1.frozen? ⟨N, j, none⟩ = false := fun j => frozen_of_row W1 N j _ _ hblk
  have hOb : ∀ j v, (ocells l)[j]? = some v → W1.cell? ⟨b, j, none⟩ = some v := fun j v hj => by rw [← hW1]; exact (World.cell?_alloc_past (w := w.drew) _ b j hbw).trans (hget j v hj)
  have hOv : ∀ j v, (ocells [E])[j]? = some v → W1.cell? ⟨vb, j, none⟩ = some v := fun j v hj => by rw [← hW1]; exact (World.cell?_alloc_past (w := w.drew) _ vb j hvw).trans (hvs j v hj)
  have hbN : b ≠ N := by omega
  have hcpA : ∀ (W : World), (∀ x, W.cell? x = W1.cell? x) → (∀ x, W.frozen? x = W1.frozen? x) → ∀ ty dL dc, 1 ≤ dL → (Builtin.copy_ #[24, 24] ty #[.slice (some ⟨N, i * 4, none⟩) dL dc, .slice (some ⟨vb, 0, none⟩) 1 1]).run Tryd.prog W = .ok (goInt (Nat.min 1 dL)) (W.setCells N (i * 4) (ocells [E])) := fun W hWc hWf ty dL dc hdL =>
    run_copy_K W _ _ ty 62 4 N (i * 4) dL dc ⟨vb, 0, none⟩ 1 1 (ocells [E]) Tryd.underlying24 infoSz (by rw [hvl]; have : Nat.min 1 dL = 1 := Nat.min_eq_left hdL; rw [this])
      (fun j v hj => by rw [add_plain, Nat.zero_add, hWc]; exact hOv j v hj)
      (fun j hj => by rw [hWc]; exact hNs _ (by rw [hvl] at hj; omega)) (fun j hj => by rw [hWf]; exact hNf _) (oneE [E])
  have hs1 : ∀ j, j < (ocells [E]).length → (W1.cell? ⟨N, i * 4 + j, none⟩).isSome = true := fun j hj => hNs _ (by rw [hvl] at hj; omega)
  have hsp1 : ∀ k, k < (l.length + 1) * 4 → ((W1.setCells N (i * 4) (ocells [E])).cell? ⟨N, k, none⟩).isSome = true := fun k hk => by
    rw [cells_set N _ _ _ hs1]
    split
    · rename_i q; rw [List.getElem?_eq_getElem (by omega)]; rfl
    · exact hNs k hk
  have hcpB : ∀ (W : World), (∀ x, W.cell? x = (W1.setCells N (i * 4) (ocells [E])).cell? x) → (∀ x, W.frozen? x = (W1.setCells N (i * 4) (ocells [E])).frozen? x) → ∀ ty dL dc sL sc, Nat.min sL dL = l.length - i → (Builtin.copy_ #[24, 24] ty #[.slice (some ⟨N, (i + 1) * 4, none⟩) dL dc, .slice (some ⟨b, i * 4, none⟩) sL sc]).run Tryd.prog W = .ok (goInt (Nat.min sL dL)) (W.setCells N ((i + 1) * 4) ((ocells l).drop (i * 4))) := fun W hWc hWf ty dL dc sL sc hmin =>
    run_copy_K W _ _ ty 62 4 N ((i + 1) * 4) dL dc ⟨b, i * 4, none⟩ sL sc ((ocells l).drop (i * 4)) Tryd.underlying24 infoSz (by rw [hmin, hdl])
      (fun j v hj => by rw [add_plain, hWc, World.cell?_setCells_out _ _ _ _ _ (fun h _ => absurd h hbN)]; exact hOb (i * 4 + j) v (by rwa [List.getElem?_drop] at hj))
      (fun j hj => by rw [hWc]; exact hsp1 _ (by rw [hdl] at hj; omega)) (fun j hj => by rw [hWf, World.frozen?_setCells]; exact hNf _) (fun v hv => oneE l v (List.mem_of_mem_drop hv))
  have HF : ∀ (A B : World), (∀ x, A.cell? x = W1.cell? x) → A.heap = W1.heap → A.os = w.os → A.tape = w.tape → A.output = w.output → B.heap = (A.setCells N (i * 4) (ocells [E])).heap → B.os = w.os → B.tape = w.tape → B.output = w.output → Hid (GE base (.slice (some ⟨b, 0, none⟩) l.length c) (insL l i E) w (.returned (.slice (some ⟨N, 0, none⟩) (l.length + 1) G)) (B.setCells N ((i + 1) * 4) ((ocells l).drop (i * 4)))) := by
    intro A B hA hAh o1 t1 u1 hBh o2 t2 u2
    have hA2 : A.heap[N]? = some (.cells ROW 62 (0, 0)) := by rw [hAh]; exact hblk
    obtain ⟨c1, k1, z1⟩ := setCells_blk N 62 (ocells [E]) (i * 4) A ROW hA2
    rw [← hBh] at k1
    obtain ⟨c2, k2, z2⟩ := setCells_blk N 62 ((ocells l).drop (i * 4)) ((i + 1) * 4) B c1 k1
    have hBc : ∀ x, B.cell? x = (A.setCells N (i * 4) (ocells [E])).cell? x := fun x => by unfold World.cell?; rw [hBh]
    have hAs : ∀ j, j < (ocells [E]).length → (A.cell? ⟨N, i * 4 + j, none⟩).isSome = true := fun j hj => by rw [hA]; exact hs1 j hj
    have hBs : ∀ j, j < ((ocells l).drop (i * 4)).length → (B.cell? ⟨N, (i + 1) * 4 + j, none⟩).isSome = true := fun j hj => by
      rw [hBc, cells_set N _ _ _ hAs]
      split
      · rename_i q; rw [List.getElem?_eq_getElem (by omega)]; rfl
      · rw [hA]; exact hNs _ (by rw [hdl] at hj; omega)
    have g2 := grownSets N ((ocells l).drop (i * 4)) ((i + 1) * 4) B
    have g1 := grownSets N (ocells [E]) (i * 4) A
    have zA : w.heap.size ≤ A.heap.size := by rw [hAh, ← hW1]; exact (allocBelow w.drew (.cells ROW 62)).size
    have kA : ∀ k, k < w.heap.size → A.heap[k]? = w.heap[k]? := fun k hk => by rw [hAh, ← hW1]; exact (allocBelow w.drew (.cells ROW 62)).block k hk
    have hgr : w.grownBy (B.setCells N ((i + 1) * 4) ((ocells l).drop (i * 4))) (some b) := by
      refine ⟨g2.os.trans o2, g2.tape.trans t2, g2.output.trans u2, ?_, fun k hk _ => ?_⟩
      · have e1 := g1.size
        have e2 := g2.size
        rw [← hBh] at e1
        omega
      · have e1 := g1.block k (by omega) (by simp; omega)
        rw [← hBh, kA k hk] at e1
        have hkB : k < B.heap.size := by have e3 := g1.size; rw [← hBh] at e3; omega
        exact (g2.block k hkB (by simp; omega)).trans e1
    refine ⟨_, rfl, ?_, hgr, .inr (by rw [hN0]; rfl)⟩
    rw [insL_length l i E (by omega)]
    refine ownOf (by omega) k2 hGn hGm (by rw [z2, z1, hRs]) (by rw [ocells_length, insL_length l i E (by omega)]) fun j hj => ?_
    rw [insL_cells l i E (by omega), mid_cells (by rw [hcl]; exact Nat.mul_le_mul_right _ (by omega)), hvl]
    rw [cells_set N _ _ _ hBs, hdl]
    by_cases q1 : j < i * 4
    · rw [if_neg (by omega), if_pos q1, hBc, cells_set N _ _ _ hAs, if_neg (by omega), hA, cell_of_row W1 N j _ _ _ hblk, ← hROW]
      exact row_left _ _ _ _ j q1 (by rw [hcl]; exact Nat.mul_le_mul_right _ (by omega))
    · rw [if_neg q1]
      by_cases q2 : j < i * 4 + 4
      · rw [if_pos q2, if_neg (by omega), hBc, cells_set N _ _ _ hAs, hvl, if_pos (by omega)]
      · rw [if_neg q2, if_pos (by omega)]
        rw [show (i + 1) * 4 = i * 4 + 4 by omega]
  rw [hN0] at hrz
  have hz2 : ¬ ((i : Int) = (l.length : Int)) := by omega
  have hq2 : ((i : Int) == (l.length : Int)) = false := beq_eq_false_iff_ne.2 hz2
  have hw1 : IntKind.i64.wrap ((i : Int) + 1) = (i : Int) + 1 := by rw [IntKind.wrap_i64]; omega
  have hw2 : IntKind.i64.wrap ((l.length : Int) + 1) = (l.length : Int) + 1 := by rw [IntKind.wrap_i64]; omega
  have hw3 : IntKind.i64.wrap ((l.length : Int) + 1 - (i : Int)) = (l.length : Int) + 1 - (i : Int) := by rw [IntKind.wrap_i64]; omega
  have hb1 : (0 : Int) ≤ (i : Int) + 1 := by omega
  have hin : i ≤ l.length := by omega
  have hinI : (i : Int) ≤ (l.length : Int) := by omega
  have htn : ((i : Int) + 1).toNat = i + 1 := by omega
  have hic : (i : Int) ≤ (c : Int) := by omega
  have hb3 : (i : Int) ≤ (l.length : Int) + 1 := by omega
  have hb5 : (i : Int) + 1 ≤ (l.length : Int) + 1 := by omega
  have hb7 : (c : Int) < (l.length : Int) + 1 := by omega
  have hGi : ¬ (G = i) := by omega
  have hGim : ¬ (G = i + 1) := by omega
  have hci : ¬ (c = i) := by omega
  have hGI : (i : Int) + 1 ≤ (G : Int) := by omega
  have HLC : Hid (l.length = c) := hlc
  have hGmi : G ≤ 9223372036854775807 := by unfold maxLen at hGm; omega
  have hmn1 : Nat.min (l.length - i) (l.length - i) = l.length - i := Nat.min_self _
  have hmn2 : Nat.min (l.length - i) (l.length + 1 - (i + 1)) = l.length - i := by rw [Nat.add_sub_add_right]; exact hmn1
  have hmn3 : 1 ≤ l.length + 1 - i := by omega
  have hE1 : ∀ x, W1.cell? x = W1.cell? x := fun x => rfl
  have hE2 : ∀ x, W1.frozen? x = W1.frozen? x := fun x => rfl
  have hcA := fun ty dL dc (q : 1 ≤ dL) => hcpA W1 hE1 hE2 ty dL dc q
  have hcB := fun ty dL dc sL sc (q : Nat.min sL dL = l.length - i) => hcpB (W1.setCells N (i * 4) (ocells [E])).drew (drew_cell _) (drew_frozen _) ty dL dc sL sc q
  have hos : W1.os = w.os := by rw [← hW1]; rfl
  have hta : W1.tape = w.tape := by rw [← hW1]; rfl
  have hou : W1.output = w.output := by rw [← hW1]; rfl
  have HQ := HF W1 (W1.setCells N (i * 4) (ocells [E])).drew (fun _ => rfl) rfl hos hta hou (drew_heap _) ((drew_os _).trans ((grownSets N (ocells [E]) (i * 4) W1).os.trans hos)) ((drew_tape _).trans ((grownSets N (ocells [E]) (i * 4) W1).tape.trans hta)) ((drew_output _).trans ((grownSets N (ocells [E]) (i * 4) W1).output.trans hou))
  clear hos hta hou
  rw [hW1] at hrz
  clear hcpA hcpB HF hE1 hE2
  clear hW1 hs1 hsp1 hRs hROW hblk hle hNs hNf hOb hOv hold hik hkk hvs h hv hget hlc hGm hG hzs hzb hz0 hi0 htl hcl hvl hdl hbw hvw
  go_enter Tryd.func56, Tryd.ntmps56
  go_wp2_with (first
    | (at_builtin; refine Lib.wpList_append_run _ rfl _ _ _ _ rfl _ _ rfl rfl _ _ (hrz _) ?_)
    | (at_builtin; refine wpList_copy_run _ rfl _ _ 24 24 rfl _ _ rfl rfl (hcA _ _ _ hmn3) ?_))
  go_region_law (fail)
  all_goals
    go_wp2
    go_ret
    exact HQ.out
end Go.Proofs.YtipdebodanhooaaDoor.En
