/- The contract of spec.l2Table: the specification's table of common lines. No statement is proved here. -/
import Derived.Test.YtmmccpdaklkciaaGreatDoorRows
import Derived.Test.YtmmccpdaklkciaaGreatDoorLemQ
import Derived.Test.YtmmccpdaklkciaaGreatDoorComQ
import Derived.Test.YtmmccpdaklkciaaGreatDoorDTabQ
import Derived.WalkKit
import Derived.ProofKit
import Derived.Below
import Derived.WalkSpells
import Derived.Deep.QuietTactic
import Derived.BigQuiet
namespace Go.Proofs.YtmmccpdaklkciaaGreatDoor
open Go.ChangeShapes Go.WideShapes Go.ChangeAt Go.RowKit

theorem infoI64 : (Tryz.prog.info? 2).map (fun i => (i.zero, i.size, i.bytes)) = some (some (.int .i64 0), 1, 8) := by kernel_rfl
theorem infoRow : (Tryz.prog.info? 250).map (fun i => (i.zero, i.size, i.bytes)) = some (some (.slice none 0 0), 1, 24) := by kernel_rfl

def rowV (M r : Nat) : Value := .slice (some ⟨r, 0, none⟩) M M
def rowL (M : Nat) (f : Nat → Int) : List Value := (List.range M).map fun j => .int .i64 (f j)
theorem rowL_length (M : Nat) (f : Nat → Int) : (rowL M f).length = M := by simp [rowL]
theorem rowL_at (M : Nat) (f : Nat → Int) (j : Nat) (h : j < M) : (rowL M f)[j]? = some (.int .i64 (f j)) := by simp [rowL, h]
theorem rowL_zero (M : Nat) : List.replicate M (Value.int .i64 0) = rowL M (fun _ => 0) := by
  apply List.ext_getElem?
  intro j
  by_cases h : j < M
  · rw [rowL_at M _ j h, List.getElem?_replicate, if_pos h]
  · rw [List.getElem?_eq_none (by simp; omega), List.getElem?_eq_none (by rw [rowL_length]; omega)]
theorem rowL_set (M : Nat) (T : Nat → Nat → Int) (i j : Nat) (v : Int) (h : j < M) : (rowL M (T i)).set j (.int .i64 v) = rowL M (putC T i j v i) := by
  apply List.ext_getElem?
  intro j'
  by_cases hj' : j' < M
  · rw [rowL_at M _ j' hj', List.getElem?_set]
    by_cases e : j = j'
    · subst e; rw [if_pos rfl, if_pos (by rw [rowL_length]; exact h), putC_same]
    · rw [if_neg e, rowL_at M _ j' hj', putC_other _ _ _ _ _ _ (fun c => e c.2.symm)]
  · rw [List.getElem?_eq_none (by rw [List.length_set, rowL_length]; omega), List.getElem?_eq_none (by rw [rowL_length]; omega)]
theorem rowL_congr (M : Nat) (f g : Nat → Int) (h : ∀ j, j < M → f j = g j) : rowL M f = rowL M g := by
  unfold rowL
  apply List.map_congr_left
  intro j hj
  rw [h j (List.mem_range.1 hj)]

/-- k rows of M numbers each, the rows in blocks of their own. -/
structure Tab (base M : Nat) (w : World) (g c k : Nat) (rs : List Nat) (T : Nat → Nat → Int) : Prop where
  len : rs.length = k
  nodup : rs.Nodup
  pos : 0 < M
  outer : w.ownsRow base 250 1 (.slice (some ⟨g, 0, none⟩) k c) k (rs.map (rowV M))
  rows : ∀ i, i < k → w.ownsRow base 2 1 (rowV M (rs.getD i 0)) M (rowL M (T i))
theorem typeOfRow {w : World} {base g n cap : Nat} {e : TypeId} {xs : List Value} (h : w.ownsRow base e 1 (.slice (some ⟨g, 0, none⟩) n cap) n xs) : ∃ cs f, w.heap[g]? = some (.cells cs e f) := by
  rcases h.2 with ⟨h', _⟩ | ⟨g', c, cur, h', _, hh, _⟩
  · simp at h'
  · simp only [Value.slice.injEq, Option.some.injEq, Addr.mk.injEq] at h'
    obtain ⟨⟨rfl, _⟩, _⟩ := h'
    exact ⟨_, _, hh⟩
theorem Tab.apart {base M : Nat} {w : World} {g c k : Nat} {rs : List Nat} {T : Nat → Nat → Int} (h : Tab base M w g c k rs T) (i : Nat) (hi : i < k) : rs.getD i 0 ≠ g := by
  intro e
  obtain ⟨cs, f, h1⟩ := typeOfRow h.outer
  obtain ⟨cs', f', h2⟩ := typeOfRow (h.rows i hi)
  rw [e, h1] at h2
  simp only [Option.some.injEq, Obj.cells.injEq] at h2
  exact absurd h2.2.1 (by decide)
theorem Tab.c1 {base M : Nat} {w : World} {g c k : Nat} {rs : List Nat} {T : Nat → Nat → Int} (h : Tab base M w g c k rs T) (i : Nat) (hi : i < k) : w.cell? ⟨g, i, none⟩ = some (.slice (some ⟨rs.getD i 0, 0, none⟩) M M) := by
  rw [h.outer.cellAt i (by omega)]
  have := h.len
  simp [List.getD, rowV, show i < rs.length by omega]
theorem Tab.c2 {base M : Nat} {w : World} {g c k : Nat} {rs : List Nat} {T : Nat → Nat → Int} (h : Tab base M w g c k rs T) (i j : Nat) (hi : i < k) (hj : j < M) : w.cell? ⟨rs.getD i 0, j, none⟩ = some (.int .i64 (T i j)) := by
  rw [(h.rows i hi).cellAt j (by omega), rowL_at M _ j hj]
theorem Tab.f2 {base M : Nat} {w : World} {g c k : Nat} {rs : List Nat} {T : Nat → Nat → Int} (h : Tab base M w g c k rs T) (i j : Nat) (hi : i < k) (_hj : j < M) : w.frozen? ⟨rs.getD i 0, j, none⟩ = false := (h.rows i hi).frozenAt j
theorem Tab.ge {base M : Nat} {w : World} {g c k : Nat} {rs : List Nat} {T : Nat → Nat → Int} (h : Tab base M w g c k rs T) (i : Nat) (hi : i < k) : base ≤ rs.getD i 0 ∧ rs.getD i 0 < w.heap.size := (h.rows i hi).lt _ rfl
theorem Tab.drewN {base M : Nat} {w : World} {g c k : Nat} {rs : List Nat} {T : Nat → Nat → Int} (h : Tab base M w g c k rs T) (n : Nat) : Tab base M (w.drewN n) g c k rs T := ⟨h.len, h.nodup, h.pos, h.outer, h.rows⟩
theorem Tab.below {base M : Nat} {w w' : World} {g c k : Nat} {rs : List Nat} {T : Nat → Nat → Int} (h : Tab base M w g c k rs T) (hb : Below w.heap.size w w') : Tab base M w' g c k rs T :=
  ⟨h.len, h.nodup, h.pos, h.outer.kept (grownOfBelow hb none) (.inr (by simp [Value.ownBlock])), fun i hi => (h.rows i hi).kept (grownOfBelow hb none) (.inr (by simp [rowV, Value.ownBlock]))⟩
theorem Tab.set {base M : Nat} {w : World} {g c k : Nat} {rs : List Nat} {T : Nat → Nat → Int} (h : Tab base M w g c k rs T) (i j : Nat) (hi : i < k) (hj : j < M) (v : Int) :
    Tab base M (w.setCell ⟨rs.getD i 0, j, none⟩ (.int .i64 v)) g c k rs (putC T i j v) := by
  have hg := grownSet w (rs.getD i 0) j (.int .i64 v)
  have hl := h.len
  refine ⟨h.len, h.nodup, h.pos, h.outer.kept hg (.inr ?_), fun i' hi' => ?_⟩
  · have := h.apart i hi
    simp [Value.ownBlock]; exact fun e => this e.symm
  · by_cases e : i' = i
    · subst e
      have := ((h.rows i' hi).stored j (.int .i64 v)).1
      rw [rowL_set M T i' j v hj] at this
      exact this
    · have hne : rs.getD i' 0 ≠ rs.getD i 0 := by
        intro c
        have a1 : rs.getD i' 0 = rs[i'] := by simp [List.getD, show i' < rs.length by omega]
        have a2 : rs.getD i 0 = rs[i] := by simp [List.getD, show i < rs.length by omega]
        rw [a1, a2] at c
        exact e ((List.getElem_inj h.nodup).1 c)
      have := (h.rows i' hi').kept hg (.inr (by simp [rowV, Value.ownBlock]; exact hne))
      rw [rowL_congr M (T i') (putC T i j v i') (fun j' _ => (putC_other _ _ _ _ _ _ (fun c => e c.1)).symm)] at this
      exact this

set_option maxHeartbeats 400000 in
theorem l1Max (a b : Int) (w : World) : Calls Tryz.prog 267 #[.int .i64 a, .int .i64 b] w fun e w' => e = .returned (.int .i64 (max a b)) ∧ w' = w := by
  by_cases h : b < a
  · have hm : Hid (max a b = a) := by show max a b = a; omega
    go_enter Tryz.func267, Tryz.ntmps267
    go_wp2
    go_ret
    exact ⟨ret_int hm.out.symm, rfl⟩
  · have hm : Hid (max a b = b) := by show max a b = b; omega
    go_enter Tryz.func267, Tryz.ntmps267
    go_wp2
    go_ret
    exact ⟨ret_int hm.out.symm, rfl⟩

theorem ownSucc {W : World} {base : Nat} {e : TypeId} {v : Value} {k : Nat} {xs : List Value} (h : W.ownsRow base e 1 v (k + 1) xs) : ∃ g cap, v = .slice (some ⟨g, 0, none⟩) (k + 1) cap := by
  rcases h.2 with ⟨_, h0⟩ | ⟨g, c, cur, h', _⟩
  · omega
  · exact ⟨g, c, h'⟩
/-- What l2Table leaves. -/
def TabPost (w : World) (xs ys : List ByteArray) (e : Ending) (w' : World) : Prop :=
  ∃ g c rs T, e = .returned (.slice (some ⟨g, 0, none⟩) (xs.length + 1) c) ∧ Tab w.heap.size (ys.length + 1) w' g c (xs.length + 1) rs T ∧ (∀ i j, i ≤ xs.length → j ≤ ys.length → T i j = (comAt xs ys i j : Int)) ∧ Below w.heap.size w w'
def TabAt (base : Nat) (xs ys : List ByteArray) (g c : Nat) (rs : List Nat) (k : Nat) (w : World) : Prop :=
  ∃ T, Tab base (ys.length + 1) w g c (xs.length + 1) rs T ∧ (∀ i j, k ≤ i → i ≤ xs.length → j ≤ ys.length → T i j = (comAt xs ys i j : Int)) ∧ (∀ i j, i < k → T i j = 0)
def TabIn (base : Nat) (xs ys : List ByteArray) (g c : Nat) (rs : List Nat) (i k : Nat) (w : World) : Prop :=
  ∃ T, Tab base (ys.length + 1) w g c (xs.length + 1) rs T ∧ (∀ i' j, i < i' ∨ (i' = i ∧ k ≤ j) → i' ≤ xs.length → j ≤ ys.length → T i' j = (comAt xs ys i' j : Int)) ∧ (∀ i' j, i' < i → T i' j = 0)

set_option maxRecDepth 20000 in
set_option maxHeartbeats 4000000 in
theorem l2Table (a1 a2 : Option Addr) (c1 c2 : Nat) (xs ys : List ByteArray) (w : World) (h1 : SS w a1 xs) (h2 : SS w a2 ys) (n1 : xs.length ≤ 100) (n2 : ys.length ≤ 100) :
    Calls Tryz.prog 252 #[.slice a1 xs.length c1, .slice a2 ys.length c2] w fun e w' => TabPost w xs ys e w' := by
  obtain ⟨i0, hi, hz0, hz1, hz2⟩ := info_parts infoI64
  obtain ⟨i1, hi', hy0, hy1, hy2⟩ := info_parts infoRow
  go_enter Tryz.func252, Tryz.ntmps252
  go_wp2
  go_loopw [5, 6] (fun v i wr => ∃ (k g c : Nat) (rs : List Nat), k ≤ xs.length + 1 ∧ i = .int .i64 k ∧ v = .slice (some ⟨g, 0, none⟩) k c ∧ Tab w.heap.size (ys.length + 1) wr g c k rs (fun _ _ => 0) ∧ Below w.heap.size w wr) (fun _ i _ => xs.length + 1 - (intOf i).toNat)
  case atStart =>
    refine ⟨0, w.heap.size, 0, [], Nat.zero_le _, rfl, rfl, ⟨rfl, List.nodup_nil, by omega, ?_, fun i hi => absurd hi (Nat.not_lt_zero _)⟩, (Below.refl _ _).alloc (Nat.le_refl _) _⟩
    exact World.ownsRow_lit w #[] 0 (Nat.le_refl _) (Nat.zero_le _) rfl
  case round =>
    obtain ⟨k, g, c, rs, hk, rfl, rfl, hT, hbel⟩ := hrel
    have hbs := hbel.size
    by_cases hlt : k ≤ xs.length
    · have q1 : (k : Int) ≤ (xs.length : Int) := by omega
      go_wp2_with (first | (at_make; refine wpList_make_full _ rfl (.tmp 20) (.tmp 20) 250 rfl w.heap.size 2 i0 (.int .i64 0) 1 Tryz.underlying250 hi hz0 hz1 .i64 .i64 _ _ (ys.length + 1) rfl rfl (by omega) (by omega) (by rw [hz2]; omega) (by unfold maxLen; omega) hbs ?_; intro w1 hown1 hg1; have hg1s := hg1.size) | (at_builtin; refine wpList_append_own _ rfl (.tmp 17) (.tmp 22) 300 rfl w.heap.size 250 i1 (.slice none 0 0) 1 24 Tryz.underlying300 hi' hy0 hy1 hy2 rfl (by decide) (.slice (some ⟨g, 0, none⟩) k c) _ _ rfl ((hT.outer.kept hg1 (.inr (by simp [Value.ownBlock]))).alloc _) ⟨w1.heap.size, 0, none⟩ 1 1 [.slice (some ⟨wr.heap.size, 0, none⟩) (ys.length + 1) (ys.length + 1)] rfl rfl (cell_one_new _ _ _) (by simp [Value.oneCell']) (by unfold maxLen; omega) (by omega) (by simp; omega) ?_; intro v' w2 hown2 hg2 _; obtain ⟨g', c', rfl⟩ := ownSucc hown2))
      have hgl := hT.outer.lt g rfl
      have hr1 : w1.ownsRow w.heap.size 2 1 (rowV (ys.length + 1) wr.heap.size) (ys.length + 1) (rowL (ys.length + 1) (fun _ => 0)) := by
        rw [← rowL_zero]
        simpa [Value.cells, toList_madeCells_one, rowV] using hown1
      have hgj : ∀ j, (Value.slice (some ⟨g, 0, none⟩) k c).ownBlock = some j → w.heap.size ≤ j := by
        intro j hj
        have e : g = j := by simpa [Value.ownBlock] using hj
        omega
      have hb2 : Below w.heap.size w w2 := ((hbel.grown hg1 hbs (by intro k h; cases h)).alloc (by omega) _).grown hg2 (by simp; omega) hgj
      have HT2 : Hid (Tab w.heap.size (ys.length + 1) w2 g' c' (k + 1) (rs ++ [wr.heap.size]) (fun _ _ => 0)) := by
        have hl := hT.len
        refine ⟨by simp [hl], ?_, by omega, by simpa [rowV] using hown2, fun i hik => ?_⟩
        · rw [List.nodup_append]
          refine ⟨hT.nodup, by simp, ?_⟩
          intro a ha b hb
          simp only [List.mem_singleton] at hb
          obtain ⟨i, hi1, rfl⟩ := List.getElem_of_mem ha
          have := (hT.ge i (by omega)).2
          have e : rs.getD i 0 = rs[i] := by simp [List.getD, hi1]
          omega
        · by_cases hik' : i < k
          · have e : (rs ++ [wr.heap.size]).getD i 0 = rs.getD i 0 := by simp [List.getD, List.getElem?_append_left (show i < rs.length by omega)]
            rw [e]
            have := hT.apart i hik'
            exact (((hT.rows i hik').kept hg1 (.inr (by simp [rowV, Value.ownBlock]))).alloc _).kept hg2 (.inr (by simp [rowV, Value.ownBlock]; exact this))
          · have hik2 : i = k := by omega
            subst hik2
            have e : (rs ++ [wr.heap.size]).getD i 0 = wr.heap.size := by simp [List.getD, ← hl]
            rw [e]
            exact (hr1.alloc _).kept hg2 (.inr (by simp [rowV, Value.ownBlock]; omega))
      clear hown1 hown2 hr1 hT hbel hg1 hg2
      go_roundw
      case rel => exact ⟨k + 1, g', c', _, by omega, by go_num, rfl, HT2.out, hb2⟩
      case measure => first | (simp [intOf]; omega) | simp [intOf]
    · have q1 : ¬ (k : Int) ≤ (xs.length : Int) := by omega
      obtain rfl : k = xs.length + 1 := by omega
      clear hi hz0 hz1 hz2 hi' hy0 hy1 hy2 hlt hk
      go_wp2
      clear q1
      go_loopw [7] (fun i wr => ∃ k : Nat, k ≤ xs.length ∧ i = .int .i64 ((k : Int) - 1) ∧ TabAt w.heap.size xs ys g c rs k wr ∧ Below w.heap.size w wr) (fun i _ => (intOf i + 1).toNat)
      case atStart =>
        refine ⟨xs.length, Nat.le_refl _, by go_num, ⟨_, hT, ?_, fun _ _ _ => rfl⟩, hbel⟩
        intro i j h1 h2 h3
        rw [comAt_end_left xs ys i j h1]; rfl
      case round =>
        clear hT hbel hbs
        obtain ⟨k, hk, hv, hF, hbel⟩ := hrel
        cases k with
        | zero =>
          obtain rfl : u7 = .int .i64 (-1) := hv
          have HF : Hid (TabPost w xs ys (.returned (.slice (some ⟨g, 0, none⟩) (xs.length + 1) c)) wr) := by
            obtain ⟨T, hT, hc, _⟩ := hF
            exact ⟨g, c, rs, T, rfl, hT, fun i j h1 h2 => hc i j (Nat.zero_le _) h1 h2, hbel⟩
          clear hF hbel
          go_wp2
          go_ret
          exact HF.out
        | succ i =>
          obtain rfl : u7 = .int .i64 (i : Int) := by rw [hv]; congr 1; omega
          clear hv
          go_wp2
          go_loopw [8] (fun j wr => ∃ k : Nat, k ≤ ys.length ∧ j = .int .i64 ((k : Int) - 1) ∧ TabIn w.heap.size xs ys g c rs i k wr ∧ Below w.heap.size w wr) (fun j _ => (intOf j + 1).toNat)
          case atStart =>
            refine ⟨ys.length, Nat.le_refl _, by go_num, ?_, hbel⟩
            obtain ⟨T, hT, hc, hz⟩ := hF
            refine ⟨T, hT, ?_, fun i' j h => hz i' j (by omega)⟩
            intro i' j h h1 h2
            by_cases e : i < i'
            · exact hc i' j (by omega) h1 h2
            · rw [hz i' j (by omega), comAt_end_right xs ys i' j (by omega)]; rfl
          case round =>
            clear hF hbel
            obtain ⟨k, hkj, hv, hF, hbel⟩ := hrel
            cases k with
            | zero =>
              obtain rfl : u8 = .int .i64 (-1) := hv
              have HF : Hid (TabAt w.heap.size xs ys g c rs i wr) := by
                obtain ⟨T, hT, hc, hz⟩ := hF
                exact ⟨T, hT, fun i' j h1 h2 h3 => hc i' j (by omega) h2 h3, hz⟩
              have HB : Hid (Below w.heap.size w wr) := hbel
              clear hF hbel hkj h1 h2
              go_wp2
              go_roundw
              case rel => exact ⟨i, by omega, by go_num, HF.out, HB.out⟩
              case measure => first | (simp [intOf]; omega) | simp [intOf]
            | succ j =>
              obtain rfl : u8 = .int .i64 (j : Int) := by rw [hv]; congr 1; omega
              clear hv
              have h1' := h1.below hbel
              have h2' := h2.below hbel
              obtain ⟨b, off, rfl, hb, hc⟩ := h1'.2 i hk
              obtain ⟨b', off', rfl, hb', hc'⟩ := h2'.2 j hkj
              obtain ⟨s, hse⟩ : ∃ s, s = xs.getD i ByteArray.empty := ⟨_, rfl⟩
              obtain ⟨t, hte⟩ : ∃ t, t = ys.getD j ByteArray.empty := ⟨_, rfl⟩
              rw [← hse] at hc
              rw [← hte] at hc'
              have HS : Hid (s = xs.getD i ByteArray.empty) := hse
              have HT : Hid (t = ys.getD j ByteArray.empty) := hte
              clear hse hte h1' h2'
              have q1 : (i : Int) < (xs.length : Int) := by omega
              have q2 : (j : Int) < (ys.length : Int) := by omega
              obtain ⟨T, hT, hcd, hz⟩ := hF
              have d1 := hT.c1 (i + 1) (by omega)
              have d2 := hT.c2 (i + 1) j (by omega) (by omega)
              have d3 := hT.c1 i (by omega)
              have d4 := hT.c2 i (j + 1) (by omega) (by omega)
              have d5 := hT.c2 (i + 1) (j + 1) (by omega) (by omega)
              have d6 := hT.c2 i j (by omega) (by omega)
              have f6 := hT.f2 i j (by omega) (by omega)
              have hge := (hT.ge i (by omega)).1
              rw [hcd (i + 1) j (by omega) (by omega) (by omega)] at d2
              rw [hcd i (j + 1) (by omega) (by omega) (by omega)] at d4
              rw [hcd (i + 1) (j + 1) (by omega) (by omega) (by omega)] at d5
              have hset := fun n v => (hT.drewN n).set i j (by omega) (by omega) v
              have hbet := fun n v => (below_drewN' hbel n).setCell (p := ⟨rs.getD i 0, j, none⟩) hge v
              have HN : ∀ n, Hid (TabIn w.heap.size xs ys g c rs i j ((wr.drewN n).setCell ⟨rs.getD i 0, j, none⟩ (.int .i64 (comAt xs ys i j : Int)))) := by
                intro n
                refine ⟨_, hset n _, ?_, ?_⟩
                · intro i' j' hij h1 h2
                  by_cases e : i' = i ∧ j' = j
                  · obtain ⟨rfl, rfl⟩ := e; rw [putC_same]
                  · rw [putC_other _ _ _ _ _ _ e]; exact hcd i' j' (by omega) h1 h2
                · intro i' j' hi'
                  rw [putC_other _ _ _ _ _ _ (by omega)]; exact hz i' j' hi'
              have HB : ∀ n, Hid (Below w.heap.size w ((wr.drewN n).setCell ⟨rs.getD i 0, j, none⟩ (.int .i64 (comAt xs ys i j : Int)))) := fun n => hbet n _
              clear hset hbet hcd hz hT hbel h1 h2
              obtain ⟨r, hr⟩ : ∃ r, rs.getD i 0 = r := ⟨_, rfl⟩
              obtain ⟨r1, hr1⟩ : ∃ r, rs.getD (i + 1) 0 = r := ⟨_, rfl⟩
              rw [hr] at d3 d4 d6 f6 hge
              rw [hr1] at d1 d2 d5
              simp only [hr] at HN HB
              clear hr hr1
              have hv1 := (comAt_le xs ys (i + 1) (j + 1)).1
              by_cases hst : s = t
              · have hbe := beq_bytes_true hst
                have hbest := comAt_best_eq xs ys i j hk hkj (by rw [← HS.out, ← HT.out]; exact hst)
                have HBE : Hid (max (max (comAt xs ys (i + 1) j : Int) (comAt xs ys i (j + 1) : Int)) (1 + (comAt xs ys (i + 1) (j + 1) : Int)) = (comAt xs ys i j : Int)) := by
                  show _ = _
                  rw [← hbest]; omega
                clear hst hbest HS HT
                obtain ⟨A, hA⟩ : ∃ A : Int, (comAt xs ys (i + 1) j : Int) = A := ⟨_, rfl⟩
                obtain ⟨B, hB⟩ : ∃ B : Int, (comAt xs ys i (j + 1) : Int) = B := ⟨_, rfl⟩
                obtain ⟨C, hC⟩ : ∃ C : Int, (comAt xs ys (i + 1) (j + 1) : Int) = C := ⟨_, rfl⟩
                obtain ⟨D, hD⟩ : ∃ D : Int, (comAt xs ys i j : Int) = D := ⟨_, rfl⟩
                have hC1 : C ≤ 100 ∧ 0 ≤ C := by omega
                rw [hA] at d2 HBE
                rw [hB] at d4 HBE
                rw [hC] at d5 HBE
                rw [hD] at HBE
                simp only [hD] at HN HB
                clear hA hB hC hD hv1
                obtain ⟨C0, C1⟩ := hC1
                go_wp2
                go_quiet ((go_at_call 267; exact Calls.quiet_of_same (l1Max _ _ _)))
                go_wp2
                go_quiet (fail)
                go_wp2_with (go_at_call 267; refine (l1Max _ _ _).mono ?_; rintro e w' ⟨rfl, rfl⟩; rw [HBE.out])
                go_roundw
                case rel => exact ⟨j, by omega, by go_num, (HN _).out, (HB _).out⟩
                case measure => first | (simp [intOf]; omega) | simp [intOf]
              · have hbe := beq_bytes_false hst
                have hbest := comAt_ne xs ys i j hk hkj (by rw [← HS.out, ← HT.out]; exact hst)
                have HBE : Hid (max (comAt xs ys (i + 1) j : Int) (comAt xs ys i (j + 1) : Int) = (comAt xs ys i j : Int)) := by
                  show _ = _
                  rw [hbest]; omega
                clear hst hbest HS HT
                obtain ⟨A, hA⟩ : ∃ A : Int, (comAt xs ys (i + 1) j : Int) = A := ⟨_, rfl⟩
                obtain ⟨B, hB⟩ : ∃ B : Int, (comAt xs ys i (j + 1) : Int) = B := ⟨_, rfl⟩
                obtain ⟨D, hD⟩ : ∃ D : Int, (comAt xs ys i j : Int) = D := ⟨_, rfl⟩
                rw [hA] at d2 HBE
                rw [hB] at d4 HBE
                rw [hD] at HBE
                simp only [hD] at HN HB
                clear hA hB hD hv1 d5
                have hM : ∀ w, Calls Tryz.prog 267 #[.int .i64 A, .int .i64 B] w fun e w' => e = .returned (.int .i64 D) ∧ w' = w := fun w => by
                  have := l1Max A B w
                  rw [HBE.out] at this
                  exact this
                go_wp2
                go_quiet ((go_at_call 267; exact Calls.quiet_of_same (hM _)))
                go_wp2
                go_quiet (fail)
                go_wp2
                go_roundw
                case rel => exact ⟨j, by omega, by go_num, (HN _).out, (HB _).out⟩
                case measure => first | (simp [intOf]; omega) | simp [intOf]
end Go.Proofs.YtmmccpdaklkciaaGreatDoor
/- The contract of the program's (*diffTable).fill: the table of common lines, and how many there are. No statement is proved here. -/
namespace Go.Proofs.YtmmccpdaklkciaaGreatDoor
open Go.ChangeShapes Go.WideShapes Go.ChangeAt Go.RowKit

/-- The table with the rows from k on done. -/
def FillAt (p : Nat) (xs ys : List ByteArray) (k : Nat) (w : World) : Prop :=
  ∃ cm sk, DT w p cm sk ∧ (∀ j, j < 101 → cm (k % 2) j = (comAt xs ys k j : Int)) ∧
    (∀ i j, k ≤ i → i < xs.length → j < ys.length → ¬ xs.getD i ByteArray.empty = ys.getD j ByteArray.empty → sk i j = skipA xs ys i j)
/-- The table with the rows behind i done, and of row i the places from k on. -/
def FillIn (p : Nat) (xs ys : List ByteArray) (i k : Nat) (w : World) : Prop :=
  ∃ cm sk, DT w p cm sk ∧ (∀ j, j < 101 → cm ((i + 1) % 2) j = (comAt xs ys (i + 1) j : Int)) ∧ (∀ j, k ≤ j → j < 101 → cm (i % 2) j = (comAt xs ys i j : Int)) ∧
    (∀ i' j, i < i' ∨ (i' = i ∧ k ≤ j) → i' < xs.length → j < ys.length → ¬ xs.getD i' ByteArray.empty = ys.getD j ByteArray.empty → sk i' j = skipA xs ys i' j)
theorem tmod2 (i : Nat) : Int.tmod (i : Int) 2 = ((i % 2 : Nat) : Int) := by rw [Int.tmod_eq_emod_of_nonneg (by omega)]; omega

set_option maxRecDepth 20000 in
set_option maxHeartbeats 3000000 in
theorem fill (p : Nat) (a1 a2 : Option Addr) (c1 c2 : Nat) (xs ys : List ByteArray) (w : World) (h0 : DT w p (fun _ _ => 0) (fun _ _ => false)) (h1 : SSB p w a1 xs) (h2 : SSB p w a2 ys) (n1 : xs.length ≤ 100) (n2 : ys.length ≤ 100) :
    Calls Tryz.prog 247 #[.pointer (some ⟨p, 0, none⟩), .slice a1 xs.length c1, .slice a2 ys.length c2] w fun e w' => e = .returned (.int .i64 (comAt xs ys 0 0 : Int)) ∧ FillAt p xs ys 0 w' ∧ w.grownBy w' (some p) := by
  go_enter Tryz.func247, Tryz.ntmps247
  go_wp2
  go_loopw [7] (fun i wr => ∃ k : Nat, k ≤ xs.length ∧ i = .int .i64 ((k : Int) - 1) ∧ FillAt p xs ys k wr ∧ w.grownBy wr (some p)) (fun i _ => (intOf i + 1).toNat)
  case atStart => exact ⟨xs.length, Nat.le_refl _, by go_num, ⟨_, _, h0, fun j _ => by rw [comAt_end_left xs ys _ _ (Nat.le_refl _)]; rfl, fun i j hi hi' => absurd hi (by omega)⟩, World.grownBy.refl _ _⟩
  case round =>
    obtain ⟨k, hk, hv, hF, hgr⟩ := hrel
    cases k with
    | zero =>
      obtain rfl : u7 = .int .i64 (-1) := hv
      have HF : Hid (FillAt p xs ys 0 wr) := hF
      obtain ⟨cm, sk, hD, hc, hs⟩ := hF
      have c00 := (hD.1 0 0 (by omega) (by omega)).1
      rw [hc 0 (by omega)] at c00
      clear hD hc hs
      go_wp2
      go_ret
      exact ⟨rfl, HF.out, hgr⟩
    | succ i =>
      obtain rfl : u7 = .int .i64 (i : Int) := by rw [hv]; congr 1; omega
      obtain ⟨cm, sk, hD, hc, hs⟩ := hF
      have t1 := tmod2 i
      have t2 : Int.tmod ((i : Int) + 1) 2 = (((i + 1) % 2 : Nat) : Int) := tmod2 (i + 1)
      obtain ⟨r, hr⟩ : ∃ r, i % 2 = r := ⟨_, rfl⟩
      obtain ⟨r', hr'⟩ : ∃ r', (i + 1) % 2 = r' := ⟨_, rfl⟩
      have hr2 : r < 2 := by omega
      have hr2' : r' < 2 := by omega
      have HR : Hid (i % 2 = r) := hr
      have HR' : Hid ((i + 1) % 2 = r') := hr'
      rw [hr] at t1
      rw [hr'] at t2 hc
      clear hr hr' hv
      go_wp2
      go_quiet (fail)
      have hcl := fun ty => clearRow (hD.drewN nq) r hr2 ty
      have hD1 := (hD.drewN nq).clr r hr2
      have hg1 := grownTrans (grownDrew hgr nq) (grownSets p (List.replicate 101 (.int .i64 0)) (r * 101) _)
      obtain ⟨W1, hW1⟩ : ∃ W1, (wr.drewN nq).setCells p (r * 101) (List.replicate 101 (.int .i64 0)) = W1 := ⟨_, rfl⟩
      rw [hW1] at hD1 hg1 
      simp only [hW1] at hcl
      clear hW1 hD hgr
      go_wp2
      clear hcl
      go_loopw [10] (fun j wr => ∃ k : Nat, k ≤ ys.length ∧ j = .int .i64 ((k : Int) - 1) ∧ FillIn p xs ys i k wr ∧ w.grownBy wr (some p)) (fun j _ => (intOf j + 1).toNat)
      case atStart =>
        refine ⟨ys.length, Nat.le_refl _, by go_num, ⟨_, _, hD1, ?_, ?_, ?_⟩, hg1⟩
        · intro j hj
          rw [HR'.out, ← hc j hj]
          have := HR.out
          have := HR'.out
          simp only [putR]
          rw [if_neg (by omega)]
        · intro j hj _
          rw [HR.out, comAt_end_right xs ys i j hj]
          simp [putR]
        · intro i' j hij
          rcases hij with h | ⟨h, h'⟩
          · exact hs i' j (by omega)
          · intro _ hj; omega
      case round =>
        clear hD1 hc hs hg1 t1 t2
        obtain ⟨k, hkj, hv, hF, hgr⟩ := hrel
        cases k with
        | zero =>
          obtain rfl : u10 = .int .i64 (-1) := hv
          have HF : Hid (FillAt p xs ys i wr) := by
            show FillAt p xs ys i wr
            obtain ⟨cm, sk, hD, _, hc, hs⟩ := hF
            exact ⟨cm, sk, hD, fun j hj => hc j (Nat.zero_le _) hj, fun i' j hi hi' hj hne => hs i' j (by omega) hi' hj hne⟩
          have HG : Hid (w.grownBy wr (some p)) := hgr
          clear hF hgr HR HR' h0 h1 h2 hr2 hr2' hkj
          go_wp2
          go_roundw
          case rel => exact ⟨i, by omega, by go_num, HF.out, HG.out⟩
          case measure => first | (simp [intOf]; omega) | simp [intOf]
        | succ j =>
          obtain rfl : u10 = .int .i64 (j : Int) := by rw [hv]; congr 1; omega
          clear hv
          have h1' := h1.grown hgr (fun _ e => by cases e; exact Nat.le_refl _)
          have h2' := h2.grown hgr (fun _ e => by cases e; exact Nat.le_refl _)
          obtain ⟨b, off, rfl, hb, hc⟩ := h1'.2 i hk
          obtain ⟨b', off', rfl, hb', hc'⟩ := h2'.2 j hkj
          obtain ⟨s, hse⟩ : ∃ s, s = xs.getD i ByteArray.empty := ⟨_, rfl⟩
          obtain ⟨t, hte⟩ : ∃ t, t = ys.getD j ByteArray.empty := ⟨_, rfl⟩
          rw [← hse] at hc
          rw [← hte] at hc'
          have HS : Hid (s = xs.getD i ByteArray.empty) := hse
          have HT : Hid (t = ys.getD j ByteArray.empty) := hte
          clear hse hte h1' h2'
          have q1 : (i : Int) < (xs.length : Int) := by omega
          have q2 : (j : Int) < (ys.length : Int) := by omega
          obtain ⟨cm, sk, hD, hcb, hcr, hs⟩ := hF
          rw [HR'.out] at hcb
          rw [HR.out] at hcr
          have e1 := (hD.1 r' (j + 1) hr2' (by omega)).1
          have e2 := (hD.1 r j hr2 (by omega)).1
          have f2 := (hD.1 r j hr2 (by omega)).2
          rw [hcb (j + 1) (by omega)] at e1
          have hb1 := (comAt_le xs ys (i + 1) (j + 1)).1
          by_cases hst : s = t
          · have HST : Hid (s = t) := hst
            have hbe := beq_bytes_true hst
            clear hst
            go_wp2
            go_quiet (fail)
            go_wp2
            go_region
            have hD1 := (hD.drewN (nq + 1)).setC r j hr2 (by omega) ((comAt xs ys (i + 1) (j + 1) : Int) + 1)
            have hg1 := grownTrans (grownDrew hgr (nq + 1)) (grownSet _ p (r * 101 + j) (.int .i64 ((comAt xs ys (i + 1) (j + 1) : Int) + 1)))
            obtain ⟨W1, hW1⟩ : ∃ W1, (wr.drewN (nq + 1)).setCell ⟨p, r * 101 + j, none⟩ (.int .i64 ((comAt xs ys (i + 1) (j + 1) : Int) + 1)) = W1 := ⟨_, rfl⟩
            rw [hW1] at hD1 hg1 ⊢
            have heq : comAt xs ys i j = comAt xs ys (i + 1) (j + 1) + 1 := comAt_eq xs ys i j hk hkj (by rw [← HS.out, ← HT.out]; exact HST.out)
            have HF : Hid (FillIn p xs ys i j W1) := by
              refine ⟨_, _, hD1, ?_, ?_, ?_⟩
              · intro j' hj'
                rw [HR'.out]
                have := HR.out
                have := HR'.out
                rw [putC_other _ _ _ _ _ _ (by omega)]
                exact hcb j' hj'
              · intro j' hj1 hj2
                rw [HR.out]
                by_cases e : j' = j
                · subst e; rw [putC_same, heq]; omega
                · rw [putC_other _ _ _ _ _ _ (fun c => e c.2)]; exact hcr j' (by omega) hj2
              · intro i' j' hij hi' hj' hne
                by_cases e : i' = i ∧ j' = j
                · obtain ⟨rfl, rfl⟩ := e
                  exact absurd (by rw [← HS.out, ← HT.out]; exact HST.out) hne
                · exact hs i' j' (by omega) hi' hj' hne
            clear hD1 hW1 heq hcb hcr hs hD e1 e2 f2 HS HT HST hgr hb1
            go_wp2
            go_roundw
            case rel => exact ⟨j, by omega, by go_num, HF.out, hg1⟩
            case measure => first | (simp [intOf]; omega) | simp [intOf]
          · have HST : Hid (¬ s = t) := hst
            have hbe := beq_bytes_false hst
            clear hst
            have g1 := (hD.1 r' j hr2' (by omega)).1
            have g2 := (hD.1 r (j + 1) hr2 (by omega)).1
            rw [hcb j (by omega)] at g1
            rw [hcr (j + 1) (by omega) (by omega)] at g2
            have k2 := (hD.2 i j (by omega) (by omega)).1
            have k3 := (hD.2 i j (by omega) (by omega)).2
            have q3 : (i : Int) < 100 := by omega
            have q4 : (j : Int) < 100 := by omega
            go_wp2
            go_quiet (fail)
            go_wp2
            go_region
            have hD1 := (hD.drewN (nq + 1)).setS i j (by omega) (by omega) (decide (comAt xs ys i (j + 1) ≤ comAt xs ys (i + 1) j))
            have hg1 := grownTrans (grownDrew hgr (nq + 1)) (grownSet _ p (202 + i * 100 + j) (.bool (decide (comAt xs ys i (j + 1) ≤ comAt xs ys (i + 1) j))))
            obtain ⟨W1, hW1⟩ : ∃ W1, (wr.drewN (nq + 1)).setCell ⟨p, 202 + i * 100 + j, none⟩ (.bool (decide (comAt xs ys i (j + 1) ≤ comAt xs ys (i + 1) j))) = W1 := ⟨_, rfl⟩
            rw [hW1] at hD1 hg1 ⊢
            clear hW1 g1 g2 k2 k3 e1 e2 f2 hc hc' hgr hD
            have g1 := (hD1.1 r' j hr2' (by omega)).1
            have g2 := (hD1.1 r (j + 1) hr2 (by omega)).1
            have e2 := (hD1.1 r j hr2 (by omega)).1
            have f2 := (hD1.1 r j hr2 (by omega)).2
            rw [hcb j (by omega)] at g1
            rw [hcr (j + 1) (by omega) (by omega)] at g2
            have heq : comAt xs ys i j = max (comAt xs ys (i + 1) j) (comAt xs ys i (j + 1)) := comAt_ne xs ys i j hk hkj (by rw [← HS.out, ← HT.out]; exact HST.out)
            have HE : Hid (comAt xs ys i j = max (comAt xs ys (i + 1) j) (comAt xs ys i (j + 1))) := heq
            clear heq
            go_wp2
            go_region
            have hv : (if comAt xs ys (i + 1) j < comAt xs ys i (j + 1) then (comAt xs ys i (j + 1) : Int) else (comAt xs ys (i + 1) j : Int)) = (comAt xs ys i j : Int) := by
              rw [HE.out]
              split <;> omega
            rw [hv]
            have hD2 := hD1.setC r j hr2 (by omega) (comAt xs ys i j : Int)
            have hg2 := grownTrans hg1 (grownSet _ p (r * 101 + j) (.int .i64 (comAt xs ys i j : Int)))
            obtain ⟨W2, hW2⟩ : ∃ W2, (W1.setCell ⟨p, r * 101 + j, none⟩ (.int .i64 (comAt xs ys i j : Int))) = W2 := ⟨_, rfl⟩
            rw [hW2] at hD2 hg2 ⊢
            have HF : Hid (FillIn p xs ys i j W2.drew) := by
              refine ⟨_, _, (hD2 : DT W2.drew p _ _), ?_, ?_, ?_⟩
              · intro j' hj'
                rw [HR'.out]
                have := HR.out
                have := HR'.out
                rw [putC_other _ _ _ _ _ _ (by omega)]
                exact hcb j' hj'
              · intro j' hj1 hj2
                rw [HR.out]
                by_cases e : j' = j
                · subst e; rw [putC_same]
                · rw [putC_other _ _ _ _ _ _ (fun c => e c.2)]; exact hcr j' (by omega) hj2
              · intro i' j' hij hi' hj' hne
                by_cases e : i' = i ∧ j' = j
                · obtain ⟨rfl, rfl⟩ := e
                  rw [putS_same]; rfl
                · rw [putS_other _ _ _ _ _ _ e]; exact hs i' j' (by omega) hi' hj' hne
            have HG : Hid (w.grownBy W2.drew (some p)) := (⟨hg2.os, hg2.tape, hg2.output, hg2.size, hg2.block⟩ : w.grownBy W2.drew (some p))
            obtain ⟨W3, hW3⟩ : ∃ W3, W2.drew = W3 := ⟨_, rfl⟩
            rw [hW3] at HF HG ⊢
            clear hW3 hW2 hD2 hg2 hv hD1 hg1 HE g1 g2 e2 f2 hcb hcr hs hb1 HS HT HST
            go_wp2
            go_roundw
            case rel => exact ⟨j, by omega, by go_num, HF.out, HG.out⟩
            case measure => first | (simp [intOf]; omega) | simp [intOf]
end Go.Proofs.YtmmccpdaklkciaaGreatDoor
