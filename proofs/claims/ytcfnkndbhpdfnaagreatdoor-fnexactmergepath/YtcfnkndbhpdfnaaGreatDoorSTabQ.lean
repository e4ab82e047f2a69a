/- The contract of spec.l2Table: the specification's table of common lines. No statement is proved here. -/
import Derived.Test.YtcfnkndbhpdfnaaGreatDoorDTabQ
import Derived.OwnWalk
import Derived.Maps.AppendAt
import Derived.Deep.RegionLaw
namespace Go.Proofs.YtcfnkndbhpdfnaaGreatDoor
open Go.ChangeShapes Go.WideShapes Go.ChangeAt Go.RowKit
theorem infoI64 : (Tryz.prog.info? 2).map (fun i => (i.zero, i.size, i.bytes)) = some (some (.int .i64 0), 1, 8) := by kernel_rfl
theorem infoRow : (Tryz.prog.info? 164).map (fun i => (i.zero, i.size, i.bytes)) = some (some (.slice none 0 0), 1, 24) := by kernel_rfl
def rowV (M r : Nat) : Value := .slice (some ⟨r, 0, none⟩) M M
def rowL (M : Nat) (f : Nat -> Int) : List Value := (List.range M).map fun j => .int .i64 (f j)
theorem rowL_length (M : Nat) (f : Nat -> Int) : (rowL M f).length = M := by simp [rowL]
theorem rowL_at (M : Nat) (f : Nat -> Int) (j : Nat) (h : j < M) : (rowL M f)[j]? = some (.int .i64 (f j)) := by simp [rowL, h]
theorem rowL_zero (M : Nat) : List.replicate M (Value.int .i64 0) = rowL M (fun _ => 0) := by
 apply List.ext_getElem?
 intro j
 by_cases h : j < M
 ·rw [rowL_at M _ j h, List.getElem?_replicate, if_pos h]
 ·rw [List.getElem?_eq_none (by simp; omega), List.getElem?_eq_none (by rw [rowL_length]; omega)]
theorem rowL_set (M : Nat) (T : Nat -> Nat -> Int) (i j : Nat) (v : Int) (h : j < M) : (rowL M (T i)).set j (.int .i64 v) = rowL M (putC T i j v i) := by
 apply List.ext_getElem?
 intro j'
 by_cases hj' : j' < M
 ·rw [rowL_at M _ j' hj', List.getElem?_set]
  by_cases e : j = j'
  ·subst e; rw [if_pos rfl, if_pos (by rw [rowL_length]; exact h), putC_same]
  ·rw [if_neg e, rowL_at M _ j' hj', putC_other _ _ _ _ _ _ (fun c => e c.2.symm)]
 ·rw [List.getElem?_eq_none (by rw [List.length_set, rowL_length]; omega), List.getElem?_eq_none (by rw [rowL_length]; omega)]
theorem rowL_congr (M : Nat) (f g : Nat -> Int) (h : ∀ j, j < M -> f j = g j) : rowL M f = rowL M g := by
 unfold rowL
 apply List.map_congr_left
 intro j hj
 rw [h j (List.mem_range.1 hj)]
structure Tab (base M : Nat) (w : World) (g c k : Nat) (rs : List Nat) (T : Nat -> Nat -> Int) : Prop where
 len : rs.length = k
 nodup : rs.Nodup
 pos : 0 < M
 outer : w.ownsRow base 164 1 (.slice (some ⟨g, 0, none⟩) k c) k (rs.map (rowV M))
 rows : ∀ i, i < k -> w.ownsRow base 2 1 (rowV M (rs.getD i 0)) M (rowL M (T i))
theorem typeOfRow {w : World} {base g n cap : Nat} {e : TypeId} {xs : List Value} (h : w.ownsRow base e 1 (.slice (some ⟨g, 0, none⟩) n cap) n xs) : ∃ cs f, w.heap[g]? = some (.cells cs e f) := by
 rcases h.2 with ⟨h', _⟩ | ⟨g', c, cur, h', _, hh, _⟩
 ·simp at h'
 ·simp only [Value.slice.injEq, Option.some.injEq, Addr.mk.injEq] at h'
  obtain ⟨⟨rfl, _⟩, _⟩ := h'
  exact ⟨_, _, hh⟩
theorem Tab.apart {base M : Nat} {w : World} {g c k : Nat} {rs : List Nat} {T : Nat -> Nat -> Int} (h : Tab base M w g c k rs T) (i : Nat) (hi : i < k) : rs.getD i 0 ≠ g := by
 intro e
 obtain ⟨cs, f, h1⟩ := typeOfRow h.outer
 obtain ⟨cs', f', h2⟩ := typeOfRow (h.rows i hi)
 rw [e, h1] at h2
 simp only [Option.some.injEq, Obj.cells.injEq] at h2
 exact absurd h2.2.1 (by decide)
theorem Tab.c1 {base M : Nat} {w : World} {g c k : Nat} {rs : List Nat} {T : Nat -> Nat -> Int} (h : Tab base M w g c k rs T) (i : Nat) (hi : i < k) : w.cell? ⟨g, i, none⟩ = some (.slice (some ⟨rs.getD i 0, 0, none⟩) M M) := by
 rw [h.outer.cellAt i (by omega)]
 have := h.len
 simp [List.getD, rowV, show i < rs.length by omega]
theorem Tab.c2 {base M : Nat} {w : World} {g c k : Nat} {rs : List Nat} {T : Nat -> Nat -> Int} (h : Tab base M w g c k rs T) (i j : Nat) (hi : i < k) (hj : j < M) : w.cell? ⟨rs.getD i 0, j, none⟩ = some (.int .i64 (T i j)) := by
 rw [(h.rows i hi).cellAt j (by omega), rowL_at M _ j hj]
theorem Tab.f2 {base M : Nat} {w : World} {g c k : Nat} {rs : List Nat} {T : Nat -> Nat -> Int} (h : Tab base M w g c k rs T) (i j : Nat) (hi : i < k) (_hj : j < M) : w.frozen? ⟨rs.getD i 0, j, none⟩ = false := (h.rows i hi).frozenAt j
theorem Tab.ge {base M : Nat} {w : World} {g c k : Nat} {rs : List Nat} {T : Nat -> Nat -> Int} (h : Tab base M w g c k rs T) (i : Nat) (hi : i < k) : base <= rs.getD i 0 /\ rs.getD i 0 < w.heap.size := (h.rows i hi).lt _ rfl
theorem Tab.drewN {base M : Nat} {w : World} {g c k : Nat} {rs : List Nat} {T : Nat -> Nat -> Int} (h : Tab base M w g c k rs T) (n : Nat) : Tab base M (w.drewN n) g c k rs T := ⟨h.len, h.nodup, h.pos, h.outer, h.rows⟩
theorem Tab.set {base M : Nat} {w : World} {g c k : Nat} {rs : List Nat} {T : Nat -> Nat -> Int} (h : Tab base M w g c k rs T) (i j : Nat) (hi : i < k) (hj : j < M) (v : Int) :
  Tab base M (w.setCell ⟨rs.getD i 0, j, none⟩ (.int .i64 v)) g c k rs (putC T i j v) := by
 have hg := grownSet w (rs.getD i 0) j (.int .i64 v)
 have hl := h.len
 refine ⟨h.len, h.nodup, h.pos, h.outer.kept hg (.inr ?_), fun i' hi' => ?_⟩
 ·have := h.apart i hi
  simp [Value.ownBlock]; exact fun e => this e.symm
 ·by_cases e : i' = i
  ·subst e
   have := ((h.rows i' hi).stored j (.int .i64 v)).1
   rw [rowL_set M T i' j v hj] at this
   exact this
  ·have hne : rs.getD i' 0 ≠ rs.getD i 0 := by
    intro c
    have a1 : rs.getD i' 0 = rs[i'] := by simp [List.getD, show i' < rs.length by omega]
    have a2 : rs.getD i 0 = rs[i] := by simp [List.getD, show i < rs.length by omega]
    rw [a1, a2] at c
    exact e ((List.getElem_inj h.nodup).1 c)
   have := (h.rows i' hi').kept hg (.inr (by simp [rowV, Value.ownBlock]; exact hne))
   rw [rowL_congr M (T i') (putC T i j v i') (fun j' _ => (putC_other _ _ _ _ _ _ (fun c => e c.1)).symm)] at this
   exact this
set_option maxHeartbeats 400000 in
theorem l1Max (a b : Int) (w : World) : Calls Tryz.prog 186 #[.int .i64 a, .int .i64 b] w fun e w' => e = .returned (.int .i64 (max a b)) /\ w' = w := by
 by_cases h : b < a
 ·have hm : Hid (max a b = a) := by show max a b = a; omega
  go_enter Tryz.func186, Tryz.ntmps186
  go_wp2
  go_ret
  exact ⟨ret_int hm.out.symm, rfl⟩
 ·have hm : Hid (max a b = b) := by show max a b = b; omega
  go_enter Tryz.func186, Tryz.ntmps186
  go_wp2
  go_ret
  exact ⟨ret_int hm.out.symm, rfl⟩
theorem ownSucc {W : World} {base : Nat} {e : TypeId} {v : Value} {k : Nat} {xs : List Value} (h : W.ownsRow base e 1 v (k + 1) xs) : ∃ g cap, v = .slice (some ⟨g, 0, none⟩) (k + 1) cap := by
 rcases h.2 with ⟨_, h0⟩ | ⟨g, c, cur, h', _⟩
 ·omega
 ·exact ⟨g, c, h'⟩
def TabPost (w : World) (xs ys : List ByteArray) (e : Ending) (w' : World) : Prop :=
 ∃ g c rs T, e = .returned (.slice (some ⟨g, 0, none⟩) (xs.length + 1) c) /\ Tab w.heap.size (ys.length + 1) w' g c (xs.length + 1) rs T /\ (∀ i j, i <= xs.length -> j <= ys.length -> T i j = (comAt xs ys i j : Int)) /\ Below w.heap.size w w'
def TabAt (base : Nat) (xs ys : List ByteArray) (g c : Nat) (rs : List Nat) (k : Nat) (w : World) : Prop :=
 ∃ T, Tab base (ys.length + 1) w g c (xs.length + 1) rs T /\ (∀ i j, k <= i -> i <= xs.length -> j <= ys.length -> T i j = (comAt xs ys i j : Int)) /\ (∀ i j, i < k -> T i j = 0)
def TabIn (base : Nat) (xs ys : List ByteArray) (g c : Nat) (rs : List Nat) (i k : Nat) (w : World) : Prop :=
 ∃ T, Tab base (ys.length + 1) w g c (xs.length + 1) rs T /\ (∀ i' j, i < i' \/ (i' = i /\ k <= j) -> i' <= xs.length -> j <= ys.length -> T i' j = (comAt xs ys i' j : Int)) /\ (∀ i' j, i' < i -> T i' j = 0)
set_option maxRecDepth 20000 in
set_option maxHeartbeats 4000000 in
theorem l2Table (a1 a2 : Option Addr) (c1 c2 : Nat) (xs ys : List ByteArray) (w : World) (h1 : SS w a1 xs) (h2 : SS w a2 ys) (n1 : xs.length <= 100) (n2 : ys.length <= 100) :
  Calls Tryz.prog 168 #[.slice a1 xs.length c1, .slice a2 ys.length c2] w fun e w' => TabPost w xs ys e w' := by
 obtain ⟨i0, hi, hz0, hz1, hz2⟩ := info_parts infoI64
 obtain ⟨i1, hi', hy0, hy1, hy2⟩ := info_parts infoRow
 go_enter Tryz.func168, Tryz.ntmps168
 go_wp2
 go_loopw [5, 6] (fun v i wr => ∃ (k g c : Nat) (rs : List Nat), k <= xs.length + 1 /\ i = .int .i64 k /\ v = .slice (some ⟨g, 0, none⟩) k c /\ Tab w.heap.size (ys.length + 1) wr g c k rs (fun _ _ => 0) /\ Below w.heap.size w wr) (fun _ i _ => xs.length + 1 - (intOf i).toNat)
 case atStart =>
  refine ⟨0, w.heap.size, 0, [], Nat.zero_le _, rfl, rfl, ⟨rfl, List.nodup_nil, by omega, ?_, fun i hi => absurd hi (Nat.not_lt_zero _)⟩, (Below.refl _ _).alloc (Nat.le_refl _) _⟩
  exact World.ownsRow_lit w #[] 0 (Nat.le_refl _) (Nat.zero_le _) rfl
 case round =>
  obtain ⟨k, g, c, rs, hk, rfl, rfl, hT, hbel⟩ := hrel
  have hbs := hbel.size
  by_cases hlt : k <= xs.length
  ·have q1 : (k : Int) <= (xs.length : Int) := by omega
   go_wp2_with (first | (at_make; refine wpList_make_full _ rfl (.tmp 20) (.tmp 20) 164 rfl w.heap.size 2 i0 (.int .i64 0) 1 Tryz.underlying164 hi hz0 hz1 .i64 .i64 _ _ (ys.length + 1) rfl rfl (by omega) (by omega) (by rw [hz2]; omega) (by unfold maxLen; omega) hbs ?_; intro w1 hown1 hg1; have hg1s := hg1.size) | (at_builtin; refine wpList_append_own _ rfl (.tmp 17) (.tmp 22) 214 rfl w.heap.size 164 i1 (.slice none 0 0) 1 24 Tryz.underlying214 hi' hy0 hy1 hy2 rfl (by decide) (.slice (some ⟨g, 0, none⟩) k c) _ _ rfl ((hT.outer.kept hg1 (.inr (by simp [Value.ownBlock]))).alloc _) ⟨w1.heap.size, 0, none⟩ 1 1 [.slice (some ⟨wr.heap.size, 0, none⟩) (ys.length + 1) (ys.length + 1)] rfl rfl (cell_one_new _ _ _) (by simp [Value.oneCell']) (by unfold maxLen; omega) (by omega) (by simp; omega) ?_; intro v' w2 hown2 hg2 _; obtain ⟨g', c', rfl⟩ := ownSucc hown2))
   have hgl := hT.outer.lt g rfl
   have hr1 : w1.ownsRow w.heap.size 2 1 (rowV (ys.length + 1) wr.heap.size) (ys.length + 1) (rowL (ys.length + 1) (fun _ => 0)) := by
    rw [<- rowL_zero]
    simpa [Value.cells, toList_madeCells_one, rowV] using hown1
   have hgj : ∀ j, (Value.slice (some ⟨g, 0, none⟩) k c).ownBlock = some j -> w.heap.size <= j := by
    intro j hj
    have e : g = j := by simpa [Value.ownBlock] using hj
    omega
   have hb2 : Below w.heap.size w w2 := ((hbel.grown hg1 hbs (by intro k h; cases h)).alloc (by omega) _).grown hg2 (by simp; omega) hgj
   have HT2 : Hid (Tab w.heap.size (ys.length + 1) w2 g' c' (k + 1) (rs ++ [wr.heap.size]) (fun _ _ => 0)) := by
    have hl := hT.len
    refine ⟨by simp [hl], ?_, by omega, by simpa [rowV] using hown2, fun i hik => ?_⟩
    ·rw [List.nodup_append]
     refine ⟨hT.nodup, by simp, ?_⟩
     intro a ha b hb
     simp only [List.mem_singleton] at hb
     obtain ⟨i, hi1, rfl⟩ := List.getElem_of_mem ha
     have := (hT.ge i (by omega)).2
     have e : rs.getD i 0 = rs[i] := by simp [List.getD, hi1]
     omega
    ·by_cases hik' : i < k
     ·have e : (rs ++ [wr.heap.size]).getD i 0 = rs.getD i 0 := by simp [List.getD, List.getElem?_append_left (show i < rs.length by omega)]
      rw [e]
      have := hT.apart i hik'
      exact (((hT.rows i hik').kept hg1 (.inr (by simp [rowV, Value.ownBlock]))).alloc _).kept hg2 (.inr (by simp [rowV, Value.ownBlock]; exact this))
     ·have hik2 : i = k := by omega
      subst hik2
      have e : (rs ++ [wr.heap.size]).getD i 0 = wr.heap.size := by simp [List.getD, <- hl]
      rw [e]
      exact (hr1.alloc _).kept hg2 (.inr (by simp [rowV, Value.ownBlock]; omega))
   clear hown1 hown2 hr1 hT hbel hg1 hg2
   go_roundw
   case rel => exact ⟨k + 1, g', c', _, by omega, by go_num, rfl, HT2.out, hb2⟩
   case measure => first | (simp [intOf]; omega) | simp [intOf]
  ·have q1 : ¬ (k : Int) <= (xs.length : Int) := by omega
   obtain rfl : k = xs.length + 1 := by omega
   clear hi hz0 hz1 hz2 hi' hy0 hy1 hy2 hlt hk
   go_wp2
   clear q1
   go_loopw [7] (fun i wr => ∃ k : Nat, k <= xs.length /\ i = .int .i64 ((k : Int) - 1) /\ TabAt w.heap.size xs ys g c rs k wr /\ Below w.heap.size w wr) (fun i _ => (intOf i + 1).toNat)
   case atStart =>
    refine ⟨xs.length, Nat.le_refl _, by go_num, ⟨_, hT, ?_, fun _ _ _ => rfl⟩, hbel⟩
    intro i j h1 h2 h3
    rw [comAt_end_left xs ys i j h1]; rfl
   case round =>
    clear hT hbel hbs
    obtain ⟨k, hk, hv, hF, hbel⟩ := hrel
    cases k with
    | zero =>
     obtain rfl : u7 = .int .i64 (-1) := hv
     have HF : Hid (TabPost w xs ys (.returned (.slice (some ⟨g, 0, none⟩) (xs.length + 1) c)) wr) := by
      obtain ⟨T, hT, hc, _⟩ := hF
      exact ⟨g, c, rs, T, rfl, hT, fun i j h1 h2 => hc i j (Nat.zero_le _) h1 h2, hbel⟩
     clear hF hbel
     go_wp2
     go_ret
     exact HF.out
    | succ i =>
     obtain rfl : u7 = .int .i64 (i : Int) := by rw [hv]; congr 1; omega
     clear hv
     go_wp2
     go_loopw [8] (fun j wr => ∃ k : Nat, k <= ys.length /\ j = .int .i64 ((k : Int) - 1) /\ TabIn w.heap.size xs ys g c rs i k wr /\ Below w.heap.size w wr) (fun j _ => (intOf j + 1).toNat)
     case atStart =>
      refine ⟨ys.length, Nat.le_refl _, by go_num, ?_, hbel⟩
      obtain ⟨T, hT, hc, hz⟩ := hF
      refine ⟨T, hT, ?_, fun i' j h => hz i' j (by omega)⟩
      intro i' j h h1 h2
      by_cases e : i < i'
      ·exact hc i' j (by omega) h1 h2
      ·rw [hz i' j (by omega), comAt_end_right xs ys i' j (by omega)]; rfl
     case round =>
      clear hF hbel
      obtain ⟨k, hkj, hv, hF, hbel⟩ := hrel
      cases k with
      | zero =>
       obtain rfl : u8 = .int .i64 (-1) := hv
       have HF : Hid (TabAt w.heap.size xs ys g c rs i wr) := by
        obtain ⟨T, hT, hc, hz⟩ := hF
        exact ⟨T, hT, fun i' j h1 h2 h3 => hc i' j (by omega) h2 h3, hz⟩
       have HB : Hid (Below w.heap.size w wr) := hbel
       clear hF hbel hkj h1 h2
       go_wp2
       go_roundw
       case rel => exact ⟨i, by omega, by go_num, HF.out, HB.out⟩
       case measure => first | (simp [intOf]; omega) | simp [intOf]
      | succ j =>
       obtain rfl : u8 = .int .i64 (j : Int) := by rw [hv]; congr 1; omega
       clear hv
       have h1' := h1.below hbel
       have h2' := h2.below hbel
       obtain ⟨b, off, rfl, hb, hc⟩ := h1'.2 i hk
       obtain ⟨b', off', rfl, hb', hc'⟩ := h2'.2 j hkj
       obtain ⟨s, hse⟩ : ∃ s, s = xs.getD i ByteArray.empty := ⟨_, rfl⟩
       obtain ⟨t, hte⟩ : ∃ t, t = ys.getD j ByteArray.empty := ⟨_, rfl⟩
       rw [<- hse] at hc
       rw [<- hte] at hc'
       have HS : Hid (s = xs.getD i ByteArray.empty) := hse
       have HT : Hid (t = ys.getD j ByteArray.empty) := hte
       clear hse hte h1' h2'
       have q1 : (i : Int) < (xs.length : Int) := by omega
       have q2 : (j : Int) < (ys.length : Int) := by omega
       obtain ⟨T, hT, hcd, hz⟩ := hF
       have d1 := hT.c1 (i + 1) (by omega)
       have d2 := hT.c2 (i + 1) j (by omega) (by omega)
       have d3 := hT.c1 i (by omega)
       have d4 := hT.c2 i (j + 1) (by omega) (by omega)
       have d5 := hT.c2 (i + 1) (j + 1) (by omega) (by omega)
       have d6 := hT.c2 i j (by omega) (by omega)
       have f6 := hT.f2 i j (by omega) (by omega)
       have hge := (hT.ge i (by omega)).1
       rw [hcd (i + 1) j (by omega) (by omega) (by omega)] at d2
       rw [hcd i (j + 1) (by omega) (by omega) (by omega)] at d4
       rw [hcd (i + 1) (j + 1) (by omega) (by omega) (by omega)] at d5
       have hset := fun n v => (hT.drewN n).set i j (by omega) (by omega) v
       have hbet := fun n v => (below_drewN' hbel n).setCell (p := ⟨rs.getD i 0, j, none⟩) hge v
       have HN : ∀ n, Hid (TabIn w.heap.size xs ys g c rs i j ((wr.drewN n).setCell ⟨rs.getD i 0, j, none⟩ (.int .i64 (comAt xs ys i j : Int)))) := by
        intro n
        refine ⟨_, hset n _, ?_, ?_⟩
        ·intro i' j' hij h1 h2
         by_cases e : i' = i /\ j' = j
         ·obtain ⟨rfl, rfl⟩ := e; rw [putC_same]
         ·rw [putC_other _ _ _ _ _ _ e]; exact hcd i' j' (by omega) h1 h2
        ·intro i' j' hi'
         rw [putC_other _ _ _ _ _ _ (by omega)]; exact hz i' j' hi'
       have HB : ∀ n, Hid (Below w.heap.size w ((wr.drewN n).setCell ⟨rs.getD i 0, j, none⟩ (.int .i64 (comAt xs ys i j : Int)))) := fun n => hbet n _
       clear hset hbet hcd hz hT hbel h1 h2
       obtain ⟨r, hr⟩ : ∃ r, rs.getD i 0 = r := ⟨_, rfl⟩
       obtain ⟨r1, hr1⟩ : ∃ r, rs.getD (i + 1) 0 = r := ⟨_, rfl⟩
       rw [hr] at d3 d4 d6 f6 hge
       rw [hr1] at d1 d2 d5
       simp only [hr] at HN HB
       clear hr hr1
       have hv1 := (comAt_le xs ys (i + 1) (j + 1)).1
       by_cases hst : s = t
       ·have hbe := beq_bytes_true hst
        have hbest := comAt_best_eq xs ys i j hk hkj (by rw [<- HS.out, <- HT.out]; exact hst)
        have HBE : Hid (max (max (comAt xs ys (i + 1) j : Int) (comAt xs ys i (j + 1) : Int)) (1 + (comAt xs ys (i + 1) (j + 1) : Int)) = (comAt xs ys i j : Int)) := by
         show _ = _
         rw [<- hbest]; omega
        clear hst hbest HS HT
        obtain ⟨A, hA⟩ : ∃ A : Int, (comAt xs ys (i + 1) j : Int) = A := ⟨_, rfl⟩
        obtain ⟨B, hB⟩ : ∃ B : Int, (comAt xs ys i (j + 1) : Int) = B := ⟨_, rfl⟩
        obtain ⟨C, hC⟩ : ∃ C : Int, (comAt xs ys (i + 1) (j + 1) : Int) = C := ⟨_, rfl⟩
        obtain ⟨D, hD⟩ : ∃ D : Int, (comAt xs ys i j : Int) = D := ⟨_, rfl⟩
        have hC1 : C <= 100 /\ 0 <= C := by omega
        rw [hA] at d2 HBE
        rw [hB] at d4 HBE
        rw [hC] at d5 HBE
        rw [hD] at HBE
        simp only [hD] at HN HB
        clear hA hB hC hD hv1
        obtain ⟨C0, C1⟩ := hC1
        go_wp2
        go_quiet ((go_at_call 186; exact Calls.quiet_of_same (l1Max _ _ _)))
        go_wp2
        go_quiet (fail)
        go_wp2_with (go_at_call 186; refine (l1Max _ _ _).mono ?_; rintro e w' ⟨rfl, rfl⟩; rw [HBE.out])
        go_roundw
        case rel => exact ⟨j, by omega, by go_num, (HN _).out, (HB _).out⟩
        case measure => first | (simp [intOf]; omega) | simp [intOf]
       ·have hbe := beq_bytes_false hst
        have hbest := comAt_ne xs ys i j hk hkj (by rw [<- HS.out, <- HT.out]; exact hst)
        have HBE : Hid (max (comAt xs ys (i + 1) j : Int) (comAt xs ys i (j + 1) : Int) = (comAt xs ys i j : Int)) := by
         show _ = _
         rw [hbest]; omega
        clear hst hbest HS HT
        obtain ⟨A, hA⟩ : ∃ A : Int, (comAt xs ys (i + 1) j : Int) = A := ⟨_, rfl⟩
        obtain ⟨B, hB⟩ : ∃ B : Int, (comAt xs ys i (j + 1) : Int) = B := ⟨_, rfl⟩
        obtain ⟨D, hD⟩ : ∃ D : Int, (comAt xs ys i j : Int) = D := ⟨_, rfl⟩
        rw [hA] at d2 HBE
        rw [hB] at d4 HBE
        rw [hD] at HBE
        simp only [hD] at HN HB
        clear hA hB hD hv1 d5
        have hM : ∀ w, Calls Tryz.prog 186 #[.int .i64 A, .int .i64 B] w fun e w' => e = .returned (.int .i64 D) /\ w' = w := fun w => by
         have := l1Max A B w
         rw [HBE.out] at this
         exact this
        go_wp2
        go_quiet ((go_at_call 186; exact Calls.quiet_of_same (hM _)))
        go_wp2
        go_quiet (fail)
        go_wp2
        go_roundw
        case rel => exact ⟨j, by omega, by go_num, (HN _).out, (HB _).out⟩
        case measure => first | (simp [intOf]; omega) | simp [intOf]
end Go.Proofs.YtcfnkndbhpdfnaaGreatDoor
namespace Go.Proofs.YtcfnkndbhpdfnaaGreatDoor
open Go.ChangeShapes Go.WideShapes Go.ChangeAt Go.RowKit
def FillAt (p : Nat) (xs ys : List ByteArray) (k : Nat) (w : World) : Prop :=
 ∃ cm sk, DT w p cm sk /\ (∀ j, j < 101 -> cm (k % 2) j = (comAt xs ys k j : Int)) /\
  (∀ i j, k <= i -> i < xs.length -> j < ys.length -> ¬ xs.getD i ByteArray.empty = ys.getD j ByteArray.empty -> sk i j = skipA xs ys i j)
def FillIn (p : Nat) (xs ys : List ByteArray) (i k : Nat) (w : World) : Prop :=
 ∃ cm sk, DT w p cm sk /\ (∀ j, j < 101 -> cm ((i + 1) % 2) j = (comAt xs ys (i + 1) j : Int)) /\ (∀ j, k <= j -> j < 101 -> cm (i % 2) j = (comAt xs ys i j : Int)) /\
  (∀ i' j, i < i' \/ (i' = i /\ k <= j) -> i' < xs.length -> j < ys.length -> ¬ xs.getD i' ByteArray.empty = ys.getD j ByteArray.empty -> sk i' j = skipA xs ys i' j)
theorem tmod2 (i : Nat) : Int.tmod (i : Int) 2 = ((i % 2 : Nat) : Int) := by rw [Int.tmod_eq_emod_of_nonneg (by omega)]; omega
set_option maxRecDepth 20000 in
set_option maxHeartbeats 3000000 in
theorem fill (p : Nat) (a1 a2 : Option Addr) (c1 c2 : Nat) (xs ys : List ByteArray) (w : World) (h0 : DT w p (fun _ _ => 0) (fun _ _ => false)) (h1 : SSB p w a1 xs) (h2 : SSB p w a2 ys) (n1 : xs.length <= 100) (n2 : ys.length <= 100) :
  Calls Tryz.prog 192 #[.pointer (some ⟨p, 0, none⟩), .slice a1 xs.length c1, .slice a2 ys.length c2] w fun e w' => e = .returned (.int .i64 (comAt xs ys 0 0 : Int)) /\ FillAt p xs ys 0 w' /\ w.grownBy w' (some p) := by
 go_enter Tryz.func192, Tryz.ntmps192
 go_wp2
 go_loopw [7] (fun i wr => ∃ k : Nat, k <= xs.length /\ i = .int .i64 ((k : Int) - 1) /\ FillAt p xs ys k wr /\ w.grownBy wr (some p)) (fun i _ => (intOf i + 1).toNat)
 case atStart => exact ⟨xs.length, Nat.le_refl _, by go_num, ⟨_, _, h0, fun j _ => by rw [comAt_end_left xs ys _ _ (Nat.le_refl _)]; rfl, fun i j hi hi' => absurd hi (by omega)⟩, World.grownBy.refl _ _⟩
 case round =>
  obtain ⟨k, hk, hv, hF, hgr⟩ := hrel
  cases k with
  | zero =>
   obtain rfl : u7 = .int .i64 (-1) := hv
   have HF : Hid (FillAt p xs ys 0 wr) := hF
   obtain ⟨cm, sk, hD, hc, hs⟩ := hF
   have c00 := (hD.1 0 0 (by omega) (by omega)).1
   rw [hc 0 (by omega)] at c00
   clear hD hc hs
   go_wp2
   go_ret
   exact ⟨rfl, HF.out, hgr⟩
  | succ i =>
   obtain rfl : u7 = .int .i64 (i : Int) := by rw [hv]; congr 1; omega
   obtain ⟨cm, sk, hD, hc, hs⟩ := hF
   have t1 := tmod2 i
   have t2 : Int.tmod ((i : Int) + 1) 2 = (((i + 1) % 2 : Nat) : Int) := tmod2 (i + 1)
   obtain ⟨r, hr⟩ : ∃ r, i % 2 = r := ⟨_, rfl⟩
   obtain ⟨r', hr'⟩ : ∃ r', (i + 1) % 2 = r' := ⟨_, rfl⟩
   have hr2 : r < 2 := by omega
   have hr2' : r' < 2 := by omega
   have HR : Hid (i % 2 = r) := hr
   have HR' : Hid ((i + 1) % 2 = r') := hr'
   rw [hr] at t1
   rw [hr'] at t2 hc
   clear hr hr' hv
   go_wp2
   go_quiet (fail)
   have hcl := fun ty => clearRow (hD.drewN nq) r hr2 ty
   have hD1 := (hD.drewN nq).clr r hr2
   have hg1 := grownTrans (grownDrew hgr nq) (grownSets p (List.replicate 101 (.int .i64 0)) (r * 101) _)
   obtain ⟨W1, hW1⟩ : ∃ W1, (wr.drewN nq).setCells p (r * 101) (List.replicate 101 (.int .i64 0)) = W1 := ⟨_, rfl⟩
   rw [hW1] at hD1 hg1 
   simp only [hW1] at hcl
   clear hW1 hD hgr
   go_wp2
   clear hcl
   go_loopw [10] (fun j wr => ∃ k : Nat, k <= ys.length /\ j = .int .i64 ((k : Int) - 1) /\ FillIn p xs ys i k wr /\ w.grownBy wr (some p)) (fun j _ => (intOf j + 1).toNat)
   case atStart =>
    refine ⟨ys.length, Nat.le_refl _, by go_num, ⟨_, _, hD1, ?_, ?_, ?_⟩, hg1⟩
    ·intro j hj
     rw [HR'.out, <- hc j hj]
     have := HR.out
     have := HR'.out
     simp only [putR]
     rw [if_neg (by omega)]
    ·intro j hj _
     rw [HR.out, comAt_end_right xs ys i j hj]
     simp [putR]
    ·intro i' j hij
     rcases hij with h | ⟨h, h'⟩
     ·exact hs i' j (by omega)
     ·intro _ hj; omega
   case round =>
    clear hD1 hc hs hg1 t1 t2
    obtain ⟨k, hkj, hv, hF, hgr⟩ := hrel
    cases k with
    | zero =>
     obtain rfl : u10 = .int .i64 (-1) := hv
     have HF : Hid (FillAt p xs ys i wr) := by
      show FillAt p xs ys i wr
      obtain ⟨cm, sk, hD, _, hc, hs⟩ := hF
      exact ⟨cm, sk, hD, fun j hj => hc j (Nat.zero_le _) hj, fun i' j hi hi' hj hne => hs i' j (by omega) hi' hj hne⟩
     have HG : Hid (w.grownBy wr (some p)) := hgr
     clear hF hgr HR HR' h0 h1 h2 hr2 hr2' hkj
     go_wp2
     go_roundw
     case rel => exact ⟨i, by omega, by go_num, HF.out, HG.out⟩
     case measure => first | (simp [intOf]; omega) | simp [intOf]
    | succ j =>
     obtain rfl : u10 = .int .i64 (j : Int) := by rw [hv]; congr 1; omega
     clear hv
     have h1' := h1.grown hgr (fun _ e => by cases e; exact Nat.le_refl _)
     have h2' := h2.grown hgr (fun _ e => by cases e; exact Nat.le_refl _)
     obtain ⟨b, off, rfl, hb, hc⟩ := h1'.2 i hk
     obtain ⟨b', off', rfl, hb', hc'⟩ := h2'.2 j hkj
     obtain ⟨s, hse⟩ : ∃ s, s = xs.getD i ByteArray.empty := ⟨_, rfl⟩
     obtain ⟨t, hte⟩ : ∃ t, t = ys.getD j ByteArray.empty := ⟨_, rfl⟩
     rw [<- hse] at hc
     rw [<- hte] at hc'
     have HS : Hid (s = xs.getD i ByteArray.empty) := hse
     have HT : Hid (t = ys.getD j ByteArray.empty) := hte
     clear hse hte h1' h2'
     have q1 : (i : Int) < (xs.length : Int) := by omega
     have q2 : (j : Int) < (ys.length : Int) := by omega
     obtain ⟨cm, sk, hD, hcb, hcr, hs⟩ := hF
     rw [HR'.out] at hcb
     rw [HR.out] at hcr
     have e1 := (hD.1 r' (j + 1) hr2' (by omega)).1
     have e2 := (hD.1 r j hr2 (by omega)).1
     have f2 := (hD.1 r j hr2 (by omega)).2
     rw [hcb (j + 1) (by omega)] at e1
     have hb1 := (comAt_le xs ys (i + 1) (j + 1)).1
     by_cases hst : s = t
     ·have HST : Hid (s = t) := hst
      have hbe := beq_bytes_true hst
      clear hst
      go_wp2
      go_quiet (fail)
      go_wp2
      go_region
      have hD1 := (hD.drewN (nq + 1)).setC r j hr2 (by omega) ((comAt xs ys (i + 1) (j + 1) : Int) + 1)
      have hg1 := grownTrans (grownDrew hgr (nq + 1)) (grownSet _ p (r * 101 + j) (.int .i64 ((comAt xs ys (i + 1) (j + 1) : Int) + 1)))
      obtain ⟨W1, hW1⟩ : ∃ W1, (wr.drewN (nq + 1)).setCell ⟨p, r * 101 + j, none⟩ (.int .i64 ((comAt xs ys (i + 1) (j + 1) : Int) + 1)) = W1 := ⟨_, rfl⟩
      rw [hW1] at hD1 hg1 ⊢
      have heq : comAt xs ys i j = comAt xs ys (i + 1) (j + 1) + 1 := comAt_eq xs ys i j hk hkj (by rw [<- HS.out, <- HT.out]; exact HST.out)
      have HF : Hid (FillIn p xs ys i j W1) := by
       refine ⟨_, _, hD1, ?_, ?_, ?_⟩
       ·intro j' hj'
        rw [HR'.out]
        have := HR.out
        have := HR'.out
        rw [putC_other _ _ _ _ _ _ (by omega)]
        exact hcb j' hj'
       ·intro j' hj1 hj2
        rw [HR.out]
        by_cases e : j' = j
        ·subst e; rw [putC_same, heq]; omega
        ·rw [putC_other _ _ _ _ _ _ (fun c => e c.2)]; exact hcr j' (by omega) hj2
       ·intro i' j' hij hi' hj' hne
        by_cases e : i' = i /\ j' = j
        ·obtain ⟨rfl, rfl⟩ := e
         exact absurd (by rw [<- HS.out, <- HT.out]; exact HST.out) hne
        ·exact hs i' j' (by omega) hi' hj' hne
      clear hD1 hW1 heq hcb hcr hs hD e1 e2 f2 HS HT HST hgr hb1
      go_wp2
      go_roundw
      case rel => exact ⟨j, by omega, by go_num, HF.out, hg1⟩
      case measure => first | (simp [intOf]; omega) | simp [intOf]
     ·have HST : Hid (¬ s = t) := hst
      have hbe := beq_bytes_false hst
      clear hst
      have g1 := (hD.1 r' j hr2' (by omega)).1
      have g2 := (hD.1 r (j + 1) hr2 (by omega)).1
      rw [hcb j (by omega)] at g1
      rw [hcr (j + 1) (by omega) (by omega)] at g2
      have k2 := (hD.2 i j (by omega) (by omega)).1
      have k3 := (hD.2 i j (by omega) (by omega)).2
      have q3 : (i : Int) < 100 := by omega
      have q4 : (j : Int) < 100 := by omega
      go_wp2
      go_quiet (fail)
      go_wp2
      go_region
      have hD1 := (hD.drewN (nq + 1)).setS i j (by omega) (by omega) (decide (comAt xs ys i (j + 1) <= comAt xs ys (i + 1) j))
      have hg1 := grownTrans (grownDrew hgr (nq + 1)) (grownSet _ p (202 + i * 100 + j) (.bool (decide (comAt xs ys i (j + 1) <= comAt xs ys (i + 1) j))))
      obtain ⟨W1, hW1⟩ : ∃ W1, (wr.drewN (nq + 1)).setCell ⟨p, 202 + i * 100 + j, none⟩ (.bool (decide (comAt xs ys i (j + 1) <= comAt xs ys (i + 1) j))) = W1 := ⟨_, rfl⟩
      rw [hW1] at hD1 hg1 ⊢
      clear hW1 g1 g2 k2 k3 e1 e2 f2 hc hc' hgr hD
      have g1 := (hD1.1 r' j hr2' (by omega)).1
      have g2 := (hD1.1 r (j + 1) hr2 (by omega)).1
      have e2 := (hD1.1 r j hr2 (by omega)).1
      have f2 := (hD1.1 r j hr2 (by omega)).2
      rw [hcb j (by omega)] at g1
      rw [hcr (j + 1) (by omega) (by omega)] at g2
      have heq : comAt xs ys i j = max (comAt xs ys (i + 1) j) (comAt xs ys i (j + 1)) := comAt_ne xs ys i j hk hkj (by rw [<- HS.out, <- HT.out]; exact HST.out)
      have HE : Hid (comAt xs ys i j = max (comAt xs ys (i + 1) j) (comAt xs ys i (j + 1))) := heq
      clear heq
      go_wp2
      go_region
      have hv : (if comAt xs ys (i + 1) j < comAt xs ys i (j + 1) then (comAt xs ys i (j + 1) : Int) else (comAt xs ys (i + 1) j : Int)) = (comAt xs ys i j : Int) := by
       rw [HE.out]
       split <;> omega
      rw [hv]
      have hD2 := hD1.setC r j hr2 (by omega) (comAt xs ys i j : Int)
      have hg2 := grownTrans hg1 (grownSet _ p (r * 101 + j) (.int .i64 (comAt xs ys i j : Int)))
      obtain ⟨W2, hW2⟩ : ∃ W2, (W1.setCell ⟨p, r * 101 + j, none⟩ (.int .i64 (comAt xs ys i j : Int))) = W2 := ⟨_, rfl⟩
      rw [hW2] at hD2 hg2 ⊢
      have HF : Hid (FillIn p xs ys i j W2.drew) := by
       refine ⟨_, _, (hD2 : DT W2.drew p _ _), ?_, ?_, ?_⟩
       ·intro j' hj'
        rw [HR'.out]
        have := HR.out
        have := HR'.out
        rw [putC_other _ _ _ _ _ _ (by omega)]
        exact hcb j' hj'
       ·intro j' hj1 hj2
        rw [HR.out]
        by_cases e : j' = j
        ·subst e; rw [putC_same]
        ·rw [putC_other _ _ _ _ _ _ (fun c => e c.2)]; exact hcr j' (by omega) hj2
       ·intro i' j' hij hi' hj' hne
        by_cases e : i' = i /\ j' = j
        ·obtain ⟨rfl, rfl⟩ := e
         rw [putS_same]; rfl
        ·rw [putS_other _ _ _ _ _ _ e]; exact hs i' j' (by omega) hi' hj' hne
      have HG : Hid (w.grownBy W2.drew (some p)) := (⟨hg2.os, hg2.tape, hg2.output, hg2.size, hg2.block⟩ : w.grownBy W2.drew (some p))
      obtain ⟨W3, hW3⟩ : ∃ W3, W2.drew = W3 := ⟨_, rfl⟩
      rw [hW3] at HF HG ⊢
      clear hW3 hW2 hD2 hg2 hv hD1 hg1 HE g1 g2 e2 f2 hcb hcr hs hb1 HS HT HST
      go_wp2
      go_roundw
      case rel => exact ⟨j, by omega, by go_num, HF.out, HG.out⟩
      case measure => first | (simp [intOf]; omega) | simp [intOf]
end Go.Proofs.YtcfnkndbhpdfnaaGreatDoor
namespace Go.Proofs.YtcfnkndbhpdfnaaGreatDoor
open Go.ChangeShapes Go.WideShapes Go.ChangeAt Go.RowKit
def isZ : Value -> Bool
 | .int .i64 n => n == 0
 | _ => false
def isF : Value -> Bool
 | .bool b => !b
 | _ => false
theorem isZ_eq {v : Value} (h : isZ v = true) : v = .int .i64 0 := by
 unfold isZ at h
 split at h
 ·rw [eq_of_beq h]
 ·cases h
theorem isF_eq {v : Value} (h : isF v = true) : v = .bool false := by
 unfold isF at h
 split at h
 ·simp at h; rw [h]
 ·cases h
def tabCheck : Option Value -> Bool
 | some (.agg Z) => (Z.size == 10202) && ((Z.toList.take 202).all isZ && (Z.toList.drop 202).all isF)
 | _ => false
theorem tableInfo : (Tryz.prog.info? 249).map (fun i => tabCheck i.zero) = some true := by kernel_rfl
theorem tableZero : ∃ (i : TypeInfo) (Z : Array Value), Tryz.prog.info? 249 = some i /\ i.zero = some (.agg Z) /\ (∀ k, k < 202 -> Z[k]? = some (.int .i64 0)) /\ (∀ k, 202 <= k -> k < 10202 -> Z[k]? = some (.bool false)) := by
 have h := tableInfo
 rcases e : Tryz.prog.info? 249 with _ | i
 ·rw [e] at h; cases h
 ·rw [e] at h
  simp only [Option.map_some, Option.some.injEq] at h
  unfold tabCheck at h
  split at h
  ·rename_i Z hz
   simp only [Bool.and_eq_true] at h
   obtain ⟨h1, h2, h3⟩ := h
   have hs : Z.size = 10202 := eq_of_beq h1
   rw [List.all_eq_true] at h2 h3
   refine ⟨i, Z, rfl, hz, ?_, ?_⟩
   ·intro k hk
    rw [Array.getElem?_eq_getElem (by omega)]
    refine congrArg some (isZ_eq ?_)
    apply h2
    rw [List.mem_take_iff_getElem]
    exact ⟨k, by simp; omega, by simp⟩
   ·intro k hk hk2
    rw [Array.getElem?_eq_getElem (by omega)]
    refine congrArg some (isF_eq ?_)
    apply h3
    rw [List.mem_drop_iff_getElem]
    exact ⟨k - 202, by simp; omega, by simp [show 202 + (k - 202) = k by omega]⟩
  ·cases h
theorem wpList_table {w : World} {ops : Array Oper} {rest : List Oper} {o : Oper} {a : Act} {Q : Exit -> Act -> World -> Prop} (hgd : o.guard = none) (ho : o.op = .alloc 249)
  (h : ∀ w', DT w' w.heap.size (fun _ _ => 0) (fun _ _ => false) -> Below w.heap.size w w' -> Hid (w'.heap.size = w.heap.size + 1) -> wpList Tryz.prog ops Q rest (a.put o.dst (.pointer (some ⟨w.heap.size, 0, none⟩))) w') :
  wpList Tryz.prog ops Q (o :: rest) a w := by
 obtain ⟨i, Z, hi, hz, h1, h2⟩ := tableZero
 refine wpList_plain hgd fun K hK => ?_
 have hrun : (Instr.alloc 249 true (.tuple #[])).run Tryz.prog w = .ok (.pointer (some ⟨w.heap.size, 0, none⟩)) (w.alloc (.cells Z 249)) := by
  have hv : (zeroValue 249).run Tryz.prog w = .ok (.agg Z) w := by
   simp [zeroValue, typeInfo, hi, hz]
  simp [Instr.alloc, hv, newVar, newRow, Value.cells]
 unfold Oper.wp
 simp [execOp, ho, hrun, Result.andThen]
 refine hK _ _ (h _ ?_ ((Below.refl _ _).alloc (Nat.le_refl _) _) (by show _ = _; simp))
 have hb := heap_alloc_new w (.cells Z 249)
 have hf : ∀ o, (w.alloc (.cells Z 249)).frozen? ⟨w.heap.size, o, none⟩ = false := fun o => by unfold World.frozen?; rw [hb]; simp
 refine ⟨fun r j hr hj => ⟨?_, hf _⟩, fun i j hi hj => ⟨?_, hf _⟩⟩
 ·rw [cell_of_row _ _ _ _ _ _ hb]; exact h1 _ (by omega)
 ·rw [cell_of_row _ _ _ _ _ _ hb]; exact h2 _ (by omega) (by omega)
end Go.Proofs.YtcfnkndbhpdfnaaGreatDoor
namespace Go.Proofs.YtcfnkndbhpdfnaaGreatDoor
open Go.ChangeShapes Go.WideShapes Go.ChangeAt Go.RowKit
def fsts (l : List (Nat × Nat)) : List Value := l.map fun p => .int .i64 (p.1 : Int)
def snds (l : List (Nat × Nat)) : List Value := l.map fun p => .int .i64 (p.2 : Int)
structure Pr (base : Nat) (w : World) (v1 v2 : Value) (l : List (Nat × Nat)) : Prop where
 o1 : w.ownsRow base 2 1 v1 l.length (fsts l)
 o2 : w.ownsRow base 2 1 v2 l.length (snds l)
 ap : ∀ j, v1.ownBlock = some j -> v2.ownBlock = some j -> False
theorem Pr.kept {base : Nat} {w w' : World} {v1 v2 : Value} {l : List (Nat × Nat)} {row : Option Nat} (h : Pr base w v1 v2 l) (hg : w.grownBy w' row) (hr : ∀ j, row = some j -> j < base) : Pr base w' v1 v2 l :=
 ⟨h.o1.kept hg (blockCases _ _ fun j h1 h2 => by have := (h.o1.lt j h1).1; have := hr j h2; omega), h.o2.kept hg (blockCases _ _ fun j h1 h2 => by have := (h.o2.lt j h1).1; have := hr j h2; omega), h.ap⟩
theorem Pr.below {base : Nat} {w w' : World} {v1 v2 : Value} {l : List (Nat × Nat)} (h : Pr base w v1 v2 l) (hb : Below w.heap.size w w') : Pr base w' v1 v2 l := h.kept (grownOfBelow hb none) (fun _ e => by cases e)
theorem Pr.drewN {base : Nat} {w : World} {v1 v2 : Value} {l : List (Nat × Nat)} (h : Pr base w v1 v2 l) (n : Nat) : Pr base (w.drewN n) v1 v2 l := ⟨h.o1, h.o2, h.ap⟩
theorem Pr.mono {base b : Nat} {w : World} {v1 v2 : Value} {l : List (Nat × Nat)} (h : Pr base w v1 v2 l) (hb : b <= base) : Pr b w v1 v2 l := ⟨ownMono h.o1 hb, ownMono h.o2 hb, h.ap⟩
theorem Pr.mid {base : Nat} {w w1 : World} {v1 v2 : Value} {l : List (Nat × Nat)} {o o' : Obj} (h : Pr base w v1 v2 l) (g1 : (w.alloc o).grownBy w1 v1.ownBlock) : (w1.alloc o').ownsRow base 2 1 v2 l.length (snds l) :=
 ((h.o2.alloc o).kept g1 (blockCases _ _ fun j h1 h2 => h.ap j h2 h1)).alloc o'
theorem Pr.push {base i j : Nat} {w w1 w2 : World} {v1 v2 v1' v2' : Value} {l : List (Nat × Nat)} {o o' : Obj} (h : Pr base w v1 v2 l)
  (p1 : w1.ownsRow base 2 1 v1' (l.length + 1) (fsts l ++ [.int .i64 (i : Int)])) (g1 : (w.alloc o).grownBy w1 v1.ownBlock) (k1 : v1'.ownBlock = v1.ownBlock \/ v1'.ownBlock = some (w.alloc o).heap.size)
  (p2 : w2.ownsRow base 2 1 v2' (l.length + 1) (snds l ++ [.int .i64 (j : Int)])) (g2 : (w1.alloc o').grownBy w2 v2.ownBlock) (k2 : v2'.ownBlock = v2.ownBlock \/ v2'.ownBlock = some (w1.alloc o').heap.size) :
  Pr base w2 v1' v2' (l ++ [(i, j)]) := by
 have hs1 := g1.size
 simp only [World.size_alloc] at hs1 k1 k2
 have hap : ∀ j, v1'.ownBlock = some j -> v2.ownBlock = some j -> False := by
  intro j h1 h2
  rcases k1 with k | k
  ·exact h.ap j (k ▸ h1) h2
  ·rw [k] at h1
   have := (h.o2.lt j h2).2
   simp only [Option.some.injEq] at h1
   omega
 refine ⟨?_, ?_, ?_⟩
 ·have := (p1.alloc o').kept g2 (blockCases _ _ fun j h1 h2 => hap j h1 h2)
  simpa [fsts] using this
 ·simpa [snds] using p2
 ·intro j h1 h2
  rcases k2 with k | k
  ·exact hap j h1 (k ▸ h2)
  ·rw [k] at h2
   have := (p1.lt j h1).2
   simp only [Option.some.injEq] at h2
   omega
def PairsPost (w : World) (l : List (Nat × Nat)) (e : Ending) (w' : World) : Prop := ∃ v1 v2, e = .returned (.tuple #[v1, v2]) /\ Pr w.heap.size w' v1 v2 l /\ Below w.heap.size w w'
def Skips (p : Nat) (xs ys : List ByteArray) (w : World) : Prop :=
 ∀ i j, i < xs.length -> j < ys.length -> ¬ xs.getD i ByteArray.empty = ys.getD j ByteArray.empty -> w.cell? ⟨p, 202 + i * 100 + j, none⟩ = some (.bool (skipA xs ys i j))
theorem Skips.grown {p : Nat} {xs ys : List ByteArray} {w w' : World} {row : Option Nat} (h : Skips p xs ys w) (hg : w.grownBy w' row) (hr : some p ≠ row) : Skips p xs ys w' := fun i j h1 h2 h3 => hg.cell (h i j h1 h2 h3) hr
theorem FillAt.skips {p : Nat} {xs ys : List ByteArray} {w : World} (h : FillAt p xs ys 0 w) (m1 : xs.length <= 100) (m2 : ys.length <= 100) : Skips p xs ys w := by
 obtain ⟨cm, sk, hD, _, hs⟩ := h
 intro i j h1 h2 h3
 rw [(hD.2 i j (by omega) (by omega)).1, hs i j (Nat.zero_le _) h1 h2 h3]
def TC (B : Nat) (xs ys : List ByteArray) (g : Nat) (w : World) : Prop :=
 g < B /\ ∀ i, i <= xs.length -> ∃ r, r < B /\ w.cell? ⟨g, i, none⟩ = some (.slice (some ⟨r, 0, none⟩) (ys.length + 1) (ys.length + 1)) /\ ∀ j, j <= ys.length -> w.cell? ⟨r, j, none⟩ = some (.int .i64 (comAt xs ys i j : Int))
theorem TC.grown {B : Nat} {xs ys : List ByteArray} {g : Nat} {w w' : World} {row : Option Nat} (h : TC B xs ys g w) (hg : w.grownBy w' row) (hr : ∀ j, row = some j -> B <= j) : TC B xs ys g w' := by
 refine ⟨h.1, fun i hi => ?_⟩
 obtain ⟨r, hrB, h1, h2⟩ := h.2 i hi
 have := h.1
 exact ⟨r, hrB, hg.cell h1 (fun e => by have := hr g e.symm; omega), fun j hj => hg.cell (h2 j hj) (fun e => by have := hr r e.symm; omega)⟩
theorem Tab.toTC {base : Nat} {xs ys : List ByteArray} {w : World} {g c : Nat} {rs : List Nat} {T : Nat -> Nat -> Int} (h : Tab base (ys.length + 1) w g c (xs.length + 1) rs T) (hc : ∀ i j, i <= xs.length -> j <= ys.length -> T i j = (comAt xs ys i j : Int)) : TC w.heap.size xs ys g w :=
 ⟨(h.outer.lt g rfl).2, fun i hi => ⟨rs.getD i 0, (h.ge i (by omega)).2, h.c1 i (by omega), fun j hj => by rw [h.c2 i j (by omega) (by omega), hc i j hi hj]⟩⟩
theorem grownAlloc (w : World) (o : Obj) : w.grownBy (w.alloc o) none := World.grownBy_alloc _ _ _
theorem ownNil (w : World) (base : Nat) : w.ownsRow base 2 1 (.slice none 0 0) 0 [] := ⟨rfl, .inl ⟨rfl, rfl⟩⟩
theorem ownLit (w : World) (base : Nat) (hb : base <= w.heap.size) : (w.alloc (.cells #[] 2)).ownsRow base 2 1 (.slice (some ⟨w.heap.size, 0, none⟩) 0 0) 0 [] := World.ownsRow_lit w #[] 0 hb (Nat.zero_le _) rfl
set_option maxRecDepth 20000 in
set_option maxHeartbeats 4000000 in
theorem l2Match (a1 a2 : Option Addr) (c1 c2 : Nat) (xs ys : List ByteArray) (w : World) (h1 : SS w a1 xs) (h2 : SS w a2 ys) (n1 : xs.length <= 100) (n2 : ys.length <= 100) :
  Calls Tryz.prog 147 #[.slice a1 xs.length c1, .slice a2 ys.length c2] w fun e w' => PairsPost w (mat xs ys 0 0) e w' := by
 obtain ⟨i0, hi, hz0, hz1, hz2⟩ := info_parts infoI64
 go_enter Tryz.func147, Tryz.ntmps147
 go_wp2_with fail
 refine (l2Table _ _ _ _ _ _ _ h1 h2 n1 n2).mono ?_; rintro e w1 ⟨g, c, rs, T, rfl, hT, hc, b1⟩
 have hX0 : TC w1.heap.size xs ys g w1 := hT.toTC hc
 obtain ⟨B, hB⟩ : ∃ B, w1.heap.size = B := ⟨_, rfl⟩
 have HB : Hid (w1.heap.size = B) := hB
 rw [hB] at hX0
 have hwB : w.heap.size <= B := by have := b1.size; omega
 clear hT hc hB
 go_wp2
 have hbel0 : Below w.heap.size w ((w1.alloc (.cells #[] 2)).alloc (.cells #[] 2)) := (b1.alloc b1.size _).alloc (by have := b1.size; simp; omega) _
 have hX1 : TC B xs ys g ((w1.alloc (.cells #[] 2)).alloc (.cells #[] 2)) := (hX0.grown (grownAlloc _ _) (fun _ e => by cases e)).grown (grownAlloc _ _) (fun _ e => by cases e)
 have hP0 : Pr B ((w1.alloc (.cells #[] 2)).alloc (.cells #[] 2)) (.slice (some ⟨w1.heap.size, 0, none⟩) 0 0) (.slice (some ⟨w1.heap.size + 1, 0, none⟩) 0 0) [] := by
  refine ⟨(ownLit w1 B (by rw [HB.out]; exact Nat.le_refl _)).alloc _, ?_, fun j e1 e2 => ?_⟩
  ·have := ownLit (w1.alloc (.cells #[] 2)) B (by rw [World.size_alloc, HB.out]; omega)
   simpa [snds] using this
  ·simp only [Value.ownBlock, Option.some.injEq] at e1 e2
   omega
 have hBs : B <= ((w1.alloc (.cells #[] 2)).alloc (.cells #[] 2)).heap.size := by have := HB.out; simp; omega
 clear hX0 b1
 go_loopw [7, 8, 9, 10] (fun v1 v2 vi vj wr => ∃ (i j : Nat) (l : List (Nat × Nat)), vi = .int .i64 (i : Int) /\ vj = .int .i64 (j : Int) /\ i <= xs.length /\ j <= ys.length /\ l.length <= i /\ Hid (l ++ mat xs ys i j = mat xs ys 0 0) /\ Pr B wr v1 v2 l /\ TC B xs ys g wr /\ Below w.heap.size w wr /\ B <= wr.heap.size) (fun _ _ vi vj _ => (xs.length - (intOf vi).toNat) + (ys.length - (intOf vj).toNat))
 case atStart => exact ⟨0, 0, [], rfl, rfl, Nat.zero_le _, Nat.zero_le _, Nat.le_refl _, rfl, hP0, hX1, hbel0, hBs⟩
 case round =>
  clear hP0 hX1 hbel0 hBs
  obtain ⟨i, j, l, rfl, rfl, hi1, hj1, hl, hL, hP, hX, hbel, hBr⟩ := hrel
  by_cases hij : i < xs.length /\ j < ys.length
  ·obtain ⟨hix, hjy⟩ := hij
   have q1 : (i : Int) < (xs.length : Int) := by omega
   have q2 : (j : Int) < (ys.length : Int) := by omega
   obtain ⟨b, off, ea, hb, hc⟩ := (h1.below hbel).2 i hix
   obtain ⟨b', off', ea', hb', hc'⟩ := (h2.below hbel).2 j hjy
   subst ea ea'
   obtain ⟨s, hse⟩ : ∃ s, s = xs.getD i ByteArray.empty := ⟨_, rfl⟩
   obtain ⟨t, hte⟩ : ∃ t, t = ys.getD j ByteArray.empty := ⟨_, rfl⟩
   rw [<- hse] at hc
   rw [<- hte] at hc'
   have HS : Hid (s = xs.getD i ByteArray.empty) := hse
   have HT : Hid (t = ys.getD j ByteArray.empty) := hte
   clear hse hte
   by_cases hst : s = t
   ·have hbe := beq_bytes_true hst
    have hm := mat_eq xs ys i j hix hjy (by rw [<- HS.out, <- HT.out]; exact hst)
    have HL2 : Hid ((l ++ [(i, j)]) ++ mat xs ys (i + 1) (j + 1) = mat xs ys 0 0) := by
     show _ = _
     rw [<- hL.out, hm, List.append_assoc]; rfl
    clear hst hm hL HS HT
    have hxB : ∀ k, u7.ownBlock = some k -> B <= k := fun k hk => (hP.o1.lt k hk).1
    have hyB : ∀ k, u8.ownBlock = some k -> B <= k := fun k hk => (hP.o2.lt k hk).1
    go_wp2
    go_quiet (fail)
    have hP' := hP.drewN nq
    have hX' : TC B xs ys g (wr.drewN nq) := hX
    have hbel' := below_drewN' hbel nq
    have hBr' : B <= (wr.drewN nq).heap.size := hBr
    obtain ⟨W, hW⟩ : ∃ W, wr.drewN nq = W := ⟨_, rfl⟩
    rw [hW] at hP' hX' hbel' hBr' ⊢
    clear hW hP hX hbel hBr hc hc' hb hb' h1 h2
    go_wp2_with (first | (at_builtin; refine wpList_append_own_at _ rfl (.tmp 35) (.tmp 37) 164 rfl B 2 i0 (.int .i64 0) 1 8 Tryz.underlying164 hi hz0 hz1 hz2 rfl (by decide) _ _ _ rfl (hP'.o1.alloc _) ⟨W.heap.size, 0, none⟩ 1 1 [.int .i64 (i : Int)] rfl rfl (cell_one_new _ _ _) (by simp [Value.oneCell']) (by unfold maxLen; omega) (by omega) (by simp; omega) ?_; intro v1' W1 p1 g1 _ k1; have z1 := g1.size; simp only [World.size_alloc] at z1) | (at_builtin; refine wpList_append_own_at _ rfl (.tmp 39) (.tmp 41) 164 rfl B 2 i0 (.int .i64 0) 1 8 Tryz.underlying164 hi hz0 hz1 hz2 rfl (by decide) _ _ _ rfl (hP'.mid g1) ⟨W1.heap.size, 0, none⟩ 1 1 [.int .i64 (j : Int)] rfl rfl (cell_one_new _ _ _) (by simp [Value.oneCell']) (by unfold maxLen; omega) (by omega) (by simp; omega) ?_; intro v2' W2 p2 g2 _ k2; have z2 := g2.size; simp only [World.size_alloc] at z2))
    have HP2 : Hid (Pr B W2 v1' v2' (l ++ [(i, j)])) := hP'.push p1 g1 k1 p2 g2 k2
    have HX2 : Hid (TC B xs ys g W2) := (((hX'.grown (grownAlloc _ _) (fun _ e => by cases e)).grown g1 hxB).grown (grownAlloc _ _) (fun _ e => by cases e)).grown g2 hyB
    have HB2 : Hid (Below w.heap.size w W2) := ((((hbel'.alloc (by omega) _).grown g1 (by simp; omega) (fun k hk => by have := hxB k hk; omega)).alloc (by omega) _).grown g2 (by simp; omega) (fun k hk => by have := hyB k hk; omega))
    have HZ : Hid (B <= W2.heap.size) := by show _ <= _; omega
    clear hP' hX' hbel' hBr' p1 g1 k1 p2 g2 k2 z1 z2 hxB hyB
    go_roundw
    case rel => exact ⟨i + 1, j + 1, l ++ [(i, j)], by go_num, by go_num, hix, hjy, by simp; omega, HL2, HP2.out, HX2.out, HB2.out, HZ.out⟩
    case measure => first | (simp [intOf]; omega) | simp [intOf]
   ·have hbe := beq_bytes_false hst
    obtain ⟨r, hrB, d1, D2⟩ := hX.2 (i + 1) (by omega)
    obtain ⟨r', hrB', d3, D4⟩ := hX.2 i (by omega)
    have d2 := D2 j (by omega)
    have d4 := D4 (j + 1) (by omega)
    clear D2 D4
    cases hsk : skipA xs ys i j with
    | true =>
     have hm := mat_skipA xs ys i j hix hjy (by rw [<- HS.out, <- HT.out]; exact hst) hsk
     have HL2 : Hid (l ++ mat xs ys (i + 1) j = mat xs ys 0 0) := by
      show _ = _
      rw [<- hL.out, hm]
     have hab := of_decide_eq_true hsk
     obtain ⟨A, hA⟩ : ∃ A : Int, (comAt xs ys (i + 1) j : Int) = A := ⟨_, rfl⟩
     obtain ⟨C, hC⟩ : ∃ C : Int, (comAt xs ys i (j + 1) : Int) = C := ⟨_, rfl⟩
     rw [hA] at d2
     rw [hC] at d4
     have hAC : C <= A := by omega
     clear hab hA hC hst hm hL HS HT hsk
     go_wp2
     go_quiet (fail)
     go_wp2
     go_quiet (fail)
     go_wp2
     go_roundw
     case rel => exact ⟨i + 1, j, l, by first | rfl | go_num | (congr 1; omega), by first | rfl | go_num | (congr 1; omega), by omega, by omega, by omega, HL2, hP.drewN _, hX, below_drewN' hbel _, hBr⟩
     case measure => first | (simp [intOf]; omega) | simp [intOf]
    | false =>
     have hm := mat_skipB xs ys i j hix hjy (by rw [<- HS.out, <- HT.out]; exact hst) hsk
     have HL2 : Hid (l ++ mat xs ys i (j + 1) = mat xs ys 0 0) := by
      show _ = _
      rw [<- hL.out, hm]
     have hab := of_decide_eq_false hsk
     obtain ⟨A, hA⟩ : ∃ A : Int, (comAt xs ys (i + 1) j : Int) = A := ⟨_, rfl⟩
     obtain ⟨C, hC⟩ : ∃ C : Int, (comAt xs ys i (j + 1) : Int) = C := ⟨_, rfl⟩
     rw [hA] at d2
     rw [hC] at d4
     have hAC : ¬ C <= A := by omega
     clear hab hA hC hst hm hL HS HT hsk
     go_wp2
     go_quiet (fail)
     go_wp2
     go_quiet (fail)
     go_wp2
     go_roundw
     case rel => exact ⟨i, j + 1, l, by first | rfl | go_num | (congr 1; omega), by first | rfl | go_num | (congr 1; omega), by omega, by omega, by omega, HL2, hP.drewN _, hX, below_drewN' hbel _, hBr⟩
     case measure => first | (simp [intOf]; omega) | simp [intOf]
  ·have HF : Hid (PairsPost w (mat xs ys 0 0) (.returned (.tuple #[u7, u8])) wr) := by
    have hm := mat_end xs ys i j hij
    have := hL.out
    rw [hm, List.append_nil] at this
    rw [<- this]
    exact ⟨u7, u8, rfl, hP.mono (by omega), hbel⟩
   by_cases hix : i < xs.length
   ·have q1 : (i : Int) < (xs.length : Int) := by omega
    have q2 : ¬ (j : Int) < (ys.length : Int) := by omega
    clear hP hX hbel hL hij
    go_wp2
    go_ret2
    exact HF.out
   ·have q1 : ¬ (i : Int) < (xs.length : Int) := by omega
    clear hP hX hbel hL hij
    go_wp2
    go_ret2
    exact HF.out
set_option maxRecDepth 20000 in
set_option maxHeartbeats 4000000 in
theorem matchedPlaces (a1 a2 : Option Addr) (c1 c2 : Nat) (xs ys : List ByteArray) (w : World) (h1 : SS w a1 xs) (h2 : SS w a2 ys) (n1 : xs.length <= 100) (n2 : ys.length <= 100) :
  Calls Tryz.prog 178 #[.slice a1 xs.length c1, .slice a2 ys.length c2] w fun e w' => PairsPost w (mat xs ys 0 0) e w' := by
 obtain ⟨i0, hi, hz0, hz1, hz2⟩ := info_parts infoI64
 go_enter Tryz.func178, Tryz.ntmps178
 go_wp2_with (first | fail | (refine wpList_table rfl rfl ?_; intro W1 hD b1 z1))
 have t1 := h1.toB.below b1
 have t2 := h2.toB.below b1
 refine (fill _ _ _ _ _ _ _ _ hD t1 t2 n1 n2).mono ?_; rintro e w2 ⟨rfl, hF, g2⟩
 obtain ⟨p, hp⟩ : ∃ p, w.heap.size = p := ⟨_, rfl⟩
 have HP : Hid (w.heap.size = p) := hp
 have hX0 : Skips w.heap.size xs ys w2 := hF.skips n1 n2
 have hbel0 : Below w.heap.size w w2 := b1.grown g2 b1.size (fun k hk => by cases hk; exact Nat.le_refl _)
 have hz2' : Hid (w.heap.size + 1 <= w2.heap.size) := by have := z1.out; have := g2.size; show _ <= _; omega
 obtain ⟨B, hB⟩ : ∃ B, w2.heap.size = B := ⟨_, rfl⟩
 have HB : Hid (w2.heap.size = B) := hB
 have hwB : w.heap.size < B := by have := hz2'.out; omega
 have hBs : B <= w2.heap.size := by omega
 have hP0 : Pr B w2 (.slice none 0 0) (.slice none 0 0) [] := ⟨ownNil _ _, ownNil _ _, fun j e1 _ => by cases e1⟩
 clear hD t1 t2 hF g2 b1 z1 hp hB HP hz2'
 go_wp2
 go_loopw [7, 8, 9, 10] (fun v1 v2 vi vj wr => ∃ (i j : Nat) (l : List (Nat × Nat)), vi = .int .i64 (i : Int) /\ vj = .int .i64 (j : Int) /\ i <= xs.length /\ j <= ys.length /\ l.length <= i /\ Hid (l ++ mat xs ys i j = mat xs ys 0 0) /\ Pr B wr v1 v2 l /\ Skips w.heap.size xs ys wr /\ Below w.heap.size w wr /\ B <= wr.heap.size) (fun _ _ vi vj _ => (xs.length - (intOf vi).toNat) + (ys.length - (intOf vj).toNat))
 case atStart => exact ⟨0, 0, [], rfl, rfl, Nat.zero_le _, Nat.zero_le _, Nat.le_refl _, rfl, hP0, hX0, hbel0, hBs⟩
 case round =>
  clear hP0 hX0 hbel0 hBs
  obtain ⟨i, j, l, rfl, rfl, hi1, hj1, hl, hL, hP, hX, hbel, hBr⟩ := hrel
  by_cases hij : i < xs.length /\ j < ys.length
  ·obtain ⟨hix, hjy⟩ := hij
   have q1 : (i : Int) < (xs.length : Int) := by omega
   have q2 : (j : Int) < (ys.length : Int) := by omega
   obtain ⟨b, off, ea, hb, hc⟩ := (h1.below hbel).2 i hix
   obtain ⟨b', off', ea', hb', hc'⟩ := (h2.below hbel).2 j hjy
   subst ea ea'
   obtain ⟨s, hse⟩ : ∃ s, s = xs.getD i ByteArray.empty := ⟨_, rfl⟩
   obtain ⟨t, hte⟩ : ∃ t, t = ys.getD j ByteArray.empty := ⟨_, rfl⟩
   rw [<- hse] at hc
   rw [<- hte] at hc'
   have HS : Hid (s = xs.getD i ByteArray.empty) := hse
   have HT : Hid (t = ys.getD j ByteArray.empty) := hte
   clear hse hte
   by_cases hst : s = t
   ·have hbe := beq_bytes_true hst
    have hm := mat_eq xs ys i j hix hjy (by rw [<- HS.out, <- HT.out]; exact hst)
    have HL2 : Hid ((l ++ [(i, j)]) ++ mat xs ys (i + 1) (j + 1) = mat xs ys 0 0) := by
     show _ = _
     rw [<- hL.out, hm, List.append_assoc]; rfl
    clear hst hm hL HS HT
    have hxB : ∀ k, u7.ownBlock = some k -> B <= k := fun k hk => (hP.o1.lt k hk).1
    have hyB : ∀ k, u8.ownBlock = some k -> B <= k := fun k hk => (hP.o2.lt k hk).1
    go_wp2
    go_quiet (fail)
    have hP' := hP.drewN nq
    have hX' : Skips w.heap.size xs ys (wr.drewN nq) := hX
    have hbel' := below_drewN' hbel nq
    have hBr' : B <= (wr.drewN nq).heap.size := hBr
    obtain ⟨W, hW⟩ : ∃ W, wr.drewN nq = W := ⟨_, rfl⟩
    rw [hW] at hP' hX' hbel' hBr' ⊢
    clear hW hP hX hbel hBr hc hc' hb hb' h1 h2
    go_wp2_with (first | (at_builtin; refine wpList_append_own_at _ rfl (.tmp 36) (.tmp 38) 164 rfl B 2 i0 (.int .i64 0) 1 8 Tryz.underlying164 hi hz0 hz1 hz2 rfl (by decide) _ _ _ rfl (hP'.o1.alloc _) ⟨W.heap.size, 0, none⟩ 1 1 [.int .i64 (i : Int)] rfl rfl (cell_one_new _ _ _) (by simp [Value.oneCell']) (by unfold maxLen; omega) (by omega) (by simp; omega) ?_; intro v1' W1 p1 g1 _ k1; have z1 := g1.size; simp only [World.size_alloc] at z1) | (at_builtin; refine wpList_append_own_at _ rfl (.tmp 40) (.tmp 42) 164 rfl B 2 i0 (.int .i64 0) 1 8 Tryz.underlying164 hi hz0 hz1 hz2 rfl (by decide) _ _ _ rfl (hP'.mid g1) ⟨W1.heap.size, 0, none⟩ 1 1 [.int .i64 (j : Int)] rfl rfl (cell_one_new _ _ _) (by simp [Value.oneCell']) (by unfold maxLen; omega) (by omega) (by simp; omega) ?_; intro v2' W2 p2 g2 _ k2; have z2 := g2.size; simp only [World.size_alloc] at z2))
    have HP2 : Hid (Pr B W2 v1' v2' (l ++ [(i, j)])) := hP'.push p1 g1 k1 p2 g2 k2
    have HX2 : Hid (Skips w.heap.size xs ys W2) := (((hX'.grown (grownAlloc _ _) (by simp)).grown g1 (fun e => by have := hxB _ e.symm; omega)).grown (grownAlloc _ _) (by simp)).grown g2 (fun e => by have := hyB _ e.symm; omega)
    have HB2 : Hid (Below w.heap.size w W2) := ((((hbel'.alloc (by omega) _).grown g1 (by simp; omega) (fun k hk => by have := hxB k hk; omega)).alloc (by omega) _).grown g2 (by simp; omega) (fun k hk => by have := hyB k hk; omega))
    have HZ : Hid (B <= W2.heap.size) := by show _ <= _; omega
    clear hP' hX' hbel' hBr' p1 g1 k1 p2 g2 k2 z1 z2 hxB hyB
    go_roundw
    case rel => exact ⟨i + 1, j + 1, l ++ [(i, j)], by go_num, by go_num, hix, hjy, by simp; omega, HL2, HP2.out, HX2.out, HB2.out, HZ.out⟩
    case measure => first | (simp [intOf]; omega) | simp [intOf]
   ·have hbe := beq_bytes_false hst
    have d1 := hX i j hix hjy (by rw [<- HS.out, <- HT.out]; exact hst)
    have q3 : (i : Int) < 100 := by omega
    have q4 : (j : Int) < 100 := by omega
    cases hsk : skipA xs ys i j with
    | true =>
     have hm := mat_skipA xs ys i j hix hjy (by rw [<- HS.out, <- HT.out]; exact hst) hsk
     have HL2 : Hid (l ++ mat xs ys (i + 1) j = mat xs ys 0 0) := by
      show _ = _
      rw [<- hL.out, hm]
     rw [hsk] at d1
     clear hst hm hL HS HT hsk
     go_wp2
     go_quiet (fail)
     go_wp2
     go_roundw
     case rel => exact ⟨i + 1, j, l, by first | rfl | go_num | (congr 1; omega), by first | rfl | go_num | (congr 1; omega), by omega, by omega, by omega, HL2, hP.drewN _, hX, below_drewN' hbel _, hBr⟩
     case measure => first | (simp [intOf]; omega) | simp [intOf]
    | false =>
     have hm := mat_skipB xs ys i j hix hjy (by rw [<- HS.out, <- HT.out]; exact hst) hsk
     have HL2 : Hid (l ++ mat xs ys i (j + 1) = mat xs ys 0 0) := by
      show _ = _
      rw [<- hL.out, hm]
     rw [hsk] at d1
     clear hst hm hL HS HT hsk
     go_wp2
     go_quiet (fail)
     go_wp2
     go_roundw
     case rel => exact ⟨i, j + 1, l, by first | rfl | go_num | (congr 1; omega), by first | rfl | go_num | (congr 1; omega), by omega, by omega, by omega, HL2, hP.drewN _, hX, below_drewN' hbel _, hBr⟩
     case measure => first | (simp [intOf]; omega) | simp [intOf]
  ·have HF : Hid (PairsPost w (mat xs ys 0 0) (.returned (.tuple #[u7, u8])) wr) := by
    have hm := mat_end xs ys i j hij
    have := hL.out
    rw [hm, List.append_nil] at this
    rw [<- this]
    exact ⟨u7, u8, rfl, hP.mono (by omega), hbel⟩
   by_cases hix : i < xs.length
   ·have q1 : (i : Int) < (xs.length : Int) := by omega
    have q2 : ¬ (j : Int) < (ys.length : Int) := by omega
    clear hP hX hbel hL hij
    go_wp2
    go_ret2
    exact HF.out
   ·have q1 : ¬ (i : Int) < (xs.length : Int) := by omega
    clear hP hX hbel hL hij
    go_wp2
    go_ret2
    exact HF.out
end Go.Proofs.YtcfnkndbhpdfnaaGreatDoor
namespace Go.Proofs.YtcfnkndbhpdfnaaGreatDoor
open Go.ChangeShapes Go.WideShapes Go.ChangeAt Go.RowKit
theorem newsRs {w : World} {b : Nat} {vs : List Value} (h : Rs w b vs) : ∀ j u, vs[j]? = some u -> w.cell? ((⟨b, 0, none⟩ : Addr).add j) = some u := fun j u hu => by
 by_cases hj : j = 0
 ·subst hj; simpa [Addr.add] using h 0 u hu
 ·simpa [Addr.add, hj] using h j u hu
structure EB (B : Nat) (w : World) (g1 g2 : Nat) (E : List (Nat × Nat)) : Prop where
 l1 : g1 < B
 l2 : g2 < B
 c1 : ∀ k, k < E.length -> w.cell? ⟨g1, k, none⟩ = some (.int .i64 ((E.getD k (0, 0)).1 : Int))
 c2 : ∀ k, k < E.length -> w.cell? ⟨g2, k, none⟩ = some (.int .i64 ((E.getD k (0, 0)).2 : Int))
theorem Pr.toEB {base : Nat} {w : World} {v1 v2 : Value} {E : List (Nat × Nat)} (h : Pr base w v1 v2 E) (hE : 0 < E.length) : ∃ g1 c1 g2 c2, v1 = .slice (some ⟨g1, 0, none⟩) E.length c1 /\ v2 = .slice (some ⟨g2, 0, none⟩) E.length c2 /\ EB w.heap.size w g1 g2 E := by
 have h1 := h.o1
 have h2 := h.o2
 rcases h1.2 with ⟨_, h0⟩ | ⟨g1, c1, cur1, rfl, _, hh1, _⟩
 ·omega
 rcases h2.2 with ⟨_, h0⟩ | ⟨g2, c2, cur2, rfl, _, hh2, _⟩
 ·omega
 refine ⟨g1, c1, g2, c2, rfl, rfl, (Array.getElem?_eq_some_iff.1 hh1).1, (Array.getElem?_eq_some_iff.1 hh2).1, fun k hk => ?_, fun k hk => ?_⟩
 ·rw [h1.cellAt k (by omega)]; simp [fsts, List.getD, hk]
 ·rw [h2.cellAt k (by omega)]; simp [snds, List.getD, hk]
theorem step_append_own {P : Program} {ops : Array Oper} {o : Oper} {a : Act} {w : World} {K : Act -> World -> Prop} {Q : Exit -> Act -> World -> Prop} {E : Prop}
  (hg : o.guard = none) (s x : Operand) (t : TypeId) (hop : o.op = Op.call { callee := Callee.builtin Builtin.append, args := #[s, x], argTypes := #[t, t] })
  (base : Nat) (e : TypeId) (i : TypeInfo) (z : Value) (size bytes : Nat) (ht : P.underlying t = some (.slice e)) (hi : P.info? e = some i) (hz : i.zero = some z)
  (hsize : i.size = size) (hby : i.bytes = bytes) (hzs : z.cells.size = size) (hsz : 0 < size)
  (v : Value) (n : Nat) (xs : List Value) (hs : a.eval s = v) (hown : w.ownsRow base e size v n xs)
  (ad : Addr) (m c : Nat) (news : List Value) (hx : a.eval x = .slice (some ad) m c) (hl : news.length = m * size) (hnews : ∀ j u, news[j]? = some u -> w.cell? (ad.add j) = some u) (h1 : ∀ u ∈ news, u.oneCell' = true)
  (h63 : n + m <= maxLen) (hbytes : (n + m) * bytes <= 140737488355328) (hbase : base <= w.heap.size)
  (hK : ∀ v' w', w'.ownsRow base e size v' (n + m) (xs ++ news) -> w.grownBy w' v.ownBlock -> K (a.put o.dst v') w') :
  if Region.wanted o (yielded ops a.tmps) = true then Oper.wp P o a w K Q else E := by
 have hw : Region.wanted o (yielded ops a.tmps) = true := by simp [Region.wanted, hg]
 rw [if_pos hw]
 obtain ⟨v', w', hr, h2, h3, h4, h5⟩ := run_append_own_at (P := P) w base t o.type e i z size bytes ht hi hz hsize hby hzs hsz v n xs hown ad m c news hl hnews h1 h63 hbytes hbase
 unfold Oper.wp
 simp [execOp, hop, resolve, invoke, builtin, hs, hx, hr, Result.andThen]
 exact hK _ _ h2 h3
end Go.Proofs.YtcfnkndbhpdfnaaGreatDoor
