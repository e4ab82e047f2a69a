/- The contract of the program's put, whole. No statement is proved here. -/
import Derived.Test.YtcfnkndbhpdfnaaGreatDoorPuLQ
import Derived.Sort.OwnSorted
namespace Go.Proofs.YtcfnkndbhpdfnaaGreatDoor
open Go.ChangeShapes Go.WideShapes Go.ChangeAt Go.RowKit
def qL (l : List Ob) (k : Int) (d : ByteArray) : List Ob := if fz l (idN k d) = -1 /\ ¬ 200 <= l.length then l ++ [(idN k d, k, d)] else l
theorem idN_size (k : Int) (d : ByteArray) : (idN k d).size = 5 := idB_size (idB_idN k d)
theorem putW (p b : Nat) (l : List Ob) (k : Int) (d : ByteArray) (w : World) (hR : Rf w p [.map (some b), .int .i64 (l.length : Int)]) (hbp : b < p) (hp : p < w.heap.size) (hS : Sh w b l) :
  Calls Tryz.prog 52 #[.pointer (some ⟨p, 0, none⟩), .agg #[.string (idN k d), .int .i64 k, .string d]] w fun e w' => e = .returned (.int .i64 (pC l k d)) /\ Rf w' p [.map (some b), .int .i64 ((qL l k d).length : Int)] /\ Sh w' b (qL l k d) /\ Below b w w' /\ w.heap.size <= w'.heap.size /\ PK b p w w' := by
 rcases fz_cases l (idN k d) with e | ⟨n, e, hn, e2⟩
 ·by_cases h200 : 200 <= l.length
  ·have hq : qL l k d = l := if_neg (fun q => q.2 h200)
   rw [hq, (p_full e h200).1]
   exact putOld p b l (idN k d) d ⟨#[]⟩ ⟨#[]⟩ k 0 2 false w hR hbp hp hS (idN_size k d) (fun w h => h.miss (idN_size k d) (fz_out e)) (fun h => by cases h) (fun _ => ⟨rfl, h200⟩)
  ·have hq : qL l k d = l ++ [(idN k d, k, d)] := if_pos ⟨e, h200⟩
   rw [hq, (p_new e h200).1, List.length_append]
   exact putNew p b l (idN k d) d k w hR hbp hp hS (idN_size k d) (fz_out e) (by omega)
 ·have hq : qL l k d = l := if_neg (fun q => by have := q.1; omega)
  rw [hq]
  have hm := ob_mem l n hn
  obtain ⟨o, ho⟩ : ∃ o, l.getD n onil = o := ⟨_, rfl⟩
  have hs := fun h => (p_same (l := l) (k := k) (d := d) e h).1
  have ht := fun h => (p_other (l := l) (k := k) (d := d) e h).1
  rw [ho] at e2 hm hs ht
  have hlk : ∀ w, Sh w b l -> (Instr.lookup 89 (.map (some b)) (kv (idN k d)) true).run Tryz.prog w = .ok (.tuple #[.agg #[.string o.1, .int .i64 o.2.1, .string o.2.2], .bool true]) w := fun w h => by
   have := h.hit hm
   rw [e2] at this
   rw [this]; unfold obV; rw [e2]
  refine putOld p b l (idN k d) d o.1 o.2.2 k o.2.1 (pC l k d) true w hR hbp hp hS (idN_size k d) hlk (fun _ => ?_) (fun h => by cases h)
  by_cases ed : o.2.2 = d
  ·rw [if_pos ed, hs ed]
  ·rw [if_neg ed, ht ed]
theorem q_perm {l : List Ob} {k : Int} {d : ByteArray} (ha : Asc l) (h : pC l k d = 0) : Asc (pL l k d) /\ (pL l k d).Perm (qL l k d) := by
 rcases fz_cases l (idN k d) with e | ⟨n, e, hn, e2⟩
 ·by_cases h200 : 200 <= l.length
  ·rw [(p_full e h200).1] at h; omega
  ·rw [(p_new e h200).2.1, show qL l k d = l ++ [(idN k d, k, d)] from if_pos ⟨e, h200⟩]
   exact ⟨insO_asc ha (fz_out e), insO_perm _ _⟩
 ·have hq : qL l k d = l := if_neg (fun q => by have := q.1; omega)
  rw [hq]
  by_cases ed : (l.getD n onil).2.2 = d
  ·rw [(p_same e ed).2.1]
   exact ⟨ha, List.Perm.refl _⟩
  ·rw [(p_other e ed).1] at h; omega
theorem q_len {l : List Ob} {k : Int} {d : ByteArray} (h : l.length <= 200) : (qL l k d).length <= 200 := by
 unfold qL
 split
 ·rename_i q
  simp; omega
 ·exact h
end Go.Proofs.YtcfnkndbhpdfnaaGreatDoor
namespace Go.Proofs.YtcfnkndbhpdfnaaGreatDoor
open Go.ChangeShapes Go.WideShapes Go.ChangeAt Go.RowKit Go.Sort
def encO (o : Ob) : List Value := [.string o.1, .int .i64 o.2.1, .string o.2.2]
theorem flatO (l : List Ob) : (flatK encO 3 l.toArray).toList = ocells l := by
 unfold flatK ocells rowG
 rw [Array.toList_map, Array.toList_range, show l.toArray.size = l.length by simp]
 refine List.map_congr_left fun t ht => ?_
 have ht := List.mem_range.1 ht
 have h3 : t / 3 < l.length := by omega
 have e : (l.toArray)[t / 3]! = l.getD (t / 3) onil := by simp [List.getD, h3]
 rw [e]
 unfold ocell encO
 have hm : t % 3 = 0 \/ t % 3 = 1 \/ t % 3 = 2 := by omega
 rcases hm with h | h | h <;> simp [h]
theorem holdsO {w : World} {base g cap : Nat} {l : List Ob} (h : w.ownsRow base 50 3 (.slice (some ⟨g, 0, none⟩) l.length cap) l.length (ocells l)) : HoldsK encO 3 w g 0 l.toArray := by
 intro j hj
 rw [size_flatK] at hj
 have hj2 : j < l.length * 3 := by simpa using hj
 rw [Nat.zero_add]
 refine ⟨?_, h.frozenAt j⟩
 rw [h.cellAt j (by omega), <- flatO, Array.getElem?_toList]
 show (flatK encO 3 l.toArray)[j]? = some (flatK encO 3 l.toArray)[j]!
 rw [getElem!_pos _ j (by rw [size_flatK]; exact hj), Array.getElem?_eq_getElem (by rw [size_flatK]; exact hj)]
theorem heapO {w : World} {g n : Nat} {os : Array Obj} {cur : Array Value} {e : TypeId} {fr : Nat × Nat} (d : Array Ob) (hb : w.heap[g]? = some (.cells cur e fr)) :
  (sortWorldK encO 3 w g 0 n d os).heap[g]? = some (.cells (putCells id 0 (flatK encO 3 d) cur) e fr) := by
 have hg : g < w.heap.size := (Array.getElem?_eq_some_iff.1 hb).1
 unfold sortWorldK putRowK
 rw [heap_grow_old _ _ (by simpa using hg)]
 simp [putRow, mapBlock, Sort.ahead, Array.getElem?_modify, hb, onCells]
theorem grownO {w : World} {g n : Nat} {os : Array Obj} (d : Array Ob) : w.grownBy (sortWorldK encO 3 w g 0 n d os) (some g) := by
 unfold sortWorldK putRowK
 refine ⟨rfl, rfl, rfl, by simp, fun k hk hne => ?_⟩
 rw [heap_grow_old _ _ (by simpa using hk)]
 have : g ≠ k := fun e => hne (by rw [e])
 simp [putRow, mapBlock, Sort.ahead, Array.getElem?_modify, this]
theorem takeO (cur F : Array Value) (h : F.size <= cur.size) : (putCells id 0 F cur).toList.take F.size = F.toList := by
 apply List.ext_getElem?
 intro j
 by_cases hj : j < F.size
 ·rw [List.getElem?_take_of_lt hj, Array.getElem?_toList]
  simp [putCells, hj, show j < cur.size by omega]
 ·rw [List.getElem?_take_eq_none (by omega), List.getElem?_eq_none (by simp; omega)]
theorem ownO {w : World} {base g cap n : Nat} {e : TypeId} {os : Array Obj} {cur : Array Value} {k : Nat} {m : List Ob} (hl : m.length = k) (hbase : base <= g) (hb : w.heap[g]? = some (.cells cur e (0, 0)))
  (h1 : k <= cap) (h2 : cap <= maxLen) (h3 : cur.size = cap * 3) :
  (sortWorldK encO 3 w g 0 n m.toArray os).ownsRow base e 3 (.slice (some ⟨g, 0, none⟩) k cap) k (ocells m) :=
 ⟨by rw [ocells_length, hl], .inr ⟨g, cap, _, rfl, hbase, heapO _ hb, h1, h2, by simp [putCells, h3], by
  have hs : (flatK encO 3 m.toArray).size = k * 3 := by rw [size_flatK]; simp [hl]
  have := takeO cur (flatK encO 3 m.toArray) (by rw [hs, h3]; omega)
  rw [hs, flatO] at this
  exact this⟩⟩
def cfO (o p : Ob) : Int := Lib.compareBytes o.1.data.toList p.1.data.toList
theorem cmp_lt : ∀ a b : List UInt8, decide (Lib.compareBytes a b < 0) = Op.bytesLess a b
 | [], [] => rfl
 | [], _ :: _ => rfl
 | _ :: _, [] => rfl
 | x :: a, y :: b => by
  have ih := cmp_lt a b
  unfold Lib.compareBytes Op.bytesLess
  by_cases h1 : x < y
  ·simp [h1]
  ·by_cases h2 : y < x
   ·have h3 : ¬ x = y := fun e => by rw [e] at h1 h2; exact h1 h2
    simp [h1, h2, h3]
   ·have e : x = y := by
     apply UInt8.toNat_inj.1
     have a1 : ¬ x.toNat < y.toNat := h1
     have a2 : ¬ y.toNat < x.toNat := h2
     omega
    subst e
    simp [h1, ih]
theorem ltOf_eq (o p : Ob) : ltOf cfO o p = ltO o p := by
 unfold ltOf cfO ltO
 rw [cmp_lt, ByteArray.toList_eq, ByteArray.toList_eq]
theorem swoO : SWO (ltOf cfO) where
 irrefl x := by rw [ltOf_eq]; exact bl_irr _
 trans x y z h1 h2 := by rw [ltOf_eq] at *; exact bl_trans _ _ _ h1 h2
 ntrans x y z h1 h2 := by
  rw [ltOf_eq] at *
  cases h : ltO x z with
  | false => rfl
  | true =>
   unfold ltO at *
   rcases bl_total x.1.toList y.1.toList with k | k | k
   ·rw [k] at h1; cases h1
   ·rw [k] at h; rw [h] at h2; cases h2
   ·have := bl_trans _ _ _ k h
    rw [this] at h2; cases h2
set_option maxHeartbeats 1000000 in
theorem byIdC (x y : Ob) (W : World) : Calls Tryz.prog 97 #[.agg #[.string x.1, .int .i64 x.2.1, .string x.2.2], .agg #[.string y.1, .int .i64 y.2.1, .string y.2.2]] W fun e w' => e = .returned (.int .i64 (cfO x y)) /\ ∃ q os', w' = grow (W.drewN q) os' := by
 have hcon := fun W' => Tryz.strings_Compare x.1 y.1 W'
 unfold cfO
 generalize Lib.compareBytes x.1.data.toList y.1.data.toList = r at hcon ⊢
 go_enter Tryz.func97, Tryz.ntmps97
 go_wp2_with (go_at_call 109; refine (hcon _).mono ?_; rintro e w' ⟨rfl, rfl⟩)
 first
  | (go_ret; exact ⟨rfl, 0, _, by rw [alloc_eq_grow, alloc_eq_grow, grow_grow]; rfl⟩)
  | (go_ret; exact ⟨rfl, 1, _, by rw [alloc_eq_grow, alloc_eq_grow, grow_grow]; rfl⟩)
theorem cmpO (blk off size : Nat) (w : World) : CmpLays Tryz.prog 97 #[] encO 3 cfO blk off size w :=
 fun _ _ _ _ x y => byIdC x y _
theorem enterById : ∀ args w, (callFunc 97 args).run Tryz.prog w = .ok (.enter 97 args) w := enters_of Tryz.func97 (by kernel_rfl) rfl
theorem sortedO {l : List Ob} {d : Array Ob} (hp : PermIn 0 l.toArray.size l.toArray d) (hs : SortedIn (ltOf cfO) 0 l.toArray.size d) : d.toList.Perm l /\ d.toList.Pairwise fun o p => ltO p o = false := by
 obtain ⟨h1, _, h3⟩ := hp
 have e1 : (d.extract 0 l.toArray.size) = d := by rw [<- h1]; simp
 have e2 : (l.toArray.extract 0 l.toArray.size) = l.toArray := by simp
 rw [e1, e2] at h3
 refine ⟨by simpa using h3, ?_⟩
 rw [List.pairwise_iff_getElem]
 intro i j hi hj hij
 have := hs i j (Nat.zero_le _) hij (by rw [<- h1]; simpa using hj)
 rw [ltOf_eq] at this
 have hi' : i < d.size := by simpa using hi
 have hj' : j < d.size := by simpa using hj
 rw [getElem!_pos d i hi', getElem!_pos d j hj'] at this
 simpa using this
theorem sortC (base : Nat) (v : Value) (acc : List Ob) (w : World) (h : w.ownsRow base 50 3 v acc.length (ocells acc)) (hn : acc.length <= 1048576) :
  Calls Tryz.prog 96 #[v, .func (.func 97) #[] #[]] w fun e w' => e = .returned (.tuple #[]) /\ ∃ m : List Ob, m.Perm acc /\ (m.Pairwise fun o p => ltO p o = false) /\ w'.ownsRow base 50 3 v acc.length (ocells m) /\ w.grownBy w' v.ownBlock := by
 cases acc with
 | nil =>
  obtain ⟨a, c, rfl⟩ : ∃ a c, v = .slice a 0 c := by
   rcases h.2 with ⟨h', _⟩ | ⟨g, cap, cur, h', _⟩
   ·exact ⟨none, 0, h'⟩
   ·exact ⟨_, _, h'⟩
  refine (AnyF.slices_SortFunc_none Tryz.laysSortO a c _ w).mono ?_
  rintro e w' ⟨rfl, rfl⟩
  exact ⟨rfl, [], List.Perm.refl _, List.Pairwise.nil, h, World.grownBy.refl _ _⟩
 | cons o t =>
  rcases h.2 with ⟨_, h0⟩ | ⟨g, cap, cur, rfl, hbase, hb, h1, h2, h3, h4⟩
  ·simp at h0
  ·have hH := holdsO h
   have hg : g < w.heap.size := (Array.getElem?_eq_some_iff.1 hb).1
   have hc := AnyQ.slices_SortFunc Tryz.laysSortO 3 Tryz.isAgg50 Tryz.sizeOf50 encO (fun _ => rfl) (fun x v hv => by simp [encO] at hv; rcases hv with rfl | rfl | rfl <;> rfl) cfO swoO 97 #[] g 0 cap (o :: t).toArray w enterById (cmpO g 0 _ w) hH hg (by simp at hn ⊢; omega)
   refine hc.mono ?_
   rintro e w' ⟨rfl, d, n, os, hp, hs, rfl⟩
   obtain ⟨p1, p2⟩ := sortedO hp hs
   refine ⟨rfl, d.toList, p1, p2, ?_, ?_⟩
   ·have := ownO (os := os) (n := n) (m := d.toList) (by rw [p1.length_eq]) hbase hb h1 h2 h3
    simpa using this
   ·exact grownO d
end Go.Proofs.YtcfnkndbhpdfnaaGreatDoor
namespace Go.Proofs.YtcfnkndbhpdfnaaGreatDoor
open Go.ChangeShapes Go.WideShapes Go.ChangeAt Go.RowKit Go.Maps

def OR (L : List Ob) (w : World) (e : Ending) (w' : World) : Prop := ∃ v, e = .returned v /\ w'.ownsRow w.heap.size 50 3 v L.length (ocells L) /\ Below w.heap.size w w'

set_option maxRecDepth 20000 in
set_option maxHeartbeats 2000000 in
theorem listC (p b : Nat) (l L : List Ob) (x : Value) (w : World) (hR : Rf w p [.map (some b), x]) (hS : Sh w b l) (hd : (l.map fun o => o.1).Nodup) (hl : l.length <= 200) (hs : SmallO l) (hL : Asc L) (hp : L.Perm l) :
    Calls Tryz.prog 59 #[.pointer (some ⟨p, 0, none⟩)] w fun e w' => OR L w e w' := by
  obtain ⟨i0, hi, hz0, hz1, hz2⟩ := info_parts infoObj
  obtain ⟨D, hown, hT⟩ := hS.tells
  have c0 := hR.at_ 0 _ rfl
  have hb := hown.lt
  have hsz : size D = l.length := hT.1
  have HT : Hid (Tells D l) := hT
  have HL : ∀ (m acc : List Ob) (left : Lit -> Bool), Got l left acc -> (∀ z, left z = false) -> m.Perm acc -> (m.Pairwise fun o p => ltO p o = false) -> Hid (m = L) := fun m acc left hG hz h1 h2 => by
    have q1 := hG.perm (ids_nodup hd) hz
    have q2 := h1.trans q1
    exact asc_eq (q2.trans hp.symm) (asc_sorted q2 hd h2) hL
  have hLl : L.length = l.length := hp.length_eq
  have HLl : Hid (L.length = l.length) := hLl
  have HG0 : Hid (Got l (has D) []) := Got.start hT
  clear hR hS hT hd hL hp hLl
  go_enter Tryz.func59, Tryz.ntmps59
  go_wp2_with (first | (at_range; refine wpList_range_own _ rfl _ 89 rfl 119 50 lawKey undMap obR b l.length D rfl hown ?_; intro w0 hrg0 hg0 hs0) | go_in)
  go_frame
  have B0 : Below w.heap.size w w0 := (Below.refl _ _).grown hg0 (Nat.le_refl _) (fun j hj => by cases hj)
  clear hg0 hs0 c0 hown
  rw [hsz] at hrg0
  go_loopw [3] (fun v wr => ∃ (left : Lit -> Bool) (cnt : Nat) (acc : List Ob), wr.ranges Tryz.prog 119 obR b w.heap.size l.length D left cnt /\ acc.length + cnt <= l.length /\ wr.ownsRow w.heap.size 50 3 v acc.length (ocells acc) /\ Hid (Got l left acc) /\ Below w.heap.size w wr) (fun _ wr => wr.rangeLeft b w.heap.size)
  case atStart => exact ⟨_, _, [], hrg0, by simp, ⟨rfl, .inl ⟨rfl, rfl⟩⟩, HG0, B0⟩
  case round =>
    clear hrg0 B0 HG0
    obtain ⟨left, cnt, acc, hrg, hcs, hrow, hC, hnx⟩ := hrel
    have hbw := hnx.size
    go_wp2_with (first
      | (at_next; refine wpList_next_ranges _ rfl _ rfl 119 lawKey obR (fun v : Value => v) obV (fun key kl hk => ⟨key, rfl⟩) (fun v y hv => by
            unfold obR at hv
            split at hv
            · rename_i s k t
              exact ⟨(s, k, t), rfl⟩
            · cases hv) b w.heap.size l.length _ _ _ rfl hrg ?_ ?_)
      | go_in)
    · intro hc0 hl0
      have hLL := fun m h1 h2 => HL m acc left hC.out hl0 h1 h2
      have hlen : acc.length <= 1048576 := by omega
      have hso := sortC w.heap.size _ acc wr hrow hlen
      have hlt := hrow.lt
      clear HL HT hrow hrg hl0 hC
      go_wp2_with (go_at_call 96; refine hso.mono ?_; rintro e w' ⟨rfl, m, p1, p2, o1, g1⟩)
      have e := (hLL m p1 p2).out
      subst e
      have hal : acc.length = m.length := p1.length_eq.symm
      rw [hal] at o1
      have hB := hnx.grown g1 hnx.size (fun j hj => (hlt j hj).1)
      clear p1 p2 hLL g1 hso
      go_ret
      exact ⟨_, rfl, o1, hB⟩
    · intro key x0 x1 x2 z yd yp w2 cnt2 hkey hlk hv hat hrg2 hlt hg2 hs2 hen
      obtain ⟨hcl, rfl⟩ := HT.out.entry (c := (x0, x1, x2)) hv hat
      have hC2 : Hid (Got l _ (acc ++ [(x0, x1, x2)])) := hC.out.step HT.out hcl hlk
      have hrow2 := hrow.kept hg2 (Or.inr (row_ne_iter hrow hrg).symm)
      have hsm := hs _ hcl
      have hB2 := hnx.grown hg2 hnx.size (fun j hj => by cases hj; exact Nat.le_refl _)
      have hz2' : wr.heap.size <= w2.heap.size := hg2.size
      have HM : Hid (wr.rangeLeft b w.heap.size = cnt) := hrg.left_eq
      clear hs2 hC hv hat hkey hlk hcl hg2 HL hnx hrow hrg
      simp only [] at hsm
      have hCl := fun w => cloneObjectC x0 x2 x1 w hsm.1 hsm.2
      unfold obV at hen
      unfold obV
      simp only [] at hen ⊢
      have bA : Below w2.heap.size w2 (w2.alloc (.cells #[.string x0, .int .i64 x1, .string x2] 50)) := allocBelow _ _
      have oA := hrow2.kept (grownOfBelow bA none) (blockCases _ _ (fun _ _ h => by cases h))
      have rA := (hrg2.alloc (.cells #[.string x0, .int .i64 x1, .string x2] 50))
      have BA : Below w.heap.size w (w2.alloc (.cells #[.string x0, .int .i64 x1, .string x2] 50)) := hB2.trans (bA.mono hB2.size)
      have zA : w2.heap.size + 1 = (w2.alloc (.cells #[.string x0, .int .i64 x1, .string x2] 50)).heap.size := by simp
      clear hrow2 hrg2 bA
      go_wp2_with (first
        | (go_at_call 95; refine (hCl _).mono ?_; rintro e w3 ⟨rfl, b3⟩
           have o3 := oA.kept (grownOfBelow b3 none) (blockCases _ _ (fun _ _ h => by cases h))
           have r3 := rA.kept (grownOfBelow b3 none) (by simp) (by simp)
           have B3 : Below w.heap.size w w3 := BA.trans (b3.mono BA.size)
           have bB := allocBelow w3 (.cells #[.string x0, .int .i64 x1, .string x2] 50)
           have oB := o3.kept (grownOfBelow bB none) (blockCases _ _ (fun _ _ h => by cases h))
           have rB := r3.kept (grownOfBelow bB none) (by simp) (by simp)
           have BB : Below w.heap.size w (w3.alloc (.cells #[.string x0, .int .i64 x1, .string x2] 50)) := B3.trans (bB.mono B3.size)
           have nB := newsCells w3 #[.string x0, .int .i64 x1, .string x2] 50
           have sB := BB.size
           have hlB := oB.lt
           have hne1 := row_ne_iter oB rB
           clear o3 r3 B3 bB oA rA BA b3 hCl)
        | (at_builtin; refine wpList_appO rfl (.tmp 15) (.tmp 18) rfl w.heap.size _ acc rfl oB ⟨w3.heap.size, 0, none⟩ 1 [(x0, x1, x2)] rfl (by rw [ocells_one]; exact nB) (by simp; omega) sB ?_; intro v4 w4 o4 g4 n4 k4)
        | go_in)
      have hrg4 := rB.kept g4 (fun e => by have := (hlB _ e.symm).1; omega) hne1
      have B4 : Below w.heap.size w w4 := BB.grown g4 sB (fun j hj => (hlB j hj).1)
      clear nB n4 k4 oB rB BB
      go_roundw
      case rel => exact ⟨_, cnt2, acc ++ [(x0, x1, x2)], hrg4, by simp; omega, o4, hC2, B4⟩
      case measure => rw [hrg4.left_eq, HM.out]; exact hlt
end Go.Proofs.YtcfnkndbhpdfnaaGreatDoor
