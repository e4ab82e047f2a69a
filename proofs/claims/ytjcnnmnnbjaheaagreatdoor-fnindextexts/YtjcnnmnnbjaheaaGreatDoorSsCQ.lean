/- The iterator over the parts of a text between its slashes (strings.SplitSeq): its contract. No statement is proved here. -/
import Derived.RangeFuncNested
import Derived.RangeFuncBound
import Derived.RangeFuncCalls
import Derived.RangeFuncLeaves
import Derived.RangeFuncBox
import Derived.Shelf.Abstract
import Derived.Shelf.RegionOpen
import Derived.WalkKit
import Derived.OwnWalkIn
import Derived.TacticsInMore
import Derived.LoopNIn
import Derived.LoopIn
import Derived.WalkSpells
import Derived.Test.YtjcnnmnnbjaheaaGreatDoorRows
import Derived.Test.YtjcnnmnnbjaheaaGreatDoorLemQ
import Derived.Test.YtjcnnmnnbjaheaaGreatDoorLFLemQ
import Derived.Test.YtjcnnmnnbjaheaaGreatDoorCutLQ
import Derived.Test.YtjcnnmnnbjaheaaGreatDoorFlLQ
import Derived.Test.YtjcnnmnnbjaheaaGreatDoorIdLQ
namespace Go.Proofs.YtjcnnmnnbjaheaaGreatDoor
open Go.RowKit Go.Shelf
attribute [local go_sem] Oper.semAt_some

/-- The boxes of the iterator: what is left of the text, the text between, how much of it is kept. -/
structure SsB (W : World) (b : Nat) (s : ByteArray) : Prop where
  h0 : W.heap[b]? = some (.cells #[.string s] 9 (0, 0))
  h1 : W.heap[b + 1]? = some (.cells #[.string ⟨#[47]⟩] 9 (0, 0))
  h2 : W.heap[b + 2]? = some (.cells #[.int .i64 0] 3 (0, 0))
theorem SsB.kept {W W' : World} {b : Nat} {s : ByteArray} (h : SsB W b s) (hk : ∀ k, b ≤ k → k < b + 3 → W'.heap[k]? = W.heap[k]?) : SsB W' b s :=
  ⟨(hk b (by omega) (by omega)).trans h.h0, (hk (b + 1) (by omega) (by omega)).trans h.h1, (hk (b + 2) (by omega) (by omega)).trans h.h2⟩
theorem box_cell {W : World} {b : Nat} {v : Value} {t : TypeId} (h : W.heap[b]? = some (.cells #[v] t (0, 0))) : W.cell? ⟨b, 0, none⟩ = some v := by simp [World.cell?, h]
theorem box_frozen {W : World} {b : Nat} {v : Value} {t : TypeId} (h : W.heap[b]? = some (.cells #[v] t (0, 0))) : W.frozen? ⟨b, 0, none⟩ = false := by simp [World.frozen?, h]
theorem box_set {W : World} {b : Nat} {u v : Value} {t : TypeId} (h : W.heap[b]? = some (.cells #[u] t (0, 0))) : (W.setCell ⟨b, 0, none⟩ v).heap[b]? = some (.cells #[v] t (0, 0)) := by
  simp [World.setCell, Array.getElem?_modify, h]
theorem SsB.set {W : World} {b : Nat} {s : ByteArray} (h : SsB W b s) (x : ByteArray) : SsB (W.setCell ⟨b, 0, none⟩ (.string x)) b x :=
  ⟨box_set h.h0, (setCell_block (by omega)).trans h.h1, (setCell_block (by omega)).trans h.h2⟩
def leftIn (b : Nat) (W : World) : Nat := match W.cell? ⟨b, 0, none⟩ with
  | some (.string x) => x.size
  | _ => 0
theorem leftIn_eq {W : World} {b : Nat} {s : ByteArray} (h : SsB W b s) : leftIn b W = s.size := by
  unfold leftIn; rw [box_cell h.h0]
theorem ext_ext (s : ByteArray) (k i : Nat) (h : k + i ≤ s.size) : (s.extract k s.size).extract 0 i = s.extract k (k + i) := by
  apply bytes_inj2
  rw [ByteArray.toList_eq, ByteArray.toList_eq, extract_data, extract_data, extract_data, List.drop_zero, List.take_take]
  congr 1
  omega
theorem ext_rest (s : ByteArray) (k i : Nat) (h : k + i ≤ s.size) : (s.extract k s.size).extract i (s.extract k s.size).size = s.extract (k + i) s.size := by
  apply bytes_inj2
  rw [ByteArray.toList_eq, ByteArray.toList_eq, extract_data, extract_data, extract_data]
  rw [List.take_of_length_le (l := List.drop k s.data.toList) (by rw [List.length_drop, size_eq]; omega), List.drop_drop, List.take_of_length_le, List.take_of_length_le]
  · rw [List.length_drop, size_eq]; omega
  · rw [List.length_drop, size_eq, ByteArray.size_extract]; omega

set_option maxRecDepth 100000 in
set_option maxHeartbeats 2000000 in
theorem split1_in (n : Nat) (hn : 1 ≤ n) (l b : Nat) (s : ByteArray) (hs : s.size ≤ 1048576) (J Jx : List ByteArray → World → Prop) (hJb : Bides b J)
    (hY : ∀ pre x W, J pre W → pre ++ [x] <+: cutOf 47 s → YieldAt Fence.wide (n - 1) Tryz.prog l #[.string x] W fun e W' =>
      (e = .returned (.bool true) ∧ J (pre ++ [x]) W' ∧ ∀ k, b ≤ k → k < b + 3 → W'.heap[k]? = W.heap[k]?) ∨ (e = .returned (.bool false) ∧ Jx (pre ++ [x]) W'))
    (W : World) (hB : SsB W b s) (h0 : J [] W) :
    CallsIn Fence.wide n Tryz.prog 120 #[.func (.yield l) #[] #[], .pointer (some ⟨b + 1, 0, none⟩), .pointer (some ⟨b, 0, none⟩), .pointer (some ⟨b + 2, 0, none⟩)] W fun e W' => (∃ v, e = .returned v) ∧
      (J (cutOf 47 s) W' ∨ (∃ pre, pre <+: cutOf 47 s ∧ Jx pre W')) := by
  have hc1 := box_cell hB.h1
  refine callsIn_of_wp Tryz.func120 rfl trivial ?_ rfl
  simp only [Tryz.ntmps120, List.size_toArray, List.length_cons, List.length_nil, Nat.reduceAdd, Nat.reduceSub, Array.replicate_succ, Array.replicate_zero, List.push_toArray, List.append_toArray, List.nil_append, List.cons_append]
  gi_wp2
  clear hc1
  gi_loopw [7] (fun _ wr => ∃ (k : Nat) (pre : List ByteArray), k ≤ s.size ∧ Hid (cutOf 47 s = pre ++ cutFrom 47 s k) ∧ SsB wr b (s.extract k s.size) ∧ J pre wr)
    (fun _ wr => leftIn b wr)
  case atStart =>
    refine ⟨0, [], Nat.zero_le _, rfl, ?_, h0⟩
    have e : s.extract 0 s.size = s := by simp
    rw [e]; exact hB
  case round =>
    obtain ⟨k, pre, hk, HX, hbx, hJs⟩ := hrel
    have hc0 := box_cell hbx.h0
    have hf0 := box_frozen hbx.h0
    have hc1 := box_cell hbx.h1
    have hc2 := box_cell hbx.h2
    have hm := leftIn_eq hbx
    have hsx : (s.extract k s.size).size = s.size - k := by rw [ByteArray.size_extract]; omega
    have hI := fun w => index47 (s.extract k s.size) w
    have hdl : (s.extract k s.size).data.toList = s.data.toList.drop k := by
      rw [extract_data, List.take_of_length_le (by rw [List.length_drop, size_eq]; omega)]
    rw [hdl] at hI
    obtain ⟨i, hi⟩ : ∃ i, Lib.indexByte (s.data.toList.drop k) 47 = i := ⟨_, rfl⟩
    rw [hi] at hI
    by_cases hneg : i < 0
    · have hno := idx_none (c := 47) (s := s) (fr := k) (by rw [hi]; exact hneg)
      have hlast := cutFrom_last 47 s k hno
      have HE : Hid (cutOf 47 s = pre ++ [s.extract k s.size]) := by show _ = _; rw [HX.out, hlast]
      obtain ⟨fn, tmps, assign, body, hy, hR⟩ := hY pre (s.extract k s.size) wr hJs (by rw [HE.out]; exact List.prefix_refl _)
      clear hi hno hlast HX hdl hY
      gi_wp2_with (refine ⟨trivial, ?_⟩; gi_at_call 115; refine (callsIn_wide.2 (hI _)).mono ?_; rintro e w' ⟨rfl, rfl⟩)
      refine hR.mono ?_
      rintro e W3 (⟨rfl, hJ3, hk3⟩ | ⟨rfl, hJx3⟩)
      · gi_wp2
        go_end0
        exact ⟨⟨_, rfl⟩, .inl (by rw [HE.out]; exact hJ3)⟩
      · gi_wp2
        go_end0
        exact ⟨⟨_, rfl⟩, .inr ⟨_, by rw [HE.out]; exact List.prefix_refl _, hJx3⟩⟩
    · obtain ⟨y1, y2, y3⟩ := indexByte_split (s.data.toList.drop k) 47 (by rw [hi]; exact hneg)
      obtain ⟨m, rfl⟩ := Int.eq_ofNat_of_zero_le (show 0 ≤ i by omega)
      rw [hi] at y1 y2 y3
      have em : (m : Int).toNat = m := rfl
      rw [em] at y1 y2 y3
      rw [List.length_drop, size_eq] at y3
      have hkm : k + m < s.size := by omega
      have hbyte : s[k + m] = 47 := by
        rw [← sg_byte s (k + m) hkm]
        have e1 : (s.data.toList.drop k)[m]? = some 47 := by
          rw [y2, List.getElem?_append_right (by rw [List.length_take, List.length_drop, size_eq]; omega)]
          rw [List.length_take, List.length_drop, size_eq, show m - min m (s.size - k) = 0 by omega]
          rfl
        rw [List.getElem?_drop, List.getElem?_eq_getElem (by rw [size_eq]; exact hkm)] at e1
        exact Option.some.inj e1
      have hat := cutFrom_at 47 s k (k + m) (by omega) hkm (by unfold sg; rw [show k + m - k = m by omega]; exact y1) hbyte
      have HS : Hid (cutOf 47 s = (pre ++ [s.extract k (k + m)]) ++ cutFrom 47 s (k + m + 1)) := by show _ = _; rw [HX.out, hat]; simp
      have E1 := ext_ext s k m (by omega)
      have E2 := ext_rest s k (m + 1) (by omega)
      obtain ⟨fn, tmps, assign, body, hy, hR⟩ := hY pre (s.extract k (k + m)) wr hJs (by rw [HS.out]; exact List.prefix_append _ _)
      have E3 : (s.extract k s.size).extract (m + 1) (s.size - k) = s.extract (k + (m + 1)) s.size := by rw [← hsx]; exact E2
      have hms : m ≤ 1048576 := by omega
      clear hi y1 y2 hat HX hdl hY hbyte em
      gi_wp2_with (refine ⟨trivial, ?_⟩; gi_at_call 115; refine (callsIn_wide.2 (hI _)).mono ?_; rintro e w' ⟨rfl, rfl⟩)
      refine hR.mono ?_
      rintro e W3 (⟨rfl, hJ3, hk3⟩ | ⟨rfl, hJx3⟩)
      · have hb3 := hbx.kept hk3
        have hc0 := box_cell hb3.h0
        have hf0 := box_frozen hb3.h0
        have hc1 := box_cell hb3.h1
        have hn3 := hb3.set (s.extract (k + (m + 1)) s.size)
        have hJ4 := hJb.1 _ _ (.string (s.extract (k + (m + 1)) s.size)) hJ3
        have hm4 := leftIn_eq hn3
        have hm3 : leftIn b w' = s.size - k := by rw [hm, hsx]
        have hz4 : (s.extract (k + (m + 1)) s.size).size = s.size - (k + (m + 1)) := by rw [ByteArray.size_extract]; omega
        clear hk3 hbx hJs hb3 hR hy
        gi_wp2
        go_roundw
        case rel => exact ⟨k + (m + 1), pre ++ [s.extract k (k + m)], by omega, HS, hn3, hJ4⟩
        case measure => rw [hm4, hm3, hz4]; omega
      · gi_wp2
        refine bodyPost_ret (results_none rfl _ _ _) rfl ?_
        exact ⟨⟨_, rfl⟩, .inr ⟨pre ++ [s.extract k (k + m)], by rw [HS.out]; exact List.prefix_append _ _, hJx3⟩⟩
theorem split_seq (n : Nat) (hn : 1 ≤ n) (b : Nat) (s : ByteArray) (hs : s.size ≤ 1048576) (w : World) (hb : b + 3 ≤ w.heap.size) (hB : SsB w b s) :
    SeqBox Fence.wide n Tryz.prog 120 #[.pointer (some ⟨b + 1, 0, none⟩), .pointer (some ⟨b, 0, none⟩), .pointer (some ⟨b + 2, 0, none⟩)] b (b + 3) (cutOf 47 s) w := fun l J Jx W hW hJ _ hY h0 =>
  split1_in n hn l b s hs J Jx hJ hY W (hB.kept (fun k _ hk => hW.block k (by omega))) h0
set_option maxHeartbeats 400000 in
theorem splitSeq_any (s : ByteArray) (w : World) :
    Calls Tryz.prog 101 #[.string s, .string ⟨#[47]⟩, .int .i64 0] w fun e w' => e = .returned (.func (.func 120) #[] #[.pointer (some ⟨w.heap.size + 1, 0, none⟩), .pointer (some ⟨w.heap.size, 0, none⟩), .pointer (some ⟨w.heap.size + 2, 0, none⟩)]) ∧ w' = ((w.alloc (.cells #[.string s] 9)).alloc (.cells #[.string ⟨#[47]⟩] 9)).alloc (.cells #[.int .i64 0] 3) := by
  go_enter Tryz.func101, Tryz.ntmps101
  go_wp2
  go_ret
  exact ⟨rfl, rfl⟩
set_option maxHeartbeats 400000 in
theorem SplitSeq_any (s : ByteArray) (w : World) :
    Calls Tryz.prog 82 #[.string s, .string ⟨#[47]⟩] w fun e w' => e = .returned (.func (.func 120) #[] #[.pointer (some ⟨w.heap.size + 1, 0, none⟩), .pointer (some ⟨w.heap.size, 0, none⟩), .pointer (some ⟨w.heap.size + 2, 0, none⟩)]) ∧ w' = ((w.alloc (.cells #[.string s] 9)).alloc (.cells #[.string ⟨#[47]⟩] 9)).alloc (.cells #[.int .i64 0] 3) := by
  have h := fun w => splitSeq_any s w
  go_enter Tryz.func82, Tryz.ntmps82
  go_wp2_with (go_at_call 101; refine (h _).mono ?_; rintro e w' ⟨rfl, rfl⟩)
  go_ret
  exact ⟨rfl, rfl⟩
end Go.Proofs.YtjcnnmnnbjaheaaGreatDoor
/- The contract of the program's PathFault. No statement is proved here. -/
namespace Go.Proofs.YtjcnnmnnbjaheaaGreatDoor
open Go.RowKit Go.Shelf
attribute [local go_sem] Oper.semAt_some

/-- The fault of a path. -/
def pf (s : ByteArray) : Int := if (cutOf 47 s).length ≤ 4 ∧ (cutOf 47 s).all (fun x => nf x == 0) = true then 0 else 1
theorem pf_ok {s : ByteArray} (h : (cutOf 47 s).length ≤ 4) (k : ∀ x ∈ cutOf 47 s, nf x = 0) : pf s = 0 := if_pos ⟨h, List.all_eq_true.2 fun x hx => by simp [k x hx]⟩
theorem pf_many {s : ByteArray} (h : 4 < (cutOf 47 s).length) : pf s = 1 := if_neg (fun q => by have := q.1; omega)
theorem pf_bad {s x : ByteArray} (h : x ∈ cutOf 47 s) (k : ¬ nf x = 0) : pf s = 1 := if_neg (fun q => k (by simpa using List.all_eq_true.1 q.2 x h))
/-- A cell that holds a number. -/
def NumAt (W : World) (b : Nat) (x : Int) : Prop := W.cell? ⟨b, 0, none⟩ = some (.int .i64 x) ∧ W.frozen? ⟨b, 0, none⟩ = false
theorem NumAt.set {W : World} {b : Nat} {x : Int} (h : NumAt W b x) (y : Int) : NumAt (W.setCell ⟨b, 0, none⟩ (.int .i64 y)) b y :=
  ⟨World.cell?_setCell_same' _ _ _ (by rw [h.1]; rfl), by rw [World.frozen?_setCell]; exact h.2⟩
theorem NumAt.other {W : World} {b c : Nat} {x : Int} (h : NumAt W b x) (hc : b ≠ c) (v : Value) : NumAt (W.setCell ⟨c, 0, none⟩ v) b x :=
  ⟨by rw [World.cell?_setCell_other _ _ _ _ (by intro e; cases e; exact hc rfl)]; exact h.1, by rw [World.frozen?_setCell]; exact h.2⟩
theorem NumAt.kept {W W' : World} {b : Nat} {x : Int} (h : NumAt W b x) {row : Option Nat} (hg : W.grownBy W' row) (hr : ∀ r, row = some r → ∃ o : Obj, W.heap[r]? = some o ∧ o.isCells = false) : NumAt W' b x :=
  ⟨cell_kept h.1 hg hr, (frozen_kept h.1 hg hr).trans h.2⟩
theorem NumAt.alloc {W : World} {b : Nat} {x : Int} (h : NumAt W b x) (o : Obj) : NumAt (W.alloc o) b x := h.kept (World.grownBy_alloc W o none) (fun r e => by cases e)
theorem NumAt.new (W : World) (x : Int) (t : TypeId) : NumAt (W.alloc (.cells #[.int .i64 x] t)) W.heap.size x :=
  ⟨box_cell (World.alloc_heap_new W _), box_frozen (World.alloc_heap_new W _)⟩
theorem heap_kept {W : World} {k : Nat} {x : Obj} (o : Obj) (h : W.heap[k]? = some x) : (W.alloc o).heap[k]? = some x := (Below.heap_alloc W o k (Array.getElem?_eq_some_iff.1 h).1).trans h

set_option maxRecDepth 100000 in
set_option maxHeartbeats 2000000 in
theorem implPathFault (s : ByteArray) (w : World) (hs : s.size ≤ 1048576) :
    Calls Tryz.prog 47 #[.string s] w fun e w' => e = .returned (.int .i64 (pf s)) ∧ Below w.heap.size w w' := by
  have hNf := fun x w => implNameFault x w
  refine (callsIn_wide (n := 5)).1 ?_
  refine callsIn_of_wp_marks Tryz.func47 rfl trivial ?_ rfl
  simp only [Tryz.ntmps47, List.size_toArray, List.length_cons, List.length_nil, Nat.reduceAdd, Nat.reduceSub, Array.replicate_succ, Array.replicate_zero, List.push_toArray, List.append_toArray, List.nil_append, List.cons_append]
  gi_wp2_with (refine ⟨trivial, ?_⟩; gi_at_call 82; refine (callsIn_wide.2 (SplitSeq_any _ _)).mono ?_; rintro e w' ⟨rfl, rfl⟩)
  obtain ⟨b, hb⟩ : ∃ b, w.heap.size = b := ⟨_, rfl⟩
  obtain ⟨W0, hW0⟩ : ∃ W0, (((((w.alloc (.cells #[.int .i64 0] 2)).alloc (.cells #[.int .i64 0] 3)).alloc (.cells #[.string s] 9)).alloc (.cells #[.string ⟨#[47]⟩] 9)).alloc (.cells #[.int .i64 0] 3)) = W0 := ⟨_, rfl⟩
  have hz : W0.heap.size = b + 1 + 1 + 3 := by rw [← hW0, ← hb]; simp
  have hbx : SsB W0 (b + 1 + 1) s := by
    rw [← hW0, ← hb]
    have e1 := World.alloc_heap_new ((w.alloc (.cells #[.int .i64 0] 2)).alloc (.cells #[.int .i64 0] 3)) (.cells #[.string s] 9)
    have e2 := World.alloc_heap_new (((w.alloc (.cells #[.int .i64 0] 2)).alloc (.cells #[.int .i64 0] 3)).alloc (.cells #[.string s] 9)) (.cells #[.string ⟨#[47]⟩] 9)
    have e3 := World.alloc_heap_new ((((w.alloc (.cells #[.int .i64 0] 2)).alloc (.cells #[.int .i64 0] 3)).alloc (.cells #[.string s] 9)).alloc (.cells #[.string ⟨#[47]⟩] 9)) (.cells #[.int .i64 0] 3)
    simp only [World.size_alloc] at e1 e2 e3
    exact ⟨heap_kept _ (heap_kept _ e1), heap_kept _ e2, e3⟩
  have hN0 : NumAt W0 b 0 := by rw [← hW0, ← hb]; exact ((((NumAt.new w 0 _).alloc _).alloc _).alloc _).alloc _
  have hN1 : NumAt W0 (b + 1) 0 := by
    have h := NumAt.new (w.alloc (.cells #[.int .i64 0] 2)) 0 3
    rw [World.size_alloc, hb] at h
    rw [← hW0]; exact ((h.alloc _).alloc _).alloc _
  have hB0 : Below b w W0 := by
    rw [← hW0, ← hb]
    exact (((((Below.refl _ w).alloc (Nat.le_refl _) _).alloc (by simp) _).alloc (by simp; omega) _).alloc (by simp; omega) _).alloc (by simp; omega) _
  rw [hW0]
  rw [hb]
  refine range_box rfl (by omega) (gf := 120) (lb := #[.pointer (some ⟨b + 1 + 1 + 1, 0, none⟩), .pointer (some ⟨b + 1 + 1, 0, none⟩), .pointer (some ⟨b + 1 + 1 + 2, 0, none⟩)]) rfl trivial (enters_of Tryz.func120 (by kernel_rfl) rfl)
    (b := b + 1 + 1) (e := b + 1 + 1 + 3) (T := cutOf 47 s) (by omega) (by omega) (split_seq _ (by omega) (b + 1 + 1) s hs W0 (by omega) hbx) rfl
    (fun pre W => (NumAt W b 0 ∧ NumAt W (b + 1) pre.length ∧ pre.length ≤ 4 ∧ ∀ x ∈ pre, nf x = 0) ∧ Below b w W)
    (fun _ W => (NumAt W b 1 ∧ pf s = 1) ∧ Below b w W)
    (OwnFrom.and (Own.from (fun _ _ _ _ hs hg hr => ⟨hs.1.kept hg hr, hs.2.1.kept hg hr, hs.2.2⟩) _) (ownFrom_below (Nat.le_of_eq hb.symm) (by omega)))
    (OwnFrom.and (Own.from (fun _ _ _ _ hs hg hr => ⟨hs.1.kept hg hr, hs.2⟩) _) (ownFrom_below (Nat.le_of_eq hb.symm) (by omega)))
    ⟨fun _ _ v q => ⟨⟨q.1.1.other (by omega) v, q.1.2.1.other (by omega) v, q.1.2.2⟩, q.2.setCell (p := ⟨b + 1 + 1, 0, none⟩) (show b ≤ b + 1 + 1 by omega) _⟩, fun _ _ q => ⟨q.1, q.2.drew⟩⟩
    ⟨fun _ _ v q => ⟨⟨q.1.1.other (by omega) v, q.1.2⟩, q.2.setCell (p := ⟨b + 1 + 1, 0, none⟩) (show b ≤ b + 1 + 1 by omega) _⟩, fun _ _ q => ⟨q.1, q.2.drew⟩⟩
    ⟨⟨hN0, hN1, by simp, fun x hx => by cases hx⟩, hB0⟩
    (fun x => { tmps := #[.string s, undef, .pointer (some ⟨b, 0, none⟩), .pointer (some ⟨b + 1, 0, none⟩), .string x, .string s, .func (.func 120) #[] #[.pointer (some ⟨b + 1 + 1 + 1, 0, none⟩), .pointer (some ⟨b + 1 + 1, 0, none⟩), .pointer (some ⟨b + 1 + 1 + 2, 0, none⟩)], .string x, undef, undef, undef, undef, undef, undef, undef, undef, undef], defers := [] }) ?assign ?body ?done ?stop
  case assign =>
    intro l x W K hK
    gi_wp2
    simpa using hK
  case body =>
    rintro l pre x W ⟨⟨q0, q1, q4, qa⟩, qB⟩ hpx
    rw [hz]
    have c0 := q0.1
    have f0 := q0.2
    have c1 := q1.1
    have f1 := q1.2
    have hm : x ∈ cutOf 47 s := hpx.subset (by simp)
    have hl : pre.length + 1 ≤ (cutOf 47 s).length := by have := hpx.length_le; simpa using this
    have n0 := q0.other (c := b + 1) (by omega) (.int .i64 ((pre.length : Int) + 1))
    have n1 := q1.set ((pre.length : Int) + 1)
    have nB := qB.setCell (p := ⟨b + 1, 0, none⟩) (show b ≤ b + 1 by omega) (.int .i64 ((pre.length : Int) + 1))
    have kO := KeepsOthers.setCell W ⟨b + 1, 0, none⟩ (.int .i64 ((pre.length : Int) + 1))
    have kb : ∀ k, b + 1 + 1 ≤ k → k < b + 1 + 1 + 3 → (W.setCell ⟨b + 1, 0, none⟩ (.int .i64 ((pre.length : Int) + 1))).heap[k]? = W.heap[k]? := fun k _ _ => setCell_block (by omega)
    obtain ⟨W1, hW1⟩ : ∃ W1, W.setCell ⟨b + 1, 0, none⟩ (.int .i64 ((pre.length : Int) + 1)) = W1 := ⟨_, rfl⟩
    rw [hW1] at n0 n1 nB kO kb
    have d0 := n0.1
    have g0 := n0.2
    have d1 := n1.1
    have fin1 : pf s = 1 → ∀ a, roundLeft (b + 1 + 1 + 3) (b + 1 + 1) (b + 1 + 1 + 3) (fun pre W => (NumAt W b 0 ∧ NumAt W (b + 1) pre.length ∧ pre.length ≤ 4 ∧ ∀ x ∈ pre, nf x = 0) ∧ Below b w W) (fun _ W => (NumAt W b 1 ∧ pf s = 1) ∧ Below b w W) (pre ++ [x]) W .ret a (W1.setCell ⟨b, 0, none⟩ (.int .i64 1)) := fun e _ =>
      .inr ⟨rfl, (kO.trans (KeepsOthers.setCell _ _ _)).from _, ⟨n0.set 1, e⟩, nB.setCell (p := ⟨b, 0, none⟩) (Nat.le_refl _) _⟩
    by_cases h4 : pre.length = 4
    · have e1 : ∀ a, Hid (roundLeft _ _ _ _ _ _ _ _ _ _) := fun a => fin1 (pf_many (by omega)) a
      have h4' : (pre.length : Int) = 4 := by omega
      have hW5 : W.setCell ⟨b + 1, 0, none⟩ (.int .i64 5) = W1 := by rw [← hW1, h4']; rfl
      clear fin1 hNf
      gi_wp2
      refine ⟨trivial, ?_⟩
      gi_wp2
      exact (e1 _).out
    · have h5 : (pre.length : Int) + 1 ≤ 4 := by omega
      have h5' : ¬ 4 < (pre.length : Int) + 1 := by omega
      by_cases hx : nf x = 0
      · have e2 : ∀ a, Hid (roundLeft (b + 1 + 1 + 3) (b + 1 + 1) (b + 1 + 1 + 3) (fun pre W => (NumAt W b 0 ∧ NumAt W (b + 1) pre.length ∧ pre.length ≤ 4 ∧ ∀ x ∈ pre, nf x = 0) ∧ Below b w W) (fun _ W => (NumAt W b 1 ∧ pf s = 1) ∧ Below b w W) (pre ++ [x]) W .normal a W1) := fun _ =>
          .inl ⟨rfl, kO.from _, kb, ⟨n0, by simpa using n1, by simp; omega, fun y hy => by
            rcases List.mem_append.1 hy with h | h
            · exact qa y h
            · rw [List.mem_singleton.1 h]; exact hx⟩, nB⟩
        have hN := fun w => hNf x w
        rw [hx] at hN
        clear fin1 hNf hx qa
        gi_wp2_with (refine ⟨trivial, ?_⟩; gi_at_call 83; refine (CallsIn.inRound l (callsIn_wide.2 (hN _))).mono ?_; rintro e w' ⟨rfl, rfl⟩)
        exact (e2 _).out
      · have e1 : ∀ a, Hid (roundLeft _ _ _ _ _ _ _ _ _ _) := fun a => fin1 (pf_bad hm hx) a
        have hx' : (nf x != 0) = true := by simpa using hx
        have hN := fun w => hNf x w
        obtain ⟨v, hv⟩ : ∃ v, nf x = v := ⟨_, rfl⟩
        rw [hv] at hN hx'
        clear fin1 hNf hx qa hv
        gi_wp2_with (refine ⟨trivial, ?_⟩; gi_at_call 83; refine (CallsIn.inRound l (callsIn_wide.2 (hN _))).mono ?_; rintro e w' ⟨rfl, rfl⟩)
        exact (e1 _).out
  case done =>
    rintro D W hD ⟨⟨q0, q1, q4, qa⟩, qB⟩ hK
    have c0 := q0.1
    have f0 := q0.2
    have HP : Hid (pf s = 0) := pf_ok q4 qa
    have hK2 := (KeepsOthers.setCell W ⟨b, 0, none⟩ (.int .i64 0)).same D _ hK rfl
    have q2 := q0.set 0
    have B2 := qB.setCell (p := ⟨b, 0, none⟩) (Nat.le_refl _) (.int .i64 0)
    clear q1 q4 qa
    gi_wp2
    refine ⟨by simp, .inl ⟨_, _, rfl, run_takeDeferred hK2, ?_⟩⟩
    have e0 := cell_kept q2.1 (grownBy_putObj' _ D (.deferred none)) (fun r e => by cases e; exact ⟨_, hK2, rfl⟩)
    refine ⟨.int .i64 0, ?_, ret_int HP.out.symm, ?_⟩
    · simp [results, Tryz.results47, go_sem, e0]
    · rw [hb]
      exact B2.trans (belowK_b (w := w) (Nat.le_of_eq hb.symm) _ D _ _ (by omega) hK2 rfl rfl)
  case stop =>
    rintro D pre W hD ⟨⟨q0, q1⟩, qB⟩ hK
    have HP : Hid (pf s = 1) := q1
    clear q1
    gi_wp2
    refine ⟨by simp, .inl ⟨_, _, rfl, run_takeDeferred hK, ?_⟩⟩
    have e0 := cell_kept q0.1 (grownBy_putObj' _ D (.deferred none)) (fun r e => by cases e; exact ⟨_, hK, rfl⟩)
    refine ⟨.int .i64 1, ?_, ret_int HP.out.symm, ?_⟩
    · simp [results, Tryz.results47, go_sem, e0]
    · rw [hb]
      exact qB.trans (belowK_b (w := w) (Nat.le_of_eq hb.symm) _ D _ _ (by omega) hK rfl rfl)
end Go.Proofs.YtjcnnmnnbjaheaaGreatDoor
