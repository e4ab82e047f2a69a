/- The iterator over the parts of a text between its slashes (strings.SplitSeq): its contract. No statement is proved here. -/
import Derived.RangeFuncNested
import Derived.RangeFuncBound
import Derived.RangeFuncCalls
import Derived.RangeFuncLeaves
import Derived.RangeFuncBox
import Derived.Shelf.Abstract
import Derived.Shelf.RegionOpen
import Derived.WalkKit
import Derived.OwnWalkIn
import Derived.TacticsInMore
import Derived.LoopNIn
import Derived.LoopIn
import Derived.WalkSpells
import Derived.Test.YtkgcpndnlefkoaaGreatDoorRows
import Derived.Test.YtkgcpndnlefkoaaGreatDoorLemQ
import Derived.Test.YtkgcpndnlefkoaaGreatDoorLFLemQ
import Derived.Test.YtkgcpndnlefkoaaGreatDoorCutLQ
namespace Go.Proofs.YtkgcpndnlefkoaaGreatDoor
open Go.RowKit Go.Shelf
attribute [local go_sem] Oper.semAt_some

/-- The boxes of the iterator: what is left of the text, the text between, how much of it is kept. -/
structure SsB (W : World) (b : Nat) (s : ByteArray) : Prop where
  h0 : W.heap[b]? = some (.cells #[.string s] 9 (0, 0))
  h1 : W.heap[b + 1]? = some (.cells #[.string ⟨#[47]⟩] 9 (0, 0))
  h2 : W.heap[b + 2]? = some (.cells #[.int .i64 0] 3 (0, 0))
theorem SsB.kept {W W' : World} {b : Nat} {s : ByteArray} (h : SsB W b s) (hk : ∀ k, b ≤ k → k < b + 3 → W'.heap[k]? = W.heap[k]?) : SsB W' b s :=
  ⟨(hk b (by omega) (by omega)).trans h.h0, (hk (b + 1) (by omega) (by omega)).trans h.h1, (hk (b + 2) (by omega) (by omega)).trans h.h2⟩
theorem box_cell {W : World} {b : Nat} {v : Value} {t : TypeId} (h : W.heap[b]? = some (.cells #[v] t (0, 0))) : W.cell? ⟨b, 0, none⟩ = some v := by simp [World.cell?, h]
theorem box_frozen {W : World} {b : Nat} {v : Value} {t : TypeId} (h : W.heap[b]? = some (.cells #[v] t (0, 0))) : W.frozen? ⟨b, 0, none⟩ = false := by simp [World.frozen?, h]
theorem box_set {W : World} {b : Nat} {u v : Value} {t : TypeId} (h : W.heap[b]? = some (.cells #[u] t (0, 0))) : (W.setCell ⟨b, 0, none⟩ v).heap[b]? = some (.cells #[v] t (0, 0)) := by
  simp [World.setCell, Array.getElem?_modify, h]
theorem SsB.set {W : World} {b : Nat} {s : ByteArray} (h : SsB W b s) (x : ByteArray) : SsB (W.setCell ⟨b, 0, none⟩ (.string x)) b x :=
  ⟨box_set h.h0, (setCell_block (by omega)).trans h.h1, (setCell_block (by omega)).trans h.h2⟩
def leftIn (b : Nat) (W : World) : Nat := match W.cell? ⟨b, 0, none⟩ with
  | some (.string x) => x.size
  | _ => 0
theorem leftIn_eq {W : World} {b : Nat} {s : ByteArray} (h : SsB W b s) : leftIn b W = s.size := by
  unfold leftIn; rw [box_cell h.h0]
theorem ext_ext (s : ByteArray) (k i : Nat) (h : k + i ≤ s.size) : (s.extract k s.size).extract 0 i = s.extract k (k + i) := by
  apply bytes_inj2
  rw [ByteArray.toList_eq, ByteArray.toList_eq, extract_data, extract_data, extract_data, List.drop_zero, List.take_take]
  congr 1
  omega
theorem ext_rest (s : ByteArray) (k i : Nat) (h : k + i ≤ s.size) : (s.extract k s.size).extract i (s.extract k s.size).size = s.extract (k + i) s.size := by
  apply bytes_inj2
  rw [ByteArray.toList_eq, ByteArray.toList_eq, extract_data, extract_data, extract_data]
  rw [List.take_of_length_le (l := List.drop k s.data.toList) (by rw [List.length_drop, size_eq]; omega), List.drop_drop, List.take_of_length_le, List.take_of_length_le]
  · rw [List.length_drop, size_eq]; omega
  · rw [List.length_drop, size_eq, ByteArray.size_extract]; omega

set_option maxRecDepth 100000 in
set_option maxHeartbeats 2000000 in
theorem split1_in (n : Nat) (hn : 1 ≤ n) (l b : Nat) (s : ByteArray) (hs : s.size ≤ 1048576) (J Jx : List ByteArray → World → Prop) (hJb : Bides b J)
    (hY : ∀ pre x W, J pre W → pre ++ [x] <+: cutOf 47 s → YieldAt Fence.wide (n - 1) Tryz.prog l #[.string x] W fun e W' =>
      (e = .returned (.bool true) ∧ J (pre ++ [x]) W' ∧ ∀ k, b ≤ k → k < b + 3 → W'.heap[k]? = W.heap[k]?) ∨ (e = .returned (.bool false) ∧ Jx (pre ++ [x]) W'))
    (W : World) (hB : SsB W b s) (h0 : J [] W) :
    CallsIn Fence.wide n Tryz.prog 97 #[.func (.yield l) #[] #[], .pointer (some ⟨b + 1, 0, none⟩), .pointer (some ⟨b, 0, none⟩), .pointer (some ⟨b + 2, 0, none⟩)] W fun e W' => (∃ v, e = .returned v) ∧
      (J (cutOf 47 s) W' ∨ (∃ pre, pre <+: cutOf 47 s ∧ Jx pre W')) := by
  have hc1 := box_cell hB.h1
  refine callsIn_of_wp Tryz.func97 rfl trivial ?_ rfl
  simp only [Tryz.ntmps97, List.size_toArray, List.length_cons, List.length_nil, Nat.reduceAdd, Nat.reduceSub, Array.replicate_succ, Array.replicate_zero, List.push_toArray, List.append_toArray, List.nil_append, List.cons_append]
  gi_wp2
  clear hc1
  gi_loopw [7] (fun _ wr => ∃ (k : Nat) (pre : List ByteArray), k ≤ s.size ∧ Hid (cutOf 47 s = pre ++ cutFrom 47 s k) ∧ SsB wr b (s.extract k s.size) ∧ J pre wr)
    (fun _ wr => leftIn b wr)
  case atStart =>
    refine ⟨0, [], Nat.zero_le _, rfl, ?_, h0⟩
    have e : s.extract 0 s.size = s := by simp
    rw [e]; exact hB
  case round =>
    obtain ⟨k, pre, hk, HX, hbx, hJs⟩ := hrel
    have hc0 := box_cell hbx.h0
    have hf0 := box_frozen hbx.h0
    have hc1 := box_cell hbx.h1
    have hc2 := box_cell hbx.h2
    have hm := leftIn_eq hbx
    have hsx : (s.extract k s.size).size = s.size - k := by rw [ByteArray.size_extract]; omega
    have hI := fun w => index47 (s.extract k s.size) w
    have hdl : (s.extract k s.size).data.toList = s.data.toList.drop k := by
      rw [extract_data, List.take_of_length_le (by rw [List.length_drop, size_eq]; omega)]
    rw [hdl] at hI
    obtain ⟨i, hi⟩ : ∃ i, Lib.indexByte (s.data.toList.drop k) 47 = i := ⟨_, rfl⟩
    rw [hi] at hI
    by_cases hneg : i < 0
    · have hno := idx_none (c := 47) (s := s) (fr := k) (by rw [hi]; exact hneg)
      have hlast := cutFrom_last 47 s k hno
      have HE : Hid (cutOf 47 s = pre ++ [s.extract k s.size]) := by show _ = _; rw [HX.out, hlast]
      obtain ⟨fn, tmps, assign, body, hy, hR⟩ := hY pre (s.extract k s.size) wr hJs (by rw [HE.out]; exact List.prefix_refl _)
      clear hi hno hlast HX hdl hY
      gi_wp2_with (refine ⟨trivial, ?_⟩; gi_at_call 99; refine (callsIn_wide.2 (hI _)).mono ?_; rintro e w' ⟨rfl, rfl⟩)
      refine hR.mono ?_
      rintro e W3 (⟨rfl, hJ3, hk3⟩ | ⟨rfl, hJx3⟩)
      · gi_wp2
        go_end0
        exact ⟨⟨_, rfl⟩, .inl (by rw [HE.out]; exact hJ3)⟩
      · gi_wp2
        go_end0
        exact ⟨⟨_, rfl⟩, .inr ⟨_, by rw [HE.out]; exact List.prefix_refl _, hJx3⟩⟩
    · obtain ⟨y1, y2, y3⟩ := indexByte_split (s.data.toList.drop k) 47 (by rw [hi]; exact hneg)
      obtain ⟨m, rfl⟩ := Int.eq_ofNat_of_zero_le (show 0 ≤ i by omega)
      rw [hi] at y1 y2 y3
      have em : (m : Int).toNat = m := rfl
      rw [em] at y1 y2 y3
      rw [List.length_drop, size_eq] at y3
      have hkm : k + m < s.size := by omega
      have hbyte : s[k + m] = 47 := by
        rw [← sg_byte s (k + m) hkm]
        have e1 : (s.data.toList.drop k)[m]? = some 47 := by
          rw [y2, List.getElem?_append_right (by rw [List.length_take, List.length_drop, size_eq]; omega)]
          rw [List.length_take, List.length_drop, size_eq, show m - min m (s.size - k) = 0 by omega]
          rfl
        rw [List.getElem?_drop, List.getElem?_eq_getElem (by rw [size_eq]; exact hkm)] at e1
        exact Option.some.inj e1
      have hat := cutFrom_at 47 s k (k + m) (by omega) hkm (by unfold sg; rw [show k + m - k = m by omega]; exact y1) hbyte
      have HS : Hid (cutOf 47 s = (pre ++ [s.extract k (k + m)]) ++ cutFrom 47 s (k + m + 1)) := by show _ = _; rw [HX.out, hat]; simp
      have E1 := ext_ext s k m (by omega)
      have E2 := ext_rest s k (m + 1) (by omega)
      obtain ⟨fn, tmps, assign, body, hy, hR⟩ := hY pre (s.extract k (k + m)) wr hJs (by rw [HS.out]; exact List.prefix_append _ _)
      have E3 : (s.extract k s.size).extract (m + 1) (s.size - k) = s.extract (k + (m + 1)) s.size := by rw [← hsx]; exact E2
      have hms : m ≤ 1048576 := by omega
      clear hi y1 y2 hat HX hdl hY hbyte em
      gi_wp2_with (refine ⟨trivial, ?_⟩; gi_at_call 99; refine (callsIn_wide.2 (hI _)).mono ?_; rintro e w' ⟨rfl, rfl⟩)
      refine hR.mono ?_
      rintro e W3 (⟨rfl, hJ3, hk3⟩ | ⟨rfl, hJx3⟩)
      · have hb3 := hbx.kept hk3
        have hc0 := box_cell hb3.h0
        have hf0 := box_frozen hb3.h0
        have hc1 := box_cell hb3.h1
        have hn3 := hb3.set (s.extract (k + (m + 1)) s.size)
        have hJ4 := hJb.1 _ _ (.string (s.extract (k + (m + 1)) s.size)) hJ3
        have hm4 := leftIn_eq hn3
        have hm3 : leftIn b w' = s.size - k := by rw [hm, hsx]
        have hz4 : (s.extract (k + (m + 1)) s.size).size = s.size - (k + (m + 1)) := by rw [ByteArray.size_extract]; omega
        clear hk3 hbx hJs hb3 hR hy
        gi_wp2
        go_roundw
        case rel => exact ⟨k + (m + 1), pre ++ [s.extract k (k + m)], by omega, HS, hn3, hJ4⟩
        case measure => rw [hm4, hm3, hz4]; omega
      · gi_wp2
        refine bodyPost_ret (results_none rfl _ _ _) rfl ?_
        exact ⟨⟨_, rfl⟩, .inr ⟨pre ++ [s.extract k (k + m)], by rw [HS.out]; exact List.prefix_append _ _, hJx3⟩⟩
theorem split_seq (n : Nat) (hn : 1 ≤ n) (b : Nat) (s : ByteArray) (hs : s.size ≤ 1048576) (w : World) (hb : b + 3 ≤ w.heap.size) (hB : SsB w b s) :
    SeqBox Fence.wide n Tryz.prog 97 #[.pointer (some ⟨b + 1, 0, none⟩), .pointer (some ⟨b, 0, none⟩), .pointer (some ⟨b + 2, 0, none⟩)] b (b + 3) (cutOf 47 s) w := fun l J Jx W hW hJ _ hY h0 =>
  split1_in n hn l b s hs J Jx hJ hY W (hB.kept (fun k _ hk => hW.block k (by omega))) h0
set_option maxHeartbeats 400000 in
theorem splitSeq_any (s : ByteArray) (w : World) :
    Calls Tryz.prog 85 #[.string s, .string ⟨#[47]⟩, .int .i64 0] w fun e w' => e = .returned (.func (.func 97) #[] #[.pointer (some ⟨w.heap.size + 1, 0, none⟩), .pointer (some ⟨w.heap.size, 0, none⟩), .pointer (some ⟨w.heap.size + 2, 0, none⟩)]) ∧ w' = ((w.alloc (.cells #[.string s] 9)).alloc (.cells #[.string ⟨#[47]⟩] 9)).alloc (.cells #[.int .i64 0] 3) := by
  go_enter Tryz.func85, Tryz.ntmps85
  go_wp2
  go_ret
  exact ⟨rfl, rfl⟩
set_option maxHeartbeats 400000 in
theorem SplitSeq_any (s : ByteArray) (w : World) :
    Calls Tryz.prog 64 #[.string s, .string ⟨#[47]⟩] w fun e w' => e = .returned (.func (.func 97) #[] #[.pointer (some ⟨w.heap.size + 1, 0, none⟩), .pointer (some ⟨w.heap.size, 0, none⟩), .pointer (some ⟨w.heap.size + 2, 0, none⟩)]) ∧ w' = ((w.alloc (.cells #[.string s] 9)).alloc (.cells #[.string ⟨#[47]⟩] 9)).alloc (.cells #[.int .i64 0] 3) := by
  have h := fun w => splitSeq_any s w
  go_enter Tryz.func64, Tryz.ntmps64
  go_wp2_with (go_at_call 85; refine (h _).mono ?_; rintro e w' ⟨rfl, rfl⟩)
  go_ret
  exact ⟨rfl, rfl⟩
end Go.Proofs.YtkgcpndnlefkoaaGreatDoor
