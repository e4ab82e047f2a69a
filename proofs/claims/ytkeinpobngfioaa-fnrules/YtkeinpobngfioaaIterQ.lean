/- The iterator over the lines of a text (impl.linesIn): its contract. No statement is proved here. -/
import Derived.RangeFuncNested
import Derived.RangeFuncBound
import Derived.RangeFuncCalls
import Derived.RangeFuncLeaves
import Derived.RangeFuncBox
import Derived.Shelf.Abstract
import Derived.Shelf.RegionOpen
import Derived.WalkKit
import Derived.OwnWalkIn
import Derived.TacticsInMore
import Derived.LoopNIn
import Derived.LoopIn
import Derived.WalkSpells
import Derived.Test.YtkeinpobngfioaaRows
import Derived.Test.YtkeinpobngfioaaLemQ
import Derived.Test.YtkeinpobngfioaaLFLemQ
namespace Go.Proofs.Ytkeinpobngfioaa
open Go.RowKit Go.Shelf
attribute [local go_sem] Oper.semAt_some

set_option maxHeartbeats 400000 in
theorem lineEnd (s : ByteArray) (k : Nat) (w : World) (hs : s.size ≤ 1048576) (hk : k < s.size) :
    Calls Try.prog 45 #[.string s, .int .i64 k] w fun e w' => e = .returned (.int .i64 (endOf s k)) ∧ w' = w := by
  have hdl : (s.extract k s.size).data.toList = s.data.toList.drop k := by
    rw [extract_data, List.take_of_length_le (by rw [List.length_drop, size_eq]; omega)]
  have hI := fun w => indexByte (s.extract k s.size) 10 w
  have e10 : (10 : Int).toNat.toUInt8 = 10 := rfl
  rw [hdl, e10] at hI
  obtain ⟨i, hi⟩ : ∃ i, Lib.indexByte (s.data.toList.drop k) 10 = i := ⟨_, rfl⟩
  have hge := Lib.indexByte_ge (s.data.toList.drop k) 10
  have hlt := indexByte_lt (s.data.toList.drop k) 10
  rw [hi] at hI hge hlt
  have hlen : (s.data.toList.drop k).length = s.size - k := by rw [List.length_drop, size_eq]
  rw [hlen] at hlt
  by_cases hneg : i < 0
  · have HE : Hid (endOf s k = s.size) := by show endOf s k = _; unfold endOf; rw [hi, if_pos hneg]
    clear hi e10 hdl hlen hlt
    go_enter Try.func45, Try.ntmps45
    go_wp2_with (go_at_call 53; refine (hI _).mono ?_; rintro e w' ⟨rfl, rfl⟩)
    go_ret
    exact ⟨ret_int (by rw [HE.out]), rfl⟩
  · have HE : Hid (endOf s k = k + i.toNat + 1) := by show endOf s k = _; unfold endOf; rw [hi, if_neg hneg]
    have hi2 : i < 1048576 := by omega
    clear hi e10 hdl hlen hlt
    go_enter Try.func45, Try.ntmps45
    go_wp2_with (go_at_call 53; refine (hI _).mono ?_; rintro e w' ⟨rfl, rfl⟩)
    go_ret
    refine ⟨ret_int ?_, rfl⟩
    rw [HE.out]; omega

/-- A round keeps the block in which the text is boxed. -/
def KeepB (Bn : Nat) (W W' : World) : Prop := W'.heap[Bn]? = W.heap[Bn]?
theorem keepB_t {Bn : Nat} {A B C : World} (h : KeepB Bn A B) (k : KeepB Bn B C) : KeepB Bn A C := Eq.trans k h
theorem keepB_b {Bn : Nat} {w : World} (hB : Bn < w.heap.size) (W : World) (l : Nat) (o o' : Obj) (hl : w.heap.size ≤ l) (_ : W.heap[l]? = some o) (_ : o.isCells = false) (_ : o.isWalk = false) : KeepB Bn W (W.putObj l o') := by
  unfold KeepB
  exact World.putObj_heap_other (by omega)

set_option maxRecDepth 100000 in
set_option maxHeartbeats 1000000 in
theorem lines1_in (n : Nat) (hn : 1 ≤ n) (l Bn : Nat) (s : ByteArray) (hs : s.size ≤ 1048576) (J Jx : List ByteArray → World → Prop)
    (hY : ∀ pre x W, x.size ≤ 1048576 → J pre W → pre.length < (linesOf s).length → YieldAt Fence.wide (n - 1) Try.prog l #[.string x] W fun e W' =>
      (e = .returned (.bool true) ∧ J (pre ++ [x]) W' ∧ KeepB Bn W W') ∨ (e = .returned (.bool false) ∧ Jx (pre ++ [x]) W'))
    (W : World) (hBn : W.heap[Bn]? = some (.cells #[.string s] 9 (0, 0))) (h0 : J [] W) :
    CallsIn Fence.wide n Try.prog 44 #[.func (.yield l) #[] #[], .pointer (some ⟨Bn, 0, none⟩)] W fun e W' => (∃ v, e = .returned v) ∧
      ((∃ ys, ys = linesOf s ∧ J ys W') ∨ (∃ pre, pre <+: linesOf s ∧ Jx pre W')) := by
  refine callsIn_of_wp Try.func44 rfl trivial ?_ rfl
  simp only [Try.ntmps44, List.size_toArray, List.length_cons, List.length_nil, Nat.reduceAdd, Nat.reduceSub, Array.replicate_succ, Array.replicate_zero, List.push_toArray, List.append_toArray, List.nil_append, List.cons_append]
  gi_wp2
  gi_loopw [3] (fun p wr => ∃ (k : Nat) (pre : List ByteArray), k ≤ s.size ∧ p = .int .i64 k ∧ linesOf s = pre ++ linesFrom s k ∧ wr.heap[Bn]? = some (.cells #[.string s] 9 (0, 0)) ∧ J pre wr)
    (fun p _ => s.size - (intOf p).toNat)
  case atStart =>
    exact ⟨0, [], Nat.zero_le _, rfl, rfl, hBn, h0⟩
  case round =>
    obtain ⟨k, pre, hk, rfl, hx, hbox, hJs⟩ := hrel
    have hcell : wr.cell? ⟨Bn, 0, none⟩ = some (.string s) := by simp [World.cell?, hbox]
    by_cases hlt : k < s.size
    · have hst := linesFrom_step s k hlt
      obtain ⟨hb1, hb2⟩ := endOf_bd s k hlt
      have HX : Hid (linesOf s = pre ++ linesFrom s k) := hx
      have HST : Hid (linesFrom s k = s.extract k (endOf s k) :: linesFrom s (endOf s k)) := hst
      have hE := fun w => lineEnd s k w hs hlt
      obtain ⟨j, hj⟩ : ∃ j, endOf s k = j := ⟨_, rfl⟩
      rw [hj] at hE hb1 hb2
      obtain ⟨fn, tmps, assign, body, hy, hR⟩ := hY pre (s.extract k j) wr (Nat.le_trans (extract_size_le _ _ _) hs) hJs (by rw [HX.out, HST.out]; simp)
      clear hx hst
      gi_wp2_with (refine ⟨trivial, ?_⟩; gi_at_call 45; refine (callsIn_wide.2 (hE _)).mono ?_; rintro e w' ⟨rfl, rfl⟩)
      refine hR.mono ?_
      rintro e W3 (⟨rfl, hJ3, hk3⟩ | ⟨rfl, hJx3⟩)
      · have hbox3 := hk3.trans hbox
        clear hk3 hbox hcell hJs
        gi_wp2
        go_roundw
        case rel => exact ⟨j, pre ++ [s.extract k j], hb2, rfl, by rw [HX.out, HST.out, hj]; simp, hbox3, hJ3⟩
        case measure => simp [intOf]; omega
      · gi_wp2
        refine bodyPost_ret (results_none rfl _ _ _) rfl ?_
        exact ⟨⟨_, rfl⟩, .inr ⟨pre ++ [s.extract k j], ⟨linesFrom s j, by rw [HX.out, HST.out, hj]; simp⟩, hJx3⟩⟩
    · have he : linesOf s = pre := by rw [hx, linesFrom_end s k (by omega), List.append_nil]
      clear hx
      gi_wp2
      go_end0
      exact ⟨⟨_, rfl⟩, .inl ⟨pre, he.symm, hJs⟩⟩

set_option maxHeartbeats 400000 in
theorem linesIn_any (s : ByteArray) (w : World) :
    Calls Try.prog 34 #[.string s] w fun e w' => e = .returned (.func (.func 44) #[] #[.pointer (some ⟨w.heap.size, 0, none⟩)]) ∧ w' = w.alloc (.cells #[.string s] 9) := by
  go_enter Try.func34, Try.ntmps34
  go_wp2
  go_ret
  exact ⟨rfl, rfl⟩

theorem lines_stops (n : Nat) (hn : 1 ≤ n) (Bn : Nat) (s : ByteArray) (hs : s.size ≤ 1048576) (w : World) (hBn : Bn < w.heap.size) (hc : w.heap[Bn]? = some (.cells #[.string s] 9 (0, 0))) :
    SeqStopsK Fence.wide n Try.prog 44 #[.pointer (some ⟨Bn, 0, none⟩)] (fun x : ByteArray => #[Value.string x]) (KeepB Bn) (fun ys => ys = linesOf s) (fun pre => pre <+: linesOf s) (linesOf s).length w := fun l J Jx W hW _ _ hY h0 =>
  lines1_in n hn l Bn s hs J Jx (fun pre x W _ => hY pre x W) W ((hW.block Bn hBn).trans hc) h0

/-- Texts that are not too long: what the iterator hands on. -/
abbrev Sm : Type := { x : ByteArray // x.size ≤ 1048576 }
def unS (l : List Sm) : List ByteArray := l.map (·.1)
theorem lines_stopsS (n : Nat) (hn : 1 ≤ n) (Bn : Nat) (s : ByteArray) (hs : s.size ≤ 1048576) (w : World) (hBn : Bn < w.heap.size) (hc : w.heap[Bn]? = some (.cells #[.string s] 9 (0, 0))) :
    SeqStopsK Fence.wide n Try.prog 44 #[.pointer (some ⟨Bn, 0, none⟩)] (fun x : Sm => #[Value.string x.1]) (KeepB Bn) (fun ys => unS ys = linesOf s) (fun pre => unS pre <+: linesOf s) (linesOf s).length w := fun l J Jx W hW _ _ hY h0 => by
  refine (lines1_in n hn l Bn s hs (fun pre W => ∃ p : List Sm, unS p = pre ∧ J p W) (fun pre W => ∃ p : List Sm, unS p = pre ∧ Jx p W) ?_ W ((hW.block Bn hBn).trans hc) ⟨[], rfl, h0⟩).mono ?_
  · rintro pre x W hx ⟨p, rfl, hJ⟩ hlen
    obtain ⟨fn, tmps, assign, body, hy, hR⟩ := hY p ⟨x, hx⟩ W hJ (by simpa [unS] using hlen)
    refine ⟨fn, tmps, assign, body, hy, hR.mono ?_⟩
    rintro e W' (⟨rfl, hJ', hk⟩ | ⟨rfl, hJx'⟩)
    · exact .inl ⟨rfl, ⟨_, by simp [unS], hJ'⟩, hk⟩
    · exact .inr ⟨rfl, _, by simp [unS], hJx'⟩
  · rintro e W' ⟨hv, ⟨ys, hys, p, hp, hJ⟩ | ⟨pre, hpre, p, hp, hJ⟩⟩
    · exact ⟨hv, .inl ⟨p, hp.trans hys, hJ⟩⟩
    · exact ⟨hv, .inr ⟨p, by show unS p <+: linesOf s; rw [hp]; exact hpre, hJ⟩⟩
end Go.Proofs.Ytkeinpobngfioaa
