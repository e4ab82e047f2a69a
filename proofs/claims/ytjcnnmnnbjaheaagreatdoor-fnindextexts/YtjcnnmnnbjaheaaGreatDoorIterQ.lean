/- The iterator over the lines of a text (impl.linesIn): its contract. No statement is proved here. -/
import Derived.RangeFuncNested
import Derived.RangeFuncBound
import Derived.RangeFuncCalls
import Derived.RangeFuncLeaves
import Derived.RangeFuncBox
import Derived.Shelf.Abstract
import Derived.Shelf.RegionOpen
import Derived.WalkKit
import Derived.OwnWalkIn
import Derived.TacticsInMore
import Derived.LoopNIn
import Derived.LoopIn
import Derived.WalkSpells
import Derived.Test.YtjcnnmnnbjaheaaGreatDoorRows
import Derived.Test.YtjcnnmnnbjaheaaGreatDoorLemQ
import Derived.Test.YtjcnnmnnbjaheaaGreatDoorLFLemQ
import Derived.ProofKit
import Derived.Below
import Derived.Maps.AppendAt
namespace Go.Proofs.YtjcnnmnnbjaheaaGreatDoor
open Go.RowKit Go.Shelf
attribute [local go_sem] Oper.semAt_some

set_option maxHeartbeats 400000 in
theorem lineEnd (s : ByteArray) (k : Nat) (w : World) (hs : s.size ≤ 1048576) (hk : k < s.size) :
    Calls Tryz.prog 68 #[.string s, .int .i64 k] w fun e w' => e = .returned (.int .i64 (endOf s k)) ∧ w' = w := by
  have hdl : (s.extract k s.size).data.toList = s.data.toList.drop k := by
    rw [extract_data, List.take_of_length_le (by rw [List.length_drop, size_eq]; omega)]
  have hI := fun w => indexByte (s.extract k s.size) 10 w
  have e10 : (10 : Int).toNat.toUInt8 = 10 := rfl
  rw [hdl, e10] at hI
  obtain ⟨i, hi⟩ : ∃ i, Lib.indexByte (s.data.toList.drop k) 10 = i := ⟨_, rfl⟩
  have hge := Lib.indexByte_ge (s.data.toList.drop k) 10
  have hlt := indexByte_lt (s.data.toList.drop k) 10
  rw [hi] at hI hge hlt
  have hlen : (s.data.toList.drop k).length = s.size - k := by rw [List.length_drop, size_eq]
  rw [hlen] at hlt
  by_cases hneg : i < 0
  · have HE : Hid (endOf s k = s.size) := by show endOf s k = _; unfold endOf; rw [hi, if_pos hneg]
    clear hi e10 hdl hlen hlt
    go_enter Tryz.func68, Tryz.ntmps68
    go_wp2_with (go_at_call 91; refine (hI _).mono ?_; rintro e w' ⟨rfl, rfl⟩)
    go_ret
    exact ⟨ret_int (by rw [HE.out]), rfl⟩
  · have HE : Hid (endOf s k = k + i.toNat + 1) := by show endOf s k = _; unfold endOf; rw [hi, if_neg hneg]
    have hi2 : i < 1048576 := by omega
    clear hi e10 hdl hlen hlt
    go_enter Tryz.func68, Tryz.ntmps68
    go_wp2_with (go_at_call 91; refine (hI _).mono ?_; rintro e w' ⟨rfl, rfl⟩)
    go_ret
    refine ⟨ret_int ?_, rfl⟩
    rw [HE.out]; omega

/-- A round keeps the block in which the text is boxed. -/
def KeepB (Bn : Nat) (W W' : World) : Prop := W'.heap[Bn]? = W.heap[Bn]?
theorem keepB_t {Bn : Nat} {A B C : World} (h : KeepB Bn A B) (k : KeepB Bn B C) : KeepB Bn A C := Eq.trans k h
theorem keepB_b {Bn : Nat} {w : World} (hB : Bn < w.heap.size) (W : World) (l : Nat) (o o' : Obj) (hl : w.heap.size ≤ l) (_ : W.heap[l]? = some o) (_ : o.isCells = false) (_ : o.isWalk = false) : KeepB Bn W (W.putObj l o') := by
  unfold KeepB
  exact World.putObj_heap_other (by omega)

set_option maxRecDepth 100000 in
set_option maxHeartbeats 1000000 in
theorem lines1_in (n : Nat) (hn : 1 ≤ n) (l Bn : Nat) (s : ByteArray) (hs : s.size ≤ 1048576) (J Jx : List ByteArray → World → Prop)
    (hY : ∀ pre x W, x.size ≤ 1048576 → J pre W → pre.length < (linesOf s).length → YieldAt Fence.wide (n - 1) Tryz.prog l #[.string x] W fun e W' =>
      (e = .returned (.bool true) ∧ J (pre ++ [x]) W' ∧ KeepB Bn W W') ∨ (e = .returned (.bool false) ∧ Jx (pre ++ [x]) W'))
    (W : World) (hBn : W.heap[Bn]? = some (.cells #[.string s] 9 (0, 0))) (h0 : J [] W) :
    CallsIn Fence.wide n Tryz.prog 67 #[.func (.yield l) #[] #[], .pointer (some ⟨Bn, 0, none⟩)] W fun e W' => (∃ v, e = .returned v) ∧
      ((∃ ys, ys = linesOf s ∧ J ys W') ∨ (∃ pre, pre <+: linesOf s ∧ Jx pre W')) := by
  refine callsIn_of_wp Tryz.func67 rfl trivial ?_ rfl
  simp only [Tryz.ntmps67, List.size_toArray, List.length_cons, List.length_nil, Nat.reduceAdd, Nat.reduceSub, Array.replicate_succ, Array.replicate_zero, List.push_toArray, List.append_toArray, List.nil_append, List.cons_append]
  gi_wp2
  gi_loopw [3] (fun p wr => ∃ (k : Nat) (pre : List ByteArray), k ≤ s.size ∧ p = .int .i64 k ∧ linesOf s = pre ++ linesFrom s k ∧ wr.heap[Bn]? = some (.cells #[.string s] 9 (0, 0)) ∧ J pre wr)
    (fun p _ => s.size - (intOf p).toNat)
  case atStart =>
    exact ⟨0, [], Nat.zero_le _, rfl, rfl, hBn, h0⟩
  case round =>
    obtain ⟨k, pre, hk, rfl, hx, hbox, hJs⟩ := hrel
    have hcell : wr.cell? ⟨Bn, 0, none⟩ = some (.string s) := by simp [World.cell?, hbox]
    by_cases hlt : k < s.size
    · have hst := linesFrom_step s k hlt
      obtain ⟨hb1, hb2⟩ := endOf_bd s k hlt
      have HX : Hid (linesOf s = pre ++ linesFrom s k) := hx
      have HST : Hid (linesFrom s k = s.extract k (endOf s k) :: linesFrom s (endOf s k)) := hst
      have hE := fun w => lineEnd s k w hs hlt
      obtain ⟨j, hj⟩ : ∃ j, endOf s k = j := ⟨_, rfl⟩
      rw [hj] at hE hb1 hb2
      obtain ⟨fn, tmps, assign, body, hy, hR⟩ := hY pre (s.extract k j) wr (Nat.le_trans (extract_size_le _ _ _) hs) hJs (by rw [HX.out, HST.out]; simp)
      clear hx hst
      gi_wp2_with (refine ⟨trivial, ?_⟩; gi_at_call 68; refine (callsIn_wide.2 (hE _)).mono ?_; rintro e w' ⟨rfl, rfl⟩)
      refine hR.mono ?_
      rintro e W3 (⟨rfl, hJ3, hk3⟩ | ⟨rfl, hJx3⟩)
      · have hbox3 := hk3.trans hbox
        clear hk3 hbox hcell hJs
        gi_wp2
        go_roundw
        case rel => exact ⟨j, pre ++ [s.extract k j], hb2, rfl, by rw [HX.out, HST.out, hj]; simp, hbox3, hJ3⟩
        case measure => simp [intOf]; omega
      · gi_wp2
        refine bodyPost_ret (results_none rfl _ _ _) rfl ?_
        exact ⟨⟨_, rfl⟩, .inr ⟨pre ++ [s.extract k j], ⟨linesFrom s j, by rw [HX.out, HST.out, hj]; simp⟩, hJx3⟩⟩
    · have he : linesOf s = pre := by rw [hx, linesFrom_end s k (by omega), List.append_nil]
      clear hx
      gi_wp2
      go_end0
      exact ⟨⟨_, rfl⟩, .inl ⟨pre, he.symm, hJs⟩⟩

set_option maxHeartbeats 400000 in
theorem linesIn_any (s : ByteArray) (w : World) :
    Calls Tryz.prog 42 #[.string s] w fun e w' => e = .returned (.func (.func 67) #[] #[.pointer (some ⟨w.heap.size, 0, none⟩)]) ∧ w' = w.alloc (.cells #[.string s] 9) := by
  go_enter Tryz.func42, Tryz.ntmps42
  go_wp2
  go_ret
  exact ⟨rfl, rfl⟩

theorem lines_stops (n : Nat) (hn : 1 ≤ n) (Bn : Nat) (s : ByteArray) (hs : s.size ≤ 1048576) (w : World) (hBn : Bn < w.heap.size) (hc : w.heap[Bn]? = some (.cells #[.string s] 9 (0, 0))) :
    SeqStopsK Fence.wide n Tryz.prog 67 #[.pointer (some ⟨Bn, 0, none⟩)] (fun x : ByteArray => #[Value.string x]) (KeepB Bn) (fun ys => ys = linesOf s) (fun pre => pre <+: linesOf s) (linesOf s).length w := fun l J Jx W hW _ _ hY h0 =>
  lines1_in n hn l Bn s hs J Jx (fun pre x W _ => hY pre x W) W ((hW.block Bn hBn).trans hc) h0

/-- Texts that are not too long: what the iterator hands on. -/
abbrev Sm : Type := { x : ByteArray // x.size ≤ 1048576 }
def unS (l : List Sm) : List ByteArray := l.map (·.1)
theorem lines_stopsS (n : Nat) (hn : 1 ≤ n) (Bn : Nat) (s : ByteArray) (hs : s.size ≤ 1048576) (w : World) (hBn : Bn < w.heap.size) (hc : w.heap[Bn]? = some (.cells #[.string s] 9 (0, 0))) :
    SeqStopsK Fence.wide n Tryz.prog 67 #[.pointer (some ⟨Bn, 0, none⟩)] (fun x : Sm => #[Value.string x.1]) (KeepB Bn) (fun ys => unS ys = linesOf s) (fun pre => unS pre <+: linesOf s) (linesOf s).length w := fun l J Jx W hW _ _ hY h0 => by
  refine (lines1_in n hn l Bn s hs (fun pre W => ∃ p : List Sm, unS p = pre ∧ J p W) (fun pre W => ∃ p : List Sm, unS p = pre ∧ Jx p W) ?_ W ((hW.block Bn hBn).trans hc) ⟨[], rfl, h0⟩).mono ?_
  · rintro pre x W hx ⟨p, rfl, hJ⟩ hlen
    obtain ⟨fn, tmps, assign, body, hy, hR⟩ := hY p ⟨x, hx⟩ W hJ (by simpa [unS] using hlen)
    refine ⟨fn, tmps, assign, body, hy, hR.mono ?_⟩
    rintro e W' (⟨rfl, hJ', hk⟩ | ⟨rfl, hJx'⟩)
    · exact .inl ⟨rfl, ⟨_, by simp [unS], hJ'⟩, hk⟩
    · exact .inr ⟨rfl, _, by simp [unS], hJx'⟩
  · rintro e W' ⟨hv, ⟨ys, hys, p, hp, hJ⟩ | ⟨pre, hpre, p, hp, hJ⟩⟩
    · exact ⟨hv, .inl ⟨p, hp.trans hys, hJ⟩⟩
    · exact ⟨hv, .inr ⟨p, by show unS p <+: linesOf s; rw [hp]; exact hpre, hJ⟩⟩
end Go.Proofs.YtjcnnmnnbjaheaaGreatDoor
/- The contract of impl.TextFault. No statement is proved here. -/
namespace Go.Proofs.YtjcnnmnnbjaheaaGreatDoor
open Go.RowKit Go.Shelf
attribute [local go_sem] Oper.semAt_some

/-- The fault of a text. -/
def tf (s : ByteArray) : Int := if 2000 < (s.size : Int) ∨ 100 < ((linesOf s).length : Int) then 2 else 0
theorem tf_many {s : ByteArray} (h : 2000 < (s.size : Int) ∨ 100 < ((linesOf s).length : Int)) : tf s = 2 := if_pos h
theorem tf_ok {s : ByteArray} (h : ¬ (2000 < (s.size : Int) ∨ 100 < ((linesOf s).length : Int))) : tf s = 0 := if_neg h
theorem lines_le (s : ByteArray) : (linesOf s).length ≤ s.size := by
  have := spl_length (s.data.toList.drop 0)
  unfold linesOf linesFrom
  rw [List.length_map]
  rw [List.drop_zero, size_eq] at this
  simpa using this
theorem cell_of_box {W : World} {B : Nat} {v : Value} {t : TypeId} (h : W.heap[B]? = some (.cells #[v] t (0, 0))) : W.cell? ⟨B, 0, none⟩ = some v ∧ W.frozen? ⟨B, 0, none⟩ = false := by
  constructor <;> simp [World.cell?, World.frozen?, h]
theorem cell_new (W : World) (v : Value) (t : TypeId) : (W.alloc (.cells #[v] t)).cell? ⟨W.heap.size, 0, none⟩ = some v ∧ (W.alloc (.cells #[v] t)).frozen? ⟨W.heap.size, 0, none⟩ = false :=
  cell_of_box (World.alloc_heap_new W _)
theorem cell_alloc' {W : World} {a : Addr} {v : Value} (o : Obj) (h : W.cell? a = some v) : (W.alloc o).cell? a = some v := cell_kept h (World.grownBy_alloc W o none) (fun r e => by cases e)
theorem frozen_alloc' {W : World} {a : Addr} {v : Value} (o : Obj) (h : W.cell? a = some v) (hf : W.frozen? a = false) : (W.alloc o).frozen? a = false := (frozen_kept h (World.grownBy_alloc W o none) (fun r e => by cases e)).trans hf

end Go.Proofs.YtjcnnmnnbjaheaaGreatDoor
/- The contracts of spec.l1Split and spec.TextFault. No statement is proved here. -/
namespace Go.Proofs.YtjcnnmnnbjaheaaGreatDoor
open Go.ChangeShapes Go.WideShapes Go.ChangeAt Go.RowKit

theorem byte_at (s : ByteArray) (k : Nat) (h : k < s.size) : s.data.toList[k]'(by rw [size_eq]; exact h) = s[k] := rfl
theorem byte_ten {c : UInt8} (h : ((c.toNat : Int) == 10) = true) : c = 10 := by
  apply UInt8.toNat_inj.1
  have := of_decide_eq_true h
  have h2 : (10 : UInt8).toNat = 10 := rfl
  omega
theorem byte_not_ten {c : UInt8} (h : ((c.toNat : Int) == 10) = false) : ¬ c = 10 := by
  intro e
  rw [e] at h
  exact absurd h (by decide)
/-- The bytes from fr up to k. -/
def seg (s : ByteArray) (fr k : Nat) : List UInt8 := (s.data.toList.drop fr).take (k - fr)
theorem seg_snoc (s : ByteArray) (fr k : Nat) (h1 : fr ≤ k) (h : k < s.size) : seg s fr (k + 1) = seg s fr k ++ [s[k]] := by
  unfold seg
  have hl : k - fr < (s.data.toList.drop fr).length := by rw [List.length_drop, size_eq]; omega
  have e : k + 1 - fr = (k - fr) + 1 := by omega
  rw [e, List.take_succ_eq_append_getElem hl, List.getElem_drop]
  congr 2
  rw [← byte_at s k h]
  congr 1
  omega
theorem endOf_at (s : ByteArray) (fr k : Nat) (h1 : fr ≤ k) (h : k < s.size) (hn : ¬ (10 : UInt8) ∈ seg s fr k) (hc : s[k] = 10) : endOf s fr = k + 1 := by
  have hl : k - fr < (s.data.toList.drop fr).length := by rw [List.length_drop, size_eq]; omega
  have hsp : s.data.toList.drop fr = seg s fr k ++ (10 : UInt8) :: (s.data.toList.drop fr).drop (k - fr + 1) := by
    conv => lhs; rw [← List.take_append_drop (k - fr) (s.data.toList.drop fr), List.drop_eq_getElem_cons hl]
    unfold seg
    congr 2
    rw [List.getElem_drop, ← hc, ← byte_at s k h]
    congr 1
    omega
  have hi : Lib.indexByte (s.data.toList.drop fr) 10 = (k - fr : Nat) := by
    rw [hsp, indexByte_app _ _ _ hn]
    unfold seg
    rw [List.length_take]
    omega
  unfold endOf
  rw [hi, if_neg (by omega)]
  omega
theorem endOf_last (s : ByteArray) (fr : Nat) (hn : ¬ (10 : UInt8) ∈ seg s fr s.size) : endOf s fr = s.size := by
  have e : seg s fr s.size = s.data.toList.drop fr := by
    unfold seg
    rw [List.take_of_length_le (by rw [List.length_drop, size_eq]; exact Nat.le_refl _)]
  rw [e] at hn
  unfold endOf
  rw [indexByte_none _ _ hn, if_pos (by omega)]
theorem lines_small (s : ByteArray) (hs : s.size ≤ 1048576) : ∀ k, k < (linesOf s).length → ((linesOf s).getD k ByteArray.empty).size ≤ 9223372036854775807 := by
  have key : ∀ m fr, s.size - fr ≤ m → ∀ x ∈ linesFrom s fr, x.size ≤ 1048576 := by
    intro m
    induction m with
    | zero => intro fr h x hx; rw [linesFrom_end s fr (by omega)] at hx; cases hx
    | succ m ih =>
      intro fr h x hx
      by_cases hlt : fr < s.size
      · rw [linesFrom_step s fr hlt] at hx
        have := endOf_bd s fr hlt
        rcases List.mem_cons.1 hx with rfl | hx
        · exact Nat.le_trans (extract_size_le _ _ _) hs
        · exact ih (endOf s fr) (by omega) x hx
      · rw [linesFrom_end s fr (by omega)] at hx; cases hx
  intro k hk
  rw [getD_at _ k hk]
  have := key s.size 0 (by omega) _ (List.getElem_mem hk)
  exact Nat.le_trans this (by omega)

set_option maxHeartbeats 2000000 in
theorem l1Split (s : ByteArray) (w : World) (hs : s.size ≤ 1048576) :
    Calls Tryz.prog 25 #[.string s] w fun e w' => ∃ v, e = .returned v ∧ w'.ownsRow w.heap.size 9 1 v (linesOf s).length ((linesOf s).map Value.string) ∧ Below w.heap.size w w' := by
  obtain ⟨i0, hi, hz0, hz1, hz2⟩ := info_parts infoString
  go_enter Tryz.func25, Tryz.ntmps25
  go_wp2
  go_loopw [3, 4, 5] (fun v f i wr => ∃ (k fr : Nat) (pre : List ByteArray), fr ≤ k ∧ k ≤ s.size ∧ i = .int .i64 k ∧ f = .int .i64 fr ∧ Hid (linesOf s = pre ++ linesFrom s fr) ∧ Hid (¬ (10 : UInt8) ∈ seg s fr k) ∧ pre.length ≤ fr ∧
      wr.ownsRow w.heap.size 9 1 v pre.length (pre.map Value.string) ∧ Below w.heap.size w wr ∧ w.heap.size + 1 ≤ wr.heap.size) (fun _ _ i _ => s.size - (intOf i).toNat)
  case atStart =>
    refine ⟨0, 0, [], Nat.le_refl _, Nat.zero_le _, rfl, rfl, rfl, ?_, Nat.le_refl _, ?_, (Below.refl _ _).alloc (Nat.le_refl _) _, by simp⟩
    · show ¬ _; simp [seg]
    · exact World.ownsRow_lit w #[] 0 (Nat.le_refl _) (Nat.zero_le _) rfl
  case round =>
    obtain ⟨k, fr, pre, hfk, hk, rfl, rfl, hL, hN, hpl, hown, hbel, hsz⟩ := hrel
    by_cases hlt : k < s.size
    · by_cases hz : ((s[k].toNat : Int) == 10) = true
      · have hE := endOf_at s fr k hfk hlt hN.out (byte_ten hz)
        have hL' : Hid (linesOf s = (pre ++ [s.extract fr (k + 1)]) ++ linesFrom s (k + 1)) := by
          show linesOf s = _
          rw [hL.out, linesFrom_step s fr (by omega), hE]; simp
        clear hE hL hN
        go_wp2_with (at_builtin; refine wpList_append_own _ rfl (.tmp 17) (.tmp 23) 46 rfl w.heap.size 9 i0 (.string ByteArray.empty) 1 16 Tryz.underlying46 hi hz0 hz1 hz2 rfl (by decide) u3 _ _ rfl (hown.alloc _) ⟨wr.heap.size, 0, none⟩ 1 1 [.string (s.extract fr (k + 1))] rfl rfl (cell_one_new _ _ _) (by simp [Value.oneCell']) (by unfold maxLen; omega) (by omega) (by simp; omega) ?_; intro v' w1 hown' hgrow _)
        have hb1 : Below w.heap.size w w1 := (hbel.alloc (by omega) _).grown hgrow (by simp; omega) (fun j hj => (hown.lt j hj).1)
        have hs1 : w.heap.size + 1 ≤ w1.heap.size := by have := hgrow.size; simp at this; omega
        go_roundw
        case rel =>
          refine ⟨k + 1, k + 1, pre ++ [s.extract fr (k + 1)], Nat.le_refl _, by omega, by go_num, by go_num, hL', ?_, by simp; omega, ?_, hb1, hs1⟩
          · show ¬ _; simp [seg]
          · simpa using hown'
        case measure => simp [intOf]; omega
      · have hz' : ((s[k].toNat : Int) == 10) = false := by simpa using hz
        have hN' : Hid (¬ (10 : UInt8) ∈ seg s fr (k + 1)) := by
          show ¬ _
          rw [seg_snoc s fr k hfk hlt]
          have := byte_not_ten hz'
          simp only [List.mem_append, List.mem_singleton, not_or]
          exact ⟨hN.out, fun e => this e.symm⟩
        clear hz hN
        go_wp2
        go_roundw
        case rel => exact ⟨k + 1, fr, pre, by omega, by omega, by go_num, rfl, hL, hN', hpl, hown, hbel, hsz⟩
        case measure => simp [intOf]; omega
    · have ek : k = s.size := by omega
      by_cases hfr : fr < s.size
      · have hE := endOf_last s fr (by rw [← ek]; exact hN.out)
        have hL' : Hid (linesOf s = pre ++ [s.extract fr s.size]) := by
          show linesOf s = _
          rw [hL.out, linesFrom_step s fr hfr, hE, linesFrom_end s s.size (Nat.le_refl _)]
        clear hE hL hN ek
        go_wp2_with (at_builtin; refine wpList_append_own _ rfl (.tmp 31) (.tmp 35) 46 rfl w.heap.size 9 i0 (.string ByteArray.empty) 1 16 Tryz.underlying46 hi hz0 hz1 hz2 rfl (by decide) u3 _ _ rfl (hown.alloc _) ⟨wr.heap.size, 0, none⟩ 1 1 [.string (s.extract fr s.size)] rfl rfl (cell_one_new _ _ _) (by simp [Value.oneCell']) (by unfold maxLen; omega) (by omega) (by simp; omega) ?_; intro v' w1 hown' hgrow _)
        have hb1 : Below w.heap.size w w1 := (hbel.alloc (by omega) _).grown hgrow (by simp; omega) (fun j hj => (hown.lt j hj).1)
        go_ret
        refine ⟨_, rfl, ?_, hb1⟩
        rw [hL'.out]
        simpa using hown'
      · have hL' : Hid (linesOf s = pre) := by
          show linesOf s = _
          rw [hL.out, linesFrom_end s fr (by omega), List.append_nil]
        clear hL hN ek
        go_wp2
        go_ret
        refine ⟨_, rfl, ?_, hbel⟩
        rw [hL'.out]
        exact hown

/-- A row of strings that is owned, as a slice that reads as them. -/
theorem SS_of_row {w' : World} {base n : Nat} {v : Value} {ss : List ByteArray} (h : w'.ownsRow base 9 1 v n (ss.map Value.string)) (hn : n = ss.length)
    (hz : ∀ k, k < ss.length → (ss.getD k ByteArray.empty).size ≤ 9223372036854775807) : ∃ a cap, v = .slice a ss.length cap ∧ SS w' a ss ∧ (a = none → ss = []) := by
  rcases h.2 with ⟨h', h0⟩ | ⟨g, cap, cur, h', hb, hg, _⟩
  · have e : ss = [] := List.length_eq_zero_iff.1 (by omega)
    exact ⟨none, 0, by rw [h', e]; rfl, ⟨hz, fun k hk => by rw [e] at hk; exact absurd hk (Nat.not_lt_zero _)⟩, fun _ => e⟩
  · refine ⟨some ⟨g, 0, none⟩, cap, by rw [h', hn], ⟨hz, fun k hk => ⟨g, 0, rfl, (Array.getElem?_eq_some_iff.1 hg).1, ?_⟩⟩, fun e => by cases e⟩
    rw [h'] at h
    rw [Nat.zero_add, h.cellAt k (by omega), getD_at ss k hk]; simp [hk]

end Go.Proofs.YtjcnnmnnbjaheaaGreatDoor
