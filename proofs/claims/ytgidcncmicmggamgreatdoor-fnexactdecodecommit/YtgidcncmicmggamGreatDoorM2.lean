/- Texts of this claim, laid together: SplLem, Iter, TF, AsC, AsD, CdC, ShelfE, FiC, CmO, CmR, IdL, NmC. -/
import Derived.Test.YtgidcncmicmggamGreatDoorM1
import Derived.RangeFuncNested
import Derived.RangeFuncBound
import Derived.RangeFuncCalls
import Derived.RangeFuncLeaves
import Derived.RangeFuncBox
import Derived.Shelf.Abstract
import Derived.Shelf.RegionOpen
import Derived.WalkKit
import Derived.OwnWalkIn
import Derived.TacticsInMore
import Derived.LoopNIn
import Derived.LoopIn
import Derived.WalkSpells
import Derived.Test.YtgidcncmicmggamGreatDoorRows
import Derived.LaidEql
import Derived.Stop.Asserts
import Derived.RowKitTokens
import Derived.Below
import Derived.ProofKit
import Derived.Shelf.Strings.Builder1
import Derived.Shelf.Strings.Builder2
import Derived.Shelf.Strings.OnBuilder
import Derived.Shelf.Small.Bits
import Derived.Shelf.Small.Strs
import Derived.Shelf.Strings.BuilderF
import Derived.Shelf.Strconv.Itoa0
import Derived.Shelf.Strconv.Itoa1
import Derived.Shelf.LaysM
import Derived.Shelf.Strconv.Itoa2
import Derived.Shelf.Strconv.Itoa3
import Derived.Shelf.Strconv.Itoa4
import Derived.Shelf.Strconv.ParseIntEmpty
import Derived.Shelf.Strconv.Clone
import Derived.Shelf.Strconv.SyntaxError
import Derived.Shelf.LaysC
import Derived.Shelf.Strconv.ToError
import Derived.Shelf.Strconv.Lower
import Derived.Shelf.Strconv.ParseUint10
import Derived.Shelf.Strconv.ParseUint10Empty
import Derived.Shelf.Strconv.ParseUint10Any
import Derived.Shelf.Strconv.ParseInt10
import Derived.Shelf.Strconv.RangeError
import Derived.Shelf.Strconv.ToErrorRange
import Derived.Shelf.Strconv.ParseUintEmpty
import Derived.Shelf.Strconv.ParseUint10b64
import Derived.Shelf.Strconv.ParseUint10b32
import Derived.Shelf.Strconv.ParseUint10b16
import Derived.Shelf.Strconv.ParseUint10b8
import Derived.Shelf.Strconv.ParseUint10At
import Derived.Shelf.Strconv.ParseInt10At64
import Derived.Shelf.Strconv.ParseInt10At32
import Derived.Shelf.Strconv.ParseInt10At16
import Derived.Shelf.Strconv.ParseInt10At8
import Derived.Shelf.Strconv.ParseInt10All
import Derived.Shelf.Strconv.ParseIntPublic10
import Derived.Shelf.Strings.Search1
import Derived.Shelf.Strings.Search2
import Derived.Shelf.Strings.Search3
import Derived.Shelf.Strings.Cut
import Derived.Shelf.Strings.Shaped
import Derived.Shelf.Unicode.Decode
import Derived.Shelf.Unicode.DecodeSlow
import Derived.Shelf.Unicode.DecodeAny
import Derived.Shelf.Slices.Turned
import Derived.Test.YtgidcncmicmggamGreatDoorProg
import Derived.Lib.LaidTab
import Derived.Lib.ItoaNum
/- Plain mathematics of the lines of a text. No statement is proved here. -/
namespace Go.Proofs.YtgidcncmicmggamGreatDoor
open Go.RowKit

/-- The lines of a text: what a line feed ends, it being the last byte, and what is behind the last one, if it is not empty. -/
def spl : List UInt8 → List (List UInt8)
  | [] => []
  | c :: l => if c = 10 then [c] :: spl l else match spl l with
    | [] => [[c]]
    | x :: xs => (c :: x) :: xs
theorem spl_feed (a r : List UInt8) (h : ¬ (10 : UInt8) ∈ a) : spl (a ++ 10 :: r) = (a ++ [10]) :: spl r := by
  induction a with
  | nil => simp [spl]
  | cons c a ih =>
    have hc : ¬ c = 10 := fun e => h (by simp [e])
    have := ih (fun hm => h (List.mem_cons_of_mem _ hm))
    rw [List.cons_append, spl, if_neg hc, this]
    rfl
theorem spl_one (a : List UInt8) (h : ¬ (10 : UInt8) ∈ a) (h0 : a ≠ []) : spl a = [a] := by
  induction a with
  | nil => exact absurd rfl h0
  | cons c a ih =>
    have hc : ¬ c = 10 := fun e => h (by simp [e])
    rw [spl, if_neg hc]
    cases a with
    | nil => rfl
    | cons d a => rw [ih (fun hm => h (List.mem_cons_of_mem _ hm)) (by simp)]
theorem spl_length (l : List UInt8) : (spl l).length ≤ l.length := by
  induction l with
  | nil => simp [spl]
  | cons c l ih =>
    rw [spl]
    split
    · simpa using ih
    · split
      · simp
      · rename_i x xs h
        rw [h] at ih
        simp at ih ⊢
        omega

def mkB (l : List UInt8) : ByteArray := ⟨l.toArray⟩
theorem mkB_data (l : List UInt8) : (mkB l).data.toList = l := rfl
theorem mkB_eq (s : ByteArray) : mkB s.data.toList = s := by cases s; rfl
/-- The lines from place k on. -/
def linesFrom (s : ByteArray) (k : Nat) : List ByteArray := (spl (s.data.toList.drop k)).map mkB
def linesOf (s : ByteArray) : List ByteArray := linesFrom s 0
/-- Where the line that begins at k ends. -/
def endOf (s : ByteArray) (k : Nat) : Nat := if Lib.indexByte (s.data.toList.drop k) 10 < 0 then s.size else k + (Lib.indexByte (s.data.toList.drop k) 10).toNat + 1
theorem extract_data (s : ByteArray) (a b : Nat) : (s.extract a b).data.toList = (s.data.toList.drop a).take (b - a) := by
  simp [ByteArray.data_extract, List.extract_eq_take_drop]
theorem size_eq (s : ByteArray) : s.data.toList.length = s.size := by simp
theorem extract_size_le (s : ByteArray) (a b : Nat) : (s.extract a b).size ≤ s.size := by
  rw [← size_eq, extract_data, List.length_take, List.length_drop, size_eq]; omega
theorem linesFrom_end (s : ByteArray) (k : Nat) (h : s.size ≤ k) : linesFrom s k = [] := by
  unfold linesFrom
  rw [List.drop_of_length_le (by rw [size_eq]; exact h)]
  rfl
theorem indexByte_split (l : List UInt8) (c : UInt8) (h : ¬ Lib.indexByte l c < 0) :
    ¬ c ∈ l.take (Lib.indexByte l c).toNat ∧ l = l.take (Lib.indexByte l c).toNat ++ c :: l.drop ((Lib.indexByte l c).toNat + 1) ∧ (Lib.indexByte l c).toNat < l.length := by
  induction l with
  | nil => exact absurd (by simp [Lib.indexByte]) h
  | cons b l ih =>
    by_cases hb : (b == c) = true
    · have e : b = c := by simpa using hb
      have : Lib.indexByte (b :: l) c = 0 := by unfold Lib.indexByte; rw [if_pos hb]
      rw [this]
      simp [e]
    · have hne : ¬ c = b := by intro e; exact hb (by simp [e])
      have hg := Lib.indexByte_ge l c
      have hval : Lib.indexByte (b :: l) c = if (Lib.indexByte l c == -1) = true then -1 else Lib.indexByte l c + 1 := by
        rw [Lib.indexByte]
        rw [if_neg hb]
      by_cases h1 : (Lib.indexByte l c == -1) = true
      · rw [hval, if_pos h1] at h
        exact absurd (by omega) h
      · have h2 : ¬ Lib.indexByte l c = -1 := by simpa using h1
        have h3 : ¬ Lib.indexByte l c < 0 := by omega
        obtain ⟨i1, i2, i3⟩ := ih h3
        have e : (Lib.indexByte (b :: l) c).toNat = (Lib.indexByte l c).toNat + 1 := by rw [hval, if_neg h1]; omega
        rw [e]
        refine ⟨?_, ?_, ?_⟩
        · simp only [List.take_succ_cons, List.mem_cons, hne, false_or]; exact i1
        · simp only [List.take_succ_cons, List.drop_succ_cons, List.cons_append]
          rw [← i2]
        · simp; omega
theorem take_mid (a r : List UInt8) (c : UInt8) : (a ++ c :: r).take (a.length + 1) = a ++ [c] := by
  rw [List.take_append, List.take_of_length_le (by omega)]
  simp
theorem endOf_bd (s : ByteArray) (k : Nat) (h : k < s.size) : k < endOf s k ∧ endOf s k ≤ s.size := by
  unfold endOf
  by_cases hneg : Lib.indexByte (s.data.toList.drop k) 10 < 0
  · rw [if_pos hneg]; exact ⟨h, Nat.le_refl _⟩
  · rw [if_neg hneg]
    have := (indexByte_split _ _ hneg).2.2
    rw [List.length_drop, size_eq] at this
    omega
/-- The lines from k on: the one that begins there, and those from its end on. -/
theorem linesFrom_step (s : ByteArray) (k : Nat) (h : k < s.size) : linesFrom s k = s.extract k (endOf s k) :: linesFrom s (endOf s k) := by
  have hx : s.extract k (endOf s k) = mkB ((s.data.toList.drop k).take (endOf s k - k)) := by
    apply WideShapes.bytes_inj
    rw [extract_data, mkB_data]
  rw [hx]
  unfold linesFrom
  rw [← List.map_cons]
  congr 1
  unfold endOf
  by_cases hneg : Lib.indexByte (s.data.toList.drop k) 10 < 0
  · rw [if_pos hneg]
    have hl : (s.data.toList.drop k).length = s.size - k := by rw [List.length_drop, size_eq]
    rw [List.take_of_length_le (by omega), List.drop_of_length_le (i := s.size) (by rw [size_eq]; exact Nat.le_refl _)]
    have hn : ¬ (10 : UInt8) ∈ s.data.toList.drop k := fun hm => by have := (indexByte_mem _ _).2 hm; omega
    rw [spl_one _ hn (by intro e; rw [e] at hl; simp at hl; omega)]
    rfl
  · rw [if_neg hneg]
    obtain ⟨i1, i2, i3⟩ := indexByte_split _ _ hneg
    generalize hj : (Lib.indexByte (s.data.toList.drop k) 10).toNat = j at *
    have e1 : k + j + 1 - k = j + 1 := by omega
    have e2 : s.data.toList.drop (k + j + 1) = (s.data.toList.drop k).drop (j + 1) := by rw [List.drop_drop]; congr 1
    rw [e1, e2]
    conv => lhs; rw [i2]
    rw [spl_feed _ _ i1]
    congr 1
    have ha : ((s.data.toList.drop k).take j).length = j := by rw [List.length_take]; omega
    have := take_mid ((s.data.toList.drop k).take j) ((s.data.toList.drop k).drop (j + 1)) 10
    rw [← i2, ha] at this
    exact this.symm
end Go.Proofs.YtgidcncmicmggamGreatDoor
/- The iterator over the lines of a text (impl.linesIn): its contract. No statement is proved here. -/
namespace Go.Proofs.YtgidcncmicmggamGreatDoor
open Go.RowKit Go.Shelf
attribute [local go_sem] Oper.semAt_some

set_option maxHeartbeats 400000 in
theorem lineEnd (s : ByteArray) (k : Nat) (w : World) (hs : s.size ≤ 1048576) (hk : k < s.size) :
    Calls Tryz.prog 99 #[.string s, .int .i64 k] w fun e w' => e = .returned (.int .i64 (endOf s k)) ∧ w' = w := by
  have hdl : (s.extract k s.size).data.toList = s.data.toList.drop k := by
    rw [extract_data, List.take_of_length_le (by rw [List.length_drop, size_eq]; omega)]
  have hI := fun w => indexByte (s.extract k s.size) 10 w
  have e10 : (10 : Int).toNat.toUInt8 = 10 := rfl
  rw [hdl, e10] at hI
  obtain ⟨i, hi⟩ : ∃ i, Lib.indexByte (s.data.toList.drop k) 10 = i := ⟨_, rfl⟩
  have hge := Lib.indexByte_ge (s.data.toList.drop k) 10
  have hlt := indexByte_lt (s.data.toList.drop k) 10
  rw [hi] at hI hge hlt
  have hlen : (s.data.toList.drop k).length = s.size - k := by rw [List.length_drop, size_eq]
  rw [hlen] at hlt
  by_cases hneg : i < 0
  · have HE : Hid (endOf s k = s.size) := by show endOf s k = _; unfold endOf; rw [hi, if_pos hneg]
    clear hi e10 hdl hlen hlt
    go_enter Tryz.func99, Tryz.ntmps99
    go_wp2_with (go_at_call 139; refine (hI _).mono ?_; rintro e w' ⟨rfl, rfl⟩)
    go_ret
    exact ⟨ret_int (by rw [HE.out]), rfl⟩
  · have HE : Hid (endOf s k = k + i.toNat + 1) := by show endOf s k = _; unfold endOf; rw [hi, if_neg hneg]
    have hi2 : i < 1048576 := by omega
    clear hi e10 hdl hlen hlt
    go_enter Tryz.func99, Tryz.ntmps99
    go_wp2_with (go_at_call 139; refine (hI _).mono ?_; rintro e w' ⟨rfl, rfl⟩)
    go_ret
    refine ⟨ret_int ?_, rfl⟩
    rw [HE.out]; omega

/-- A round keeps the block in which the text is boxed. -/
def KeepB (Bn : Nat) (W W' : World) : Prop := W'.heap[Bn]? = W.heap[Bn]?
theorem keepB_t {Bn : Nat} {A B C : World} (h : KeepB Bn A B) (k : KeepB Bn B C) : KeepB Bn A C := Eq.trans k h
theorem keepB_b {Bn : Nat} {w : World} (hB : Bn < w.heap.size) (W : World) (l : Nat) (o o' : Obj) (hl : w.heap.size ≤ l) (_ : W.heap[l]? = some o) (_ : o.isCells = false) (_ : o.isWalk = false) : KeepB Bn W (W.putObj l o') := by
  unfold KeepB
  exact World.putObj_heap_other (by omega)

set_option maxRecDepth 100000 in
set_option maxHeartbeats 1000000 in
theorem lines1_in (n : Nat) (hn : 1 ≤ n) (l Bn : Nat) (s : ByteArray) (hs : s.size ≤ 1048576) (J Jx : List ByteArray → World → Prop)
    (hY : ∀ pre x W, x.size ≤ 1048576 → J pre W → pre.length < (linesOf s).length → YieldAt Fence.wide (n - 1) Tryz.prog l #[.string x] W fun e W' =>
      (e = .returned (.bool true) ∧ J (pre ++ [x]) W' ∧ KeepB Bn W W') ∨ (e = .returned (.bool false) ∧ Jx (pre ++ [x]) W'))
    (W : World) (hBn : W.heap[Bn]? = some (.cells #[.string s] 9 (0, 0))) (h0 : J [] W) :
    CallsIn Fence.wide n Tryz.prog 98 #[.func (.yield l) #[] #[], .pointer (some ⟨Bn, 0, none⟩)] W fun e W' => (∃ v, e = .returned v) ∧
      ((∃ ys, ys = linesOf s ∧ J ys W') ∨ (∃ pre, pre <+: linesOf s ∧ Jx pre W')) := by
  refine callsIn_of_wp Tryz.func98 rfl trivial ?_ rfl
  simp only [Tryz.ntmps98, List.size_toArray, List.length_cons, List.length_nil, Nat.reduceAdd, Nat.reduceSub, Array.replicate_succ, Array.replicate_zero, List.push_toArray, List.append_toArray, List.nil_append, List.cons_append]
  gi_wp2
  gi_loopw [3] (fun p wr => ∃ (k : Nat) (pre : List ByteArray), k ≤ s.size ∧ p = .int .i64 k ∧ linesOf s = pre ++ linesFrom s k ∧ wr.heap[Bn]? = some (.cells #[.string s] 9 (0, 0)) ∧ J pre wr)
    (fun p _ => s.size - (intOf p).toNat)
  case atStart =>
    exact ⟨0, [], Nat.zero_le _, rfl, rfl, hBn, h0⟩
  case round =>
    obtain ⟨k, pre, hk, rfl, hx, hbox, hJs⟩ := hrel
    have hcell : wr.cell? ⟨Bn, 0, none⟩ = some (.string s) := by simp [World.cell?, hbox]
    by_cases hlt : k < s.size
    · have hst := linesFrom_step s k hlt
      obtain ⟨hb1, hb2⟩ := endOf_bd s k hlt
      have HX : Hid (linesOf s = pre ++ linesFrom s k) := hx
      have HST : Hid (linesFrom s k = s.extract k (endOf s k) :: linesFrom s (endOf s k)) := hst
      have hE := fun w => lineEnd s k w hs hlt
      obtain ⟨j, hj⟩ : ∃ j, endOf s k = j := ⟨_, rfl⟩
      rw [hj] at hE hb1 hb2
      obtain ⟨fn, tmps, assign, body, hy, hR⟩ := hY pre (s.extract k j) wr (Nat.le_trans (extract_size_le _ _ _) hs) hJs (by rw [HX.out, HST.out]; simp)
      clear hx hst
      gi_wp2_with (refine ⟨trivial, ?_⟩; gi_at_call 99; refine (callsIn_wide.2 (hE _)).mono ?_; rintro e w' ⟨rfl, rfl⟩)
      refine hR.mono ?_
      rintro e W3 (⟨rfl, hJ3, hk3⟩ | ⟨rfl, hJx3⟩)
      · have hbox3 := hk3.trans hbox
        clear hk3 hbox hcell hJs
        gi_wp2
        go_roundw
        case rel => exact ⟨j, pre ++ [s.extract k j], hb2, rfl, by rw [HX.out, HST.out, hj]; simp, hbox3, hJ3⟩
        case measure => simp [intOf]; omega
      · gi_wp2
        refine bodyPost_ret (results_none rfl _ _ _) rfl ?_
        exact ⟨⟨_, rfl⟩, .inr ⟨pre ++ [s.extract k j], ⟨linesFrom s j, by rw [HX.out, HST.out, hj]; simp⟩, hJx3⟩⟩
    · have he : linesOf s = pre := by rw [hx, linesFrom_end s k (by omega), List.append_nil]
      clear hx
      gi_wp2
      go_end0
      exact ⟨⟨_, rfl⟩, .inl ⟨pre, he.symm, hJs⟩⟩

set_option maxHeartbeats 400000 in
theorem linesIn_any (s : ByteArray) (w : World) :
    Calls Tryz.prog 60 #[.string s] w fun e w' => e = .returned (.func (.func 98) #[] #[.pointer (some ⟨w.heap.size, 0, none⟩)]) ∧ w' = w.alloc (.cells #[.string s] 9) := by
  go_enter Tryz.func60, Tryz.ntmps60
  go_wp2
  go_ret
  exact ⟨rfl, rfl⟩

theorem lines_stops (n : Nat) (hn : 1 ≤ n) (Bn : Nat) (s : ByteArray) (hs : s.size ≤ 1048576) (w : World) (hBn : Bn < w.heap.size) (hc : w.heap[Bn]? = some (.cells #[.string s] 9 (0, 0))) :
    SeqStopsK Fence.wide n Tryz.prog 98 #[.pointer (some ⟨Bn, 0, none⟩)] (fun x : ByteArray => #[Value.string x]) (KeepB Bn) (fun ys => ys = linesOf s) (fun pre => pre <+: linesOf s) (linesOf s).length w := fun l J Jx W hW _ _ hY h0 =>
  lines1_in n hn l Bn s hs J Jx (fun pre x W _ => hY pre x W) W ((hW.block Bn hBn).trans hc) h0

/-- Texts that are not too long: what the iterator hands on. -/
abbrev Sm : Type := { x : ByteArray // x.size ≤ 1048576 }
def unS (l : List Sm) : List ByteArray := l.map (·.1)
theorem lines_stopsS (n : Nat) (hn : 1 ≤ n) (Bn : Nat) (s : ByteArray) (hs : s.size ≤ 1048576) (w : World) (hBn : Bn < w.heap.size) (hc : w.heap[Bn]? = some (.cells #[.string s] 9 (0, 0))) :
    SeqStopsK Fence.wide n Tryz.prog 98 #[.pointer (some ⟨Bn, 0, none⟩)] (fun x : Sm => #[Value.string x.1]) (KeepB Bn) (fun ys => unS ys = linesOf s) (fun pre => unS pre <+: linesOf s) (linesOf s).length w := fun l J Jx W hW _ _ hY h0 => by
  refine (lines1_in n hn l Bn s hs (fun pre W => ∃ p : List Sm, unS p = pre ∧ J p W) (fun pre W => ∃ p : List Sm, unS p = pre ∧ Jx p W) ?_ W ((hW.block Bn hBn).trans hc) ⟨[], rfl, h0⟩).mono ?_
  · rintro pre x W hx ⟨p, rfl, hJ⟩ hlen
    obtain ⟨fn, tmps, assign, body, hy, hR⟩ := hY p ⟨x, hx⟩ W hJ (by simpa [unS] using hlen)
    refine ⟨fn, tmps, assign, body, hy, hR.mono ?_⟩
    rintro e W' (⟨rfl, hJ', hk⟩ | ⟨rfl, hJx'⟩)
    · exact .inl ⟨rfl, ⟨_, by simp [unS], hJ'⟩, hk⟩
    · exact .inr ⟨rfl, _, by simp [unS], hJx'⟩
  · rintro e W' ⟨hv, ⟨ys, hys, p, hp, hJ⟩ | ⟨pre, hpre, p, hp, hJ⟩⟩
    · exact ⟨hv, .inl ⟨p, hp.trans hys, hJ⟩⟩
    · exact ⟨hv, .inr ⟨p, by show unS p <+: linesOf s; rw [hp]; exact hpre, hJ⟩⟩
end Go.Proofs.YtgidcncmicmggamGreatDoor
/- The contract of impl.TextFault. No statement is proved here. -/
namespace Go.Proofs.YtgidcncmicmggamGreatDoor
open Go.RowKit Go.Shelf
attribute [local go_sem] Oper.semAt_some

/-- The fault of a text. -/
def tf (s : ByteArray) : Int := if 2000 < (s.size : Int) ∨ 100 < ((linesOf s).length : Int) then 2 else 0
theorem tf_many {s : ByteArray} (h : 2000 < (s.size : Int) ∨ 100 < ((linesOf s).length : Int)) : tf s = 2 := if_pos h
theorem tf_ok {s : ByteArray} (h : ¬ (2000 < (s.size : Int) ∨ 100 < ((linesOf s).length : Int))) : tf s = 0 := if_neg h
theorem lines_le (s : ByteArray) : (linesOf s).length ≤ s.size := by
  have := spl_length (s.data.toList.drop 0)
  unfold linesOf linesFrom
  rw [List.length_map]
  rw [List.drop_zero, size_eq] at this
  simpa using this
theorem cell_of_box {W : World} {B : Nat} {v : Value} {t : TypeId} (h : W.heap[B]? = some (.cells #[v] t (0, 0))) : W.cell? ⟨B, 0, none⟩ = some v ∧ W.frozen? ⟨B, 0, none⟩ = false := by
  constructor <;> simp [World.cell?, World.frozen?, h]
theorem cell_new (W : World) (v : Value) (t : TypeId) : (W.alloc (.cells #[v] t)).cell? ⟨W.heap.size, 0, none⟩ = some v ∧ (W.alloc (.cells #[v] t)).frozen? ⟨W.heap.size, 0, none⟩ = false :=
  cell_of_box (World.alloc_heap_new W _)
theorem cell_alloc' {W : World} {a : Addr} {v : Value} (o : Obj) (h : W.cell? a = some v) : (W.alloc o).cell? a = some v := cell_kept h (World.grownBy_alloc W o none) (fun r e => by cases e)
theorem frozen_alloc' {W : World} {a : Addr} {v : Value} (o : Obj) (h : W.cell? a = some v) (hf : W.frozen? a = false) : (W.alloc o).frozen? a = false := (frozen_kept h (World.grownBy_alloc W o none) (fun r e => by cases e)).trans hf

set_option maxRecDepth 100000 in
set_option maxHeartbeats 2000000 in
theorem implTextFault (s : ByteArray) (w : World) (hs : s.size ≤ 1048576) :
    Calls Tryz.prog 59 #[.string s] w fun e w' => e = .returned (.int .i64 (tf s)) ∧ Below w.heap.size w w' := by
  by_cases hbig : 2000 < (s.size : Int)
  · have hT : Hid (tf s = 2) := tf_many (Or.inl hbig)
    go_enter Tryz.func59, Tryz.ntmps59
    go_wp2
    go_ret
    exact ⟨ret_int hT.out.symm, Below.refl _ _⟩
  · refine (callsIn_wide (n := 5)).1 ?_
    refine callsIn_of_wp_marks Tryz.func59 rfl trivial ?_ rfl
    simp only [Tryz.ntmps59, List.size_toArray, List.length_cons, List.length_nil, Nat.reduceAdd, Nat.reduceSub, Array.replicate_succ, Array.replicate_zero, List.push_toArray, List.append_toArray, List.nil_append, List.cons_append]
    gi_wp2_with (refine ⟨trivial, ?_⟩; gi_at_call 60; refine (callsIn_wide.2 (linesIn_any _ _)).mono ?_; rintro e w' ⟨rfl, rfl⟩)
    have hll := lines_le s
    have hcnt := cell_new w (.int .i64 0) 3
    have hbx : ((w.alloc (.cells #[.int .i64 0] 3)).alloc (.cells #[.string s] 9)).heap[w.heap.size + 1]? = some (.cells #[.string s] 9 (0, 0)) := by
      have := World.alloc_heap_new (w.alloc (.cells #[.int .i64 0] 3)) (.cells #[.string s] 9)
      rwa [World.size_alloc] at this
    have hB0 : Below w.heap.size w ((w.alloc (.cells #[.int .i64 0] 3)).alloc (.cells #[.string s] 9)) := ((Below.refl _ w).alloc (Nat.le_refl _) _).alloc (by simp) _
    refine wpIn_rangeFunc_ownF rfl (by omega) (gf := 98) (lb := #[.pointer (some ⟨w.heap.size + 1, 0, none⟩)]) rfl trivial (enters_of Tryz.func98 (by kernel_rfl) rfl)
      (lines_stops _ (by omega) (w.heap.size + 1) s hs _ (by simp) hbx) keepB_t (keepB_b (by simp)) (Below.refl _ _) (fun _ => rfl)
      (fun pre W => (W.cell? ⟨w.heap.size, 0, none⟩ = some (.int .i64 pre.length) ∧ W.frozen? ⟨w.heap.size, 0, none⟩ = false) ∧ Below w.heap.size w W)
      (fun _ _ _ => False)
      (OwnFrom.and (Own.from (fun s A B row hs hg hr => ⟨cell_kept hs.1 hg hr, (frozen_kept hs.1 hg hr).trans hs.2⟩) _) (ownFrom_below (Nat.le_refl _) (by simp; omega)))
      (fun _ _ _ _ _ hs _ _ => hs)
      ⟨⟨cell_alloc' _ hcnt.1, frozen_alloc' _ hcnt.1 hcnt.2⟩, hB0⟩
      (fun x => { tmps := #[.string s, undef, .int .i64 0, .pointer (some ⟨w.heap.size, 0, none⟩), .string s, .int .i64 s.size, .bool false, .string s, .func (.func 98) #[] #[.pointer (some ⟨w.heap.size + 1, 0, none⟩)], .string x, undef, undef, undef, undef], defers := [] }) ?assign ?body ?done ?stop
    case assign =>
      intro l x W K hK
      gi_wp2
      simpa using hK
    case body =>
      rintro l pre x W ⟨⟨hc, hf⟩, hB⟩ hlen
      have hb : (pre.length : Int) < 2000 := by omega
      gi_wp2
      refine ⟨KeepsOthers.setCell _ _ _, ?_, ⟨?_, ?_⟩, hB.setCell (p := ⟨w.heap.size, 0, none⟩) (Nat.le_refl _) _⟩
      · exact Below.heap_setCell _ _ _ _ (by simp)
      · rw [World.cell?_setCell_same' _ _ _ (by rw [hc]; rfl)]; simp
      · rw [World.frozen?_setCell]; exact hf
    case done =>
      rintro D ys W hD rfl ⟨⟨hc, _⟩, hB⟩ hK
      have hBD := hB.trans (belowK_b (w := w) (Nat.le_refl _) W D _ (.deferred none) (by simp at hD; omega) hK rfl rfl)
      by_cases hmany : 100 < ((linesOf s).length : Int)
      · have hT : Hid (tf s = 2) := tf_many (Or.inr hmany)
        gi_wp2
        refine ⟨by simp, .inl ⟨_, _, rfl, run_takeDeferred hK, ?_⟩⟩
        refine ⟨_, results_tmp rfl _ _ _, ?_, hBD⟩
        exact ret_int hT.out.symm
      · have hT : Hid (tf s = 0) := tf_ok (by omega)
        gi_wp2
        refine ⟨by simp, .inl ⟨_, _, rfl, run_takeDeferred hK, ?_⟩⟩
        refine ⟨_, results_tmp rfl _ _ _, ?_, hBD⟩
        exact ret_int hT.out.symm
    case stop =>
      rintro D c pre W _ _ h _
      exact h.elim
end Go.Proofs.YtgidcncmicmggamGreatDoor
/- The contracts of errors.As at the program's two faults. No statement is proved here. -/
namespace Go.Proofs.YtgidcncmicmggamGreatDoor
open Go.RowKit Go.Extern.Stop Go.Stop Go.Extern

theorem rlm (z : Sem Value) (f : TypeId → Addr → Nat → Nat → Sem Value) (v : Value) :
    ReflectliteValue.method z f #[v] = (do match ← ReflectliteValue.parts v with | none => z | some (t, a, fl) => f t a fl (fl % 32)) := rfl
/-- errors.As(nil, target). -/
theorem as_nil (t : Value) (w : World) :
    Calls Tryz.prog 65 #[.nilIface, t] w fun e w' => e = .returned (.bool false) ∧ w' = w := by
  go_enter Tryz.func65, Tryz.ntmps65
  go_wp2
  go_ret
  exact ⟨rfl, rfl⟩
theorem methodKind (h : Value) (w : World) : (Go.method 438 216 (.agg #[h]) "Kind").run Tryz.prog w = .ok (266, h) w := by kernel_rfl
theorem methodElem (h : Value) (w : World) : (Go.method 438 216 (.agg #[h]) "Elem").run Tryz.prog w = .ok (284, .agg #[h]) w := by kernel_rfl
theorem methodImplements (h : Value) (w : World) : (Go.method 438 216 (.agg #[h]) "Implements").run Tryz.prog w = .ok (285, .agg #[h]) w := by kernel_rfl
theorem methodAssignableTo (h : Value) (w : World) : (Go.method 438 216 (.agg #[h]) "AssignableTo").run Tryz.prog w = .ok (282, .agg #[h]) w := by kernel_rfl
theorem valueOfPC (t : Addr) (w : World) : (ReflectliteValue.unpack (.iface 113 (.pointer (some t)))).run Tryz.prog w
    = .ok (.agg #[.pointer (some ⟨11, 113, none⟩), .pointer (some ⟨w.heap.size, 0, none⟩), .int .u64 150]) (w.alloc (.cells #[.pointer (some t)] 113)) := by kernel_rfl
theorem typePC (a : Addr) (w : World) : (ReflectliteValue.methodAny (ReflectliteValue.valueError "reflectlite.Value.Type" 0) (fun t _ _ _ => ReflectliteType.toType t) #[.agg #[.pointer (some ⟨11, 113, none⟩), .pointer (some a), .int .u64 150]]).run Tryz.prog w
    = .ok (.iface 216 (.agg #[.pointer (some ⟨11, 113, none⟩)])) w := by kernel_rfl
theorem kindPC (w : World) : ((ReflectliteType.abiMethod fun t => (fun a : Nat => Value.int IntKind.u8 (a : Int)) <$> Rtype.kind t) #[.pointer (some ⟨11, 113, none⟩)]).run Tryz.prog w = .ok (.int .u8 22) w := by kernel_rfl
theorem kindC (w : World) : ((ReflectliteType.abiMethod fun t => (fun a : Nat => Value.int IntKind.u8 (a : Int)) <$> Rtype.kind t) #[.pointer (some ⟨11, 98, none⟩)]).run Tryz.prog w = .ok (.int .u8 25) w := by kernel_rfl
theorem partsPC (a : Addr) (w : World) : (ReflectliteValue.parts (.agg #[.pointer (some ⟨11, 113, none⟩), .pointer (some a), .int .u64 150])).run Tryz.prog w = .ok (some (113, a, 150)) w := by kernel_rfl
theorem isNilPC (a p : Addr) (W : World) (ha : W.cell? a = some (.pointer (some p))) :
    (ReflectliteValue.method (ReflectliteValue.valueError "reflectlite.Value.IsNil" 0) ReflectliteValue.isNil #[.agg #[.pointer (some ⟨11, 113, none⟩), .pointer (some a), .int .u64 150]]).run Tryz.prog W = .ok (.bool false) W := by
  rw [rlm]
  simp only [Sem.run_bind, partsPC, Result.andThen]
  simp [ReflectliteValue.isNil, loadVar, isAgg, underlying, Tryz.underlying113, ha, Result.andThen]
theorem elemPC (w : World) : (ReflectliteType.method ReflectliteType.elem #[.agg #[.pointer (some ⟨11, 113, none⟩)]]).run Tryz.prog w = .ok (.iface 216 (.agg #[.pointer (some ⟨11, 98, none⟩)])) w := by kernel_rfl
theorem implementsC (w : World) : (ReflectliteType.relation "Implements" ReflectliteType.implements_ #[.agg #[.pointer (some ⟨11, 98, none⟩)], .iface 216 (.agg #[.pointer (some ⟨11, 58, none⟩)])]).run Tryz.prog w = .ok (.bool true) w := by kernel_rfl
theorem typeOfC (v : Value) (w : World) : (ReflectliteType.typeOf #[.iface 98 v]).run Tryz.prog w = .ok (.iface 216 (.agg #[.pointer (some ⟨11, 98, none⟩)])) w := by kernel_rfl
theorem assignableC (w : World) : (ReflectliteType.relation "AssignableTo" ReflectliteType.assignableTo #[.agg #[.pointer (some ⟨11, 98, none⟩)], .iface 216 (.agg #[.pointer (some ⟨11, 98, none⟩)])]).run Tryz.prog w = .ok (.bool true) w := by kernel_rfl
theorem valueOfC (c : Int) (w : World) : (ReflectliteValue.unpack (.iface 98 (.agg #[.int .i64 c]))).run Tryz.prog w
    = .ok (.agg #[.pointer (some ⟨11, 98, none⟩), .pointer (some ⟨w.heap.size, 0, none⟩), .int .u64 153]) (w.alloc (.cells #[.int .i64 c] 98)) := by kernel_rfl
theorem elemOfPC (w : World) : (Rtype.elem? 113).run Tryz.prog w = .ok (some 98) w := by kernel_rfl
theorem mkC (p : Addr) (w : World) : (ReflectliteValue.mk 98 p ReflectliteValue.flagAddr).run Tryz.prog w = .ok (.agg #[.pointer (some ⟨11, 98, none⟩), .pointer (some p), .int .u64 409]) w := by kernel_rfl
theorem elemVC (a p : Addr) (W : World) (ha : W.cell? a = some (.pointer (some p))) :
    (ReflectliteValue.method (ReflectliteValue.valueError "reflectlite.Value.Elem" 0) ReflectliteValue.elem #[.agg #[.pointer (some ⟨11, 113, none⟩), .pointer (some a), .int .u64 150]]).run Tryz.prog W
      = .ok (.agg #[.pointer (some ⟨11, 98, none⟩), .pointer (some p), .int .u64 409]) W := by
  rw [rlm]
  simp only [Sem.run_bind, partsPC, Result.andThen]
  simp [ReflectliteValue.elem, loadVar, isAgg, underlying, Tryz.underlying113, ha, Result.andThen, elemOfPC, mkC]
theorem partsCa (a : Addr) (w : World) : (ReflectliteValue.parts (.agg #[.pointer (some ⟨11, 98, none⟩), .pointer (some a), .int .u64 409])).run Tryz.prog w = .ok (some (98, a, 409)) w := by kernel_rfl
theorem partsC (a : Addr) (w : World) : (ReflectliteValue.parts (.agg #[.pointer (some ⟨11, 98, none⟩), .pointer (some a), .int .u64 153])).run Tryz.prog w = .ok (some (98, a, 153)) w := by kernel_rfl
theorem directC (w : World) : (Rtype.directlyAssignable 98 98).run Tryz.prog w = .ok true w := by kernel_rfl
theorem valueOfPR (t : Addr) (w : World) : (ReflectliteValue.unpack (.iface 112 (.pointer (some t)))).run Tryz.prog w
    = .ok (.agg #[.pointer (some ⟨11, 112, none⟩), .pointer (some ⟨w.heap.size, 0, none⟩), .int .u64 150]) (w.alloc (.cells #[.pointer (some t)] 112)) := by kernel_rfl
theorem typePR (a : Addr) (w : World) : (ReflectliteValue.methodAny (ReflectliteValue.valueError "reflectlite.Value.Type" 0) (fun t _ _ _ => ReflectliteType.toType t) #[.agg #[.pointer (some ⟨11, 112, none⟩), .pointer (some a), .int .u64 150]]).run Tryz.prog w
    = .ok (.iface 216 (.agg #[.pointer (some ⟨11, 112, none⟩)])) w := by kernel_rfl
theorem kindPR (w : World) : ((ReflectliteType.abiMethod fun t => (fun a : Nat => Value.int IntKind.u8 (a : Int)) <$> Rtype.kind t) #[.pointer (some ⟨11, 112, none⟩)]).run Tryz.prog w = .ok (.int .u8 22) w := by kernel_rfl
theorem kindR (w : World) : ((ReflectliteType.abiMethod fun t => (fun a : Nat => Value.int IntKind.u8 (a : Int)) <$> Rtype.kind t) #[.pointer (some ⟨11, 100, none⟩)]).run Tryz.prog w = .ok (.int .u8 25) w := by kernel_rfl
theorem partsPR (a : Addr) (w : World) : (ReflectliteValue.parts (.agg #[.pointer (some ⟨11, 112, none⟩), .pointer (some a), .int .u64 150])).run Tryz.prog w = .ok (some (112, a, 150)) w := by kernel_rfl
theorem isNilPR (a p : Addr) (W : World) (ha : W.cell? a = some (.pointer (some p))) :
    (ReflectliteValue.method (ReflectliteValue.valueError "reflectlite.Value.IsNil" 0) ReflectliteValue.isNil #[.agg #[.pointer (some ⟨11, 112, none⟩), .pointer (some a), .int .u64 150]]).run Tryz.prog W = .ok (.bool false) W := by
  rw [rlm]
  simp only [Sem.run_bind, partsPR, Result.andThen]
  simp [ReflectliteValue.isNil, loadVar, isAgg, underlying, Tryz.underlying112, ha, Result.andThen]
theorem elemPR (w : World) : (ReflectliteType.method ReflectliteType.elem #[.agg #[.pointer (some ⟨11, 112, none⟩)]]).run Tryz.prog w = .ok (.iface 216 (.agg #[.pointer (some ⟨11, 100, none⟩)])) w := by kernel_rfl
theorem implementsR (w : World) : (ReflectliteType.relation "Implements" ReflectliteType.implements_ #[.agg #[.pointer (some ⟨11, 100, none⟩)], .iface 216 (.agg #[.pointer (some ⟨11, 58, none⟩)])]).run Tryz.prog w = .ok (.bool true) w := by kernel_rfl
theorem typeOfR (v : Value) (w : World) : (ReflectliteType.typeOf #[.iface 100 v]).run Tryz.prog w = .ok (.iface 216 (.agg #[.pointer (some ⟨11, 100, none⟩)])) w := by kernel_rfl
theorem assignableR (w : World) : (ReflectliteType.relation "AssignableTo" ReflectliteType.assignableTo #[.agg #[.pointer (some ⟨11, 100, none⟩)], .iface 216 (.agg #[.pointer (some ⟨11, 100, none⟩)])]).run Tryz.prog w = .ok (.bool true) w := by kernel_rfl
theorem valueOfR (c : Value) (w : World) : (ReflectliteValue.unpack (.iface 100 (.agg #[c]))).run Tryz.prog w
    = .ok (.agg #[.pointer (some ⟨11, 100, none⟩), .pointer (some ⟨w.heap.size, 0, none⟩), .int .u64 153]) (w.alloc (.cells #[c] 100)) := by kernel_rfl
theorem elemOfPR (w : World) : (Rtype.elem? 112).run Tryz.prog w = .ok (some 100) w := by kernel_rfl
theorem mkR (p : Addr) (w : World) : (ReflectliteValue.mk 100 p ReflectliteValue.flagAddr).run Tryz.prog w = .ok (.agg #[.pointer (some ⟨11, 100, none⟩), .pointer (some p), .int .u64 409]) w := by kernel_rfl
theorem elemVR (a p : Addr) (W : World) (ha : W.cell? a = some (.pointer (some p))) :
    (ReflectliteValue.method (ReflectliteValue.valueError "reflectlite.Value.Elem" 0) ReflectliteValue.elem #[.agg #[.pointer (some ⟨11, 112, none⟩), .pointer (some a), .int .u64 150]]).run Tryz.prog W
      = .ok (.agg #[.pointer (some ⟨11, 100, none⟩), .pointer (some p), .int .u64 409]) W := by
  rw [rlm]
  simp only [Sem.run_bind, partsPR, Result.andThen]
  simp [ReflectliteValue.elem, loadVar, isAgg, underlying, Tryz.underlying112, ha, Result.andThen, elemOfPR, mkR]
theorem partsRa (a : Addr) (w : World) : (ReflectliteValue.parts (.agg #[.pointer (some ⟨11, 100, none⟩), .pointer (some a), .int .u64 409])).run Tryz.prog w = .ok (some (100, a, 409)) w := by kernel_rfl
theorem partsR (a : Addr) (w : World) : (ReflectliteValue.parts (.agg #[.pointer (some ⟨11, 100, none⟩), .pointer (some a), .int .u64 153])).run Tryz.prog w = .ok (some (100, a, 153)) w := by kernel_rfl
theorem directR (w : World) : (Rtype.directlyAssignable 100 100).run Tryz.prog w = .ok true w := by kernel_rfl
end Go.Proofs.YtgidcncmicmggamGreatDoor
/- The contracts of errors.As at the program's two faults, whole. No statement is proved here. -/
namespace Go.Proofs.YtgidcncmicmggamGreatDoor
open Go.RowKit Go.Extern.Stop Go.Stop Go.Extern

theorem setC (q B : Nat) (c : Int) (old : Value) (W : World) (hb : W.cell? ⟨B, 0, none⟩ = some (.int .i64 c)) (ht : W.cell? ⟨q, 0, none⟩ = some old) (hf : W.frozen? ⟨q, 0, none⟩ = false) :
    (ReflectliteValue.set #[.agg #[.pointer (some ⟨11, 98, none⟩), .pointer (some ⟨q, 0, none⟩), .int .u64 409], .agg #[.pointer (some ⟨11, 98, none⟩), .pointer (some ⟨B, 0, none⟩), .int .u64 153]]).run Tryz.prog W
      = .ok (.tuple #[]) (W.setCell ⟨q, 0, none⟩ (.int .i64 c)) := by
  change Sem.run Tryz.prog (ReflectliteValue.parts (.agg #[.pointer (some ⟨11, 98, none⟩), .pointer (some ⟨q, 0, none⟩), .int .u64 409]) >>= fun _ => ReflectliteValue.parts (.agg #[.pointer (some ⟨11, 98, none⟩), .pointer (some ⟨B, 0, none⟩), .int .u64 153]) >>= _) W = _
  simp only [Sem.run_bind, partsCa, partsC, Result.andThen]
  simp [ReflectliteValue.flagAddr, loadVar, Tryz.isAgg98, Tryz.sizeOf98, hb, Result.andThen, directC, storeVar, Value.cells, storeCells, loadCellsFrom, Addr.add, go_sem, ht, hf]
set_option maxRecDepth 20000 in
set_option maxHeartbeats 4000000 in
theorem as_hitC (c : Int) (q : Nat) (old : Value) (w : World) (hg : w.cell? ⟨1, 0, none⟩ = some (.iface 216 (.agg #[.pointer (some ⟨11, 58, none⟩)]))) (ht0 : w.cell? ⟨q, 0, none⟩ = some old) (hf0 : w.frozen? ⟨q, 0, none⟩ = false) :
    Calls Tryz.prog 65 #[.iface 98 (.agg #[.int .i64 c]), .iface 113 (.pointer (some ⟨q, 0, none⟩))] w fun ev w' => ev = .returned (.bool true) ∧ w' = ((((w.alloc (.cells #[.pointer (some ⟨q, 0, none⟩)] 113)).alloc (.cells #[.pointer (some ⟨11, 113, none⟩), .pointer (some ⟨w.heap.size, 0, none⟩), .int .u64 150] 170)).alloc (.cells #[.pointer (some ⟨11, 113, none⟩), .pointer (some ⟨w.heap.size, 0, none⟩), .int .u64 150] 170)).alloc (.cells #[.int .i64 c] 98)).setCell ⟨q, 0, none⟩ (.int .i64 c) := by
  have h6 := @run_callFunc_extern Tryz.prog 106 _ (fun args => ReflectliteValue.unpack (args.getD 0 (.tuple #[]))) Tryz.func106 (by kernel_rfl) (by kernel_rfl) (by kernel_rfl) (by kernel_rfl)
  have h7 := @run_callFunc_extern Tryz.prog 107 _ (ReflectliteValue.methodAny (ReflectliteValue.valueError "reflectlite.Value.Type" 0) (fun t _ _ _ => ReflectliteType.toType t)) Tryz.func107 (by kernel_rfl) (by kernel_rfl) (by kernel_rfl) (by kernel_rfl)
  have h8 := @run_callFunc_extern Tryz.prog 108 _ (ReflectliteValue.method (ReflectliteValue.valueError "reflectlite.Value.IsNil" 0) ReflectliteValue.isNil) Tryz.func108 (by kernel_rfl) (by kernel_rfl) (by kernel_rfl) (by kernel_rfl)
  have h27 := @run_callFunc_extern Tryz.prog 266 _ (ReflectliteType.abiMethod fun t => do pure (.int .u8 (← Rtype.kind t))) Tryz.func266 (by kernel_rfl) (by kernel_rfl) (by kernel_rfl) (by kernel_rfl)
  have h37 := @run_callFunc_extern Tryz.prog 284 _ (ReflectliteType.method ReflectliteType.elem) Tryz.func284 (by kernel_rfl) (by kernel_rfl) (by kernel_rfl) (by kernel_rfl)
  have h38 := @run_callFunc_extern Tryz.prog 285 _ (ReflectliteType.relation "Implements" ReflectliteType.implements_) Tryz.func285 (by kernel_rfl) (by kernel_rfl) (by kernel_rfl) (by kernel_rfl)
  have h10 := @run_callFunc_extern Tryz.prog 150 _ ReflectliteType.typeOf Tryz.func150 (by kernel_rfl) (by kernel_rfl) (by kernel_rfl) (by kernel_rfl)
  have h35 := @run_callFunc_extern Tryz.prog 282 _ (ReflectliteType.relation "AssignableTo" ReflectliteType.assignableTo) Tryz.func282 (by kernel_rfl) (by kernel_rfl) (by kernel_rfl) (by kernel_rfl)
  have h11 := @run_callFunc_extern Tryz.prog 151 _ (ReflectliteValue.method (ReflectliteValue.valueError "reflectlite.Value.Elem" 0) ReflectliteValue.elem) Tryz.func151 (by kernel_rfl) (by kernel_rfl) (by kernel_rfl) (by kernel_rfl)
  have h12 := @run_callFunc_extern Tryz.prog 152 _ ReflectliteValue.set Tryz.func152 (by kernel_rfl) (by kernel_rfl) (by kernel_rfl) (by kernel_rfl)
  have mA := methodAssignableTo
  have f6 := valueOfPC
  have f7 := typePC
  have mK := methodKind
  have mE := methodElem
  have mI := methodImplements
  have k27 := kindPC
  have k25 := kindC
  have e27 := elemPC
  have i25 := implementsC
  have n8 := isNilPC ⟨w.heap.size, 0, none⟩ ⟨q, 0, none⟩ ((w.alloc (.cells #[.pointer (some ⟨q, 0, none⟩)] 113)).alloc (.cells #[.pointer (some ⟨11, 113, none⟩), .pointer (some ⟨w.heap.size, 0, none⟩), .int .u64 150] 170)) (by simp)
  have hlt : 1 < w.heap.size := by
    rcases Nat.lt_or_ge 1 w.heap.size with h | h
    · exact h
    · simp [World.cell?, Array.getElem?_eq_none h] at hg
  have hg2 : ((w.alloc (.cells #[.pointer (some ⟨q, 0, none⟩)] 113)).alloc (.cells #[.pointer (some ⟨11, 113, none⟩), .pointer (some ⟨w.heap.size, 0, none⟩), .int .u64 150] 170)).cell? ⟨1, 0, none⟩ = some (.iface 216 (.agg #[.pointer (some ⟨11, 58, none⟩)])) := by
    rw [World.cell?_alloc_lt _ _ ⟨1, 0, none⟩ (by simp; omega), World.cell?_alloc_lt _ _ ⟨1, 0, none⟩ hlt]; exact hg
  have tO := typeOfC
  have a25 := assignableC
  have v25 := valueOfC
  have htl : q < w.heap.size := by
    rcases Nat.lt_or_ge q w.heap.size with h | h
    · exact h
    · simp [World.cell?, Array.getElem?_eq_none h] at ht0
  have el := elemVC ⟨w.heap.size, 0, none⟩ ⟨q, 0, none⟩ (((w.alloc (.cells #[.pointer (some ⟨q, 0, none⟩)] 113)).alloc (.cells #[.pointer (some ⟨11, 113, none⟩), .pointer (some ⟨w.heap.size, 0, none⟩), .int .u64 150] 170)).alloc (.cells #[.pointer (some ⟨11, 113, none⟩), .pointer (some ⟨w.heap.size, 0, none⟩), .int .u64 150] 170)) (by rw [World.cell?_alloc_lt _ _ ⟨w.heap.size, 0, none⟩ (by simp; omega)]; simp)
  have st := setC q (w.heap.size + 1 + 1 + 1) c old ((((w.alloc (.cells #[.pointer (some ⟨q, 0, none⟩)] 113)).alloc (.cells #[.pointer (some ⟨11, 113, none⟩), .pointer (some ⟨w.heap.size, 0, none⟩), .int .u64 150] 170)).alloc (.cells #[.pointer (some ⟨11, 113, none⟩), .pointer (some ⟨w.heap.size, 0, none⟩), .int .u64 150] 170)).alloc (.cells #[.int .i64 c] 98))
    (by rw [World.cell?_alloc_at _ _ _ _ (by simp)]; rfl)
    (by rw [World.cell?_alloc_lt _ _ ⟨q, 0, none⟩ (by simp; omega), World.cell?_alloc_lt _ _ ⟨q, 0, none⟩ (by simp; omega), World.cell?_alloc_lt _ _ ⟨q, 0, none⟩ (by simp; omega), World.cell?_alloc_lt _ _ ⟨q, 0, none⟩ htl]; exact ht0)
    (by rw [World.frozen?_alloc_old _ _ ⟨q, 0, none⟩ (by simp; omega), World.frozen?_alloc_old _ _ ⟨q, 0, none⟩ (by simp; omega), World.frozen?_alloc_old _ _ ⟨q, 0, none⟩ (by simp; omega), World.frozen?_alloc_old _ _ ⟨q, 0, none⟩ (Nat.ne_of_lt htl)]; exact hf0)
  go_enter Tryz.func65, Tryz.ntmps65
  go_wp2
  refine wp_loop_rounds 1 ?_
  rw [rounds_succ]
  go_wp2
  go_ret
  exact ⟨rfl, rfl⟩
theorem setR (q B : Nat) (T0 : TypeId) (u : Value) (old : Value) (W : World) (hb : W.cell? ⟨B, 0, none⟩ = some (.iface T0 u)) (ht : W.cell? ⟨q, 0, none⟩ = some old) (hf : W.frozen? ⟨q, 0, none⟩ = false) :
    (ReflectliteValue.set #[.agg #[.pointer (some ⟨11, 100, none⟩), .pointer (some ⟨q, 0, none⟩), .int .u64 409], .agg #[.pointer (some ⟨11, 100, none⟩), .pointer (some ⟨B, 0, none⟩), .int .u64 153]]).run Tryz.prog W
      = .ok (.tuple #[]) (W.setCell ⟨q, 0, none⟩ (.iface T0 u)) := by
  change Sem.run Tryz.prog (ReflectliteValue.parts (.agg #[.pointer (some ⟨11, 100, none⟩), .pointer (some ⟨q, 0, none⟩), .int .u64 409]) >>= fun _ => ReflectliteValue.parts (.agg #[.pointer (some ⟨11, 100, none⟩), .pointer (some ⟨B, 0, none⟩), .int .u64 153]) >>= _) W = _
  simp only [Sem.run_bind, partsRa, partsR, Result.andThen]
  simp [ReflectliteValue.flagAddr, loadVar, Tryz.isAgg100, Tryz.sizeOf100, hb, Result.andThen, directR, storeVar, Value.cells, storeCells, loadCellsFrom, Addr.add, go_sem, ht, hf]
set_option maxRecDepth 20000 in
set_option maxHeartbeats 4000000 in
theorem as_hitR (T0 : TypeId) (u : Value) (q : Nat) (old : Value) (w : World) (hg : w.cell? ⟨1, 0, none⟩ = some (.iface 216 (.agg #[.pointer (some ⟨11, 58, none⟩)]))) (ht0 : w.cell? ⟨q, 0, none⟩ = some old) (hf0 : w.frozen? ⟨q, 0, none⟩ = false) :
    Calls Tryz.prog 65 #[.iface 100 (.agg #[.iface T0 u]), .iface 112 (.pointer (some ⟨q, 0, none⟩))] w fun ev w' => ev = .returned (.bool true) ∧ w' = ((((w.alloc (.cells #[.pointer (some ⟨q, 0, none⟩)] 112)).alloc (.cells #[.pointer (some ⟨11, 112, none⟩), .pointer (some ⟨w.heap.size, 0, none⟩), .int .u64 150] 170)).alloc (.cells #[.pointer (some ⟨11, 112, none⟩), .pointer (some ⟨w.heap.size, 0, none⟩), .int .u64 150] 170)).alloc (.cells #[.iface T0 u] 100)).setCell ⟨q, 0, none⟩ (.iface T0 u) := by
  have h6 := @run_callFunc_extern Tryz.prog 106 _ (fun args => ReflectliteValue.unpack (args.getD 0 (.tuple #[]))) Tryz.func106 (by kernel_rfl) (by kernel_rfl) (by kernel_rfl) (by kernel_rfl)
  have h7 := @run_callFunc_extern Tryz.prog 107 _ (ReflectliteValue.methodAny (ReflectliteValue.valueError "reflectlite.Value.Type" 0) (fun t _ _ _ => ReflectliteType.toType t)) Tryz.func107 (by kernel_rfl) (by kernel_rfl) (by kernel_rfl) (by kernel_rfl)
  have h8 := @run_callFunc_extern Tryz.prog 108 _ (ReflectliteValue.method (ReflectliteValue.valueError "reflectlite.Value.IsNil" 0) ReflectliteValue.isNil) Tryz.func108 (by kernel_rfl) (by kernel_rfl) (by kernel_rfl) (by kernel_rfl)
  have h27 := @run_callFunc_extern Tryz.prog 266 _ (ReflectliteType.abiMethod fun t => do pure (.int .u8 (← Rtype.kind t))) Tryz.func266 (by kernel_rfl) (by kernel_rfl) (by kernel_rfl) (by kernel_rfl)
  have h37 := @run_callFunc_extern Tryz.prog 284 _ (ReflectliteType.method ReflectliteType.elem) Tryz.func284 (by kernel_rfl) (by kernel_rfl) (by kernel_rfl) (by kernel_rfl)
  have h38 := @run_callFunc_extern Tryz.prog 285 _ (ReflectliteType.relation "Implements" ReflectliteType.implements_) Tryz.func285 (by kernel_rfl) (by kernel_rfl) (by kernel_rfl) (by kernel_rfl)
  have h10 := @run_callFunc_extern Tryz.prog 150 _ ReflectliteType.typeOf Tryz.func150 (by kernel_rfl) (by kernel_rfl) (by kernel_rfl) (by kernel_rfl)
  have h35 := @run_callFunc_extern Tryz.prog 282 _ (ReflectliteType.relation "AssignableTo" ReflectliteType.assignableTo) Tryz.func282 (by kernel_rfl) (by kernel_rfl) (by kernel_rfl) (by kernel_rfl)
  have h11 := @run_callFunc_extern Tryz.prog 151 _ (ReflectliteValue.method (ReflectliteValue.valueError "reflectlite.Value.Elem" 0) ReflectliteValue.elem) Tryz.func151 (by kernel_rfl) (by kernel_rfl) (by kernel_rfl) (by kernel_rfl)
  have h12 := @run_callFunc_extern Tryz.prog 152 _ ReflectliteValue.set Tryz.func152 (by kernel_rfl) (by kernel_rfl) (by kernel_rfl) (by kernel_rfl)
  have mA := methodAssignableTo
  have f6 := valueOfPR
  have f7 := typePR
  have mK := methodKind
  have mE := methodElem
  have mI := methodImplements
  have k27 := kindPR
  have k25 := kindR
  have e27 := elemPR
  have i25 := implementsR
  have n8 := isNilPR ⟨w.heap.size, 0, none⟩ ⟨q, 0, none⟩ ((w.alloc (.cells #[.pointer (some ⟨q, 0, none⟩)] 112)).alloc (.cells #[.pointer (some ⟨11, 112, none⟩), .pointer (some ⟨w.heap.size, 0, none⟩), .int .u64 150] 170)) (by simp)
  have hlt : 1 < w.heap.size := by
    rcases Nat.lt_or_ge 1 w.heap.size with h | h
    · exact h
    · simp [World.cell?, Array.getElem?_eq_none h] at hg
  have hg2 : ((w.alloc (.cells #[.pointer (some ⟨q, 0, none⟩)] 112)).alloc (.cells #[.pointer (some ⟨11, 112, none⟩), .pointer (some ⟨w.heap.size, 0, none⟩), .int .u64 150] 170)).cell? ⟨1, 0, none⟩ = some (.iface 216 (.agg #[.pointer (some ⟨11, 58, none⟩)])) := by
    rw [World.cell?_alloc_lt _ _ ⟨1, 0, none⟩ (by simp; omega), World.cell?_alloc_lt _ _ ⟨1, 0, none⟩ hlt]; exact hg
  have tO := typeOfR
  have a25 := assignableR
  have v25 := valueOfR
  have htl : q < w.heap.size := by
    rcases Nat.lt_or_ge q w.heap.size with h | h
    · exact h
    · simp [World.cell?, Array.getElem?_eq_none h] at ht0
  have el := elemVR ⟨w.heap.size, 0, none⟩ ⟨q, 0, none⟩ (((w.alloc (.cells #[.pointer (some ⟨q, 0, none⟩)] 112)).alloc (.cells #[.pointer (some ⟨11, 112, none⟩), .pointer (some ⟨w.heap.size, 0, none⟩), .int .u64 150] 170)).alloc (.cells #[.pointer (some ⟨11, 112, none⟩), .pointer (some ⟨w.heap.size, 0, none⟩), .int .u64 150] 170)) (by rw [World.cell?_alloc_lt _ _ ⟨w.heap.size, 0, none⟩ (by simp; omega)]; simp)
  have st := setR q (w.heap.size + 1 + 1 + 1) T0 u old ((((w.alloc (.cells #[.pointer (some ⟨q, 0, none⟩)] 112)).alloc (.cells #[.pointer (some ⟨11, 112, none⟩), .pointer (some ⟨w.heap.size, 0, none⟩), .int .u64 150] 170)).alloc (.cells #[.pointer (some ⟨11, 112, none⟩), .pointer (some ⟨w.heap.size, 0, none⟩), .int .u64 150] 170)).alloc (.cells #[.iface T0 u] 100))
    (by rw [World.cell?_alloc_at _ _ _ _ (by simp)]; rfl)
    (by rw [World.cell?_alloc_lt _ _ ⟨q, 0, none⟩ (by simp; omega), World.cell?_alloc_lt _ _ ⟨q, 0, none⟩ (by simp; omega), World.cell?_alloc_lt _ _ ⟨q, 0, none⟩ (by simp; omega), World.cell?_alloc_lt _ _ ⟨q, 0, none⟩ htl]; exact ht0)
    (by rw [World.frozen?_alloc_old _ _ ⟨q, 0, none⟩ (by simp; omega), World.frozen?_alloc_old _ _ ⟨q, 0, none⟩ (by simp; omega), World.frozen?_alloc_old _ _ ⟨q, 0, none⟩ (by simp; omega), World.frozen?_alloc_old _ _ ⟨q, 0, none⟩ (Nat.ne_of_lt htl)]; exact hf0)
  go_enter Tryz.func65, Tryz.ntmps65
  go_wp2
  refine wp_loop_rounds 1 ?_
  rw [rounds_succ]
  go_wp2
  go_ret
  exact ⟨rfl, rfl⟩
theorem assignableNo (w : World) : (ReflectliteType.relation "AssignableTo" ReflectliteType.assignableTo #[.agg #[.pointer (some ⟨11, 98, none⟩)], .iface 216 (.agg #[.pointer (some ⟨11, 100, none⟩)])]).run Tryz.prog w = .ok (.bool false) w := by kernel_rfl
theorem noAs (v : Value) (xT : TypeId) (w : World) : (Instr.typeAssert (.iface 98 v) xT 221 true).run Tryz.prog w = .ok (.tuple #[.nilIface, .bool false]) w := run_typeAssert_lacksB Tryz.underlying221 (by kernel_rfl) (by kernel_rfl) v xT w
theorem noUnwrap (v : Value) (xT : TypeId) (w : World) : (Instr.typeAssert (.iface 98 v) xT 224 true).run Tryz.prog w = .ok (.tuple #[.nilIface, .bool false]) w := run_typeAssert_lacksB Tryz.underlying224 (by kernel_rfl) (by kernel_rfl) v xT w
theorem noUnwraps (v : Value) (xT : TypeId) (w : World) : (Instr.typeAssert (.iface 98 v) xT 226 true).run Tryz.prog w = .ok (.tuple #[.nilIface, .bool false]) w := run_typeAssert_lacksB Tryz.underlying226 (by kernel_rfl) (by kernel_rfl) v xT w
set_option maxRecDepth 20000 in
set_option maxHeartbeats 4000000 in
theorem as_miss (c : Int) (q : Nat) (w : World) (hg : w.cell? ⟨1, 0, none⟩ = some (.iface 216 (.agg #[.pointer (some ⟨11, 58, none⟩)]))) :
    Calls Tryz.prog 65 #[.iface 98 (.agg #[.int .i64 c]), .iface 112 (.pointer (some ⟨q, 0, none⟩))] w fun ev w' => ev = .returned (.bool false) ∧ w' = (((w.alloc (.cells #[.pointer (some ⟨q, 0, none⟩)] 112)).alloc (.cells #[.pointer (some ⟨11, 112, none⟩), .pointer (some ⟨w.heap.size, 0, none⟩), .int .u64 150] 170)).alloc (.cells #[.pointer (some ⟨11, 112, none⟩), .pointer (some ⟨w.heap.size, 0, none⟩), .int .u64 150] 170)) := by
  have h6 := @run_callFunc_extern Tryz.prog 106 _ (fun args => ReflectliteValue.unpack (args.getD 0 (.tuple #[]))) Tryz.func106 (by kernel_rfl) (by kernel_rfl) (by kernel_rfl) (by kernel_rfl)
  have h7 := @run_callFunc_extern Tryz.prog 107 _ (ReflectliteValue.methodAny (ReflectliteValue.valueError "reflectlite.Value.Type" 0) (fun t _ _ _ => ReflectliteType.toType t)) Tryz.func107 (by kernel_rfl) (by kernel_rfl) (by kernel_rfl) (by kernel_rfl)
  have h8 := @run_callFunc_extern Tryz.prog 108 _ (ReflectliteValue.method (ReflectliteValue.valueError "reflectlite.Value.IsNil" 0) ReflectliteValue.isNil) Tryz.func108 (by kernel_rfl) (by kernel_rfl) (by kernel_rfl) (by kernel_rfl)
  have h27 := @run_callFunc_extern Tryz.prog 266 _ (ReflectliteType.abiMethod fun t => do pure (.int .u8 (← Rtype.kind t))) Tryz.func266 (by kernel_rfl) (by kernel_rfl) (by kernel_rfl) (by kernel_rfl)
  have h37 := @run_callFunc_extern Tryz.prog 284 _ (ReflectliteType.method ReflectliteType.elem) Tryz.func284 (by kernel_rfl) (by kernel_rfl) (by kernel_rfl) (by kernel_rfl)
  have h38 := @run_callFunc_extern Tryz.prog 285 _ (ReflectliteType.relation "Implements" ReflectliteType.implements_) Tryz.func285 (by kernel_rfl) (by kernel_rfl) (by kernel_rfl) (by kernel_rfl)
  have h10 := @run_callFunc_extern Tryz.prog 150 _ ReflectliteType.typeOf Tryz.func150 (by kernel_rfl) (by kernel_rfl) (by kernel_rfl) (by kernel_rfl)
  have h35 := @run_callFunc_extern Tryz.prog 282 _ (ReflectliteType.relation "AssignableTo" ReflectliteType.assignableTo) Tryz.func282 (by kernel_rfl) (by kernel_rfl) (by kernel_rfl) (by kernel_rfl)
  have mA := methodAssignableTo
  have f6 := valueOfPR
  have f7 := typePR
  have mK := methodKind
  have mE := methodElem
  have mI := methodImplements
  have k27 := kindPR
  have k25 := kindR
  have e27 := elemPR
  have i25 := implementsR
  have n8 := isNilPR ⟨w.heap.size, 0, none⟩ ⟨q, 0, none⟩ ((w.alloc (.cells #[.pointer (some ⟨q, 0, none⟩)] 112)).alloc (.cells #[.pointer (some ⟨11, 112, none⟩), .pointer (some ⟨w.heap.size, 0, none⟩), .int .u64 150] 170)) (by simp)
  have hlt : 1 < w.heap.size := by
    rcases Nat.lt_or_ge 1 w.heap.size with h | h
    · exact h
    · simp [World.cell?, Array.getElem?_eq_none h] at hg
  have hg2 : ((w.alloc (.cells #[.pointer (some ⟨q, 0, none⟩)] 112)).alloc (.cells #[.pointer (some ⟨11, 112, none⟩), .pointer (some ⟨w.heap.size, 0, none⟩), .int .u64 150] 170)).cell? ⟨1, 0, none⟩ = some (.iface 216 (.agg #[.pointer (some ⟨11, 58, none⟩)])) := by
    rw [World.cell?_alloc_lt _ _ ⟨1, 0, none⟩ (by simp; omega), World.cell?_alloc_lt _ _ ⟨1, 0, none⟩ hlt]; exact hg
  have tO := typeOfC
  have a25 := assignableNo
  have y1 := noAs
  have y2 := noUnwrap
  have y3 := noUnwraps
  go_enter Tryz.func65, Tryz.ntmps65
  go_wp2
  refine wp_loop_rounds 1 ?_
  rw [rounds_succ]
  go_wp2
  go_ret
  exact ⟨rfl, rfl⟩
end Go.Proofs.YtgidcncmicmggamGreatDoor
/- The contract of the program's codeOf. No statement is proved here. -/
namespace Go.Proofs.YtgidcncmicmggamGreatDoor
open Go.RowKit

/-- The variable that errors.As reads. -/
def ErrG (w : World) : Prop := w.cell? ⟨1, 0, none⟩ = some (.iface 216 (.agg #[.pointer (some ⟨11, 58, none⟩)]))
theorem ErrG.lt {w : World} (h : ErrG w) : 1 < w.heap.size := by
  rcases Nat.lt_or_ge 1 w.heap.size with h' | h'
  · exact h'
  · unfold ErrG at h
    simp [World.cell?, Array.getElem?_eq_none h'] at h
theorem ErrG.below {w w' : World} (h : ErrG w) (hb : Below w.heap.size w w') : ErrG w' := (hb.cell (p := ⟨1, 0, none⟩) h.lt).trans h
theorem allocB (w : World) (o : Obj) : Below w.heap.size w (w.alloc o) := (Below.refl _ _).alloc (Nat.le_refl _) _
theorem allocB2 {B : Nat} {w w' : World} (h : Below B w w') (hB : B ≤ w'.heap.size) (o : Obj) : Below B w (w'.alloc o) := h.alloc hB o

set_option maxHeartbeats 1000000 in
theorem codeOf_nil (w : World) : Calls Tryz.prog 31 #[.nilIface] w fun e w' => e = .returned (.int .i64 0) ∧ Below w.heap.size w w' := by
  have hA := fun t w => as_nil t w
  have HB : Hid (Below w.heap.size w ((w.alloc (.cells #[.nilIface] 100)).alloc (.cells #[.int .i64 0] 98))) := allocB2 (allocB w _) (by simp) _
  go_enter Tryz.func31, Tryz.ntmps31
  go_wp2_with (go_at_call 65; refine (hA _ _).mono ?_; rintro e w' ⟨rfl, rfl⟩)
  go_ret
  exact ⟨rfl, HB.out⟩

set_option maxRecDepth 20000 in
set_option maxHeartbeats 2000000 in
theorem codeOf_code (c : Int) (w : World) (hg : ErrG w) : Calls Tryz.prog 31 #[.iface 98 (.agg #[.int .i64 c])] w fun e w' => e = .returned (.int .i64 c) ∧ Below w.heap.size w w' := by
  obtain ⟨W1, hW1⟩ : ∃ W, w.alloc (.cells #[.nilIface] 100) = W := ⟨_, rfl⟩
  have b1 : Below w.heap.size w W1 := by rw [← hW1]; exact allocB _ _
  have g1 : ErrG W1 := hg.below b1
  have hM := fun q => as_miss c q W1 g1
  go_enter Tryz.func31, Tryz.ntmps31
  go_wp2_with fail
  refine (hM _).mono ?_; rintro e w2 ⟨rfl, e2⟩
  have b2 : Below W1.heap.size W1 w2 := by rw [e2]; exact allocB2 (allocB2 (allocB W1 _) (by simp) _) (by simp; omega) _
  clear hM e2 hW1
  obtain ⟨W3, hW3⟩ : ∃ W, w2.alloc (.cells #[.int .i64 0] 98) = W := ⟨_, rfl⟩
  have b3 : Below w2.heap.size w2 W3 := by rw [← hW3]; exact allocB _ _
  have B3 : Below w.heap.size w W3 := (b1.trans (b2.mono b1.size)).trans (b3.mono (Nat.le_trans b1.size b2.size))
  have g3 : ErrG W3 := (g1.below b2).below b3
  have z3 : W3.heap.size = w2.heap.size + 1 := by rw [← hW3]; simp
  have s2 := Nat.le_trans b1.size b2.size
  have t3 : W3.cell? ⟨w2.heap.size, 0, none⟩ = some (.int .i64 0) := by rw [← hW3]; simp
  have f3 : W3.frozen? ⟨w2.heap.size, 0, none⟩ = false := by rw [← hW3]; simp
  have hH := as_hitC c w2.heap.size _ W3 g3 t3 f3
  have Z3 : Hid (W3.heap.size = w2.heap.size + 1) := z3
  clear b1 b2 b3 g1 g3 z3
  go_wp2_with fail
  refine hH.mono ?_; rintro e w4 ⟨rfl, e4⟩
  have b4 : Below w2.heap.size W3 w4 := by
    have := Z3.out
    rw [e4]
    exact (allocB2 (allocB2 (allocB2 ((allocB W3 _).mono (show w2.heap.size ≤ W3.heap.size by omega)) (by simp; omega) _) (by simp; omega) _) (by simp; omega) _).setCell (p := ⟨w2.heap.size, 0, none⟩) (Nat.le_refl _) _
  have d4 : w4.cell? ⟨w2.heap.size, 0, none⟩ = some (.int .i64 c) := by
    have := Z3.out
    rw [e4]
    refine World.cell?_setCell_same _ _ _ (u := .int .i64 0) ?_
    rw [World.cell?_alloc_lt _ _ _ (by simp; omega), World.cell?_alloc_lt _ _ _ (by simp; omega), World.cell?_alloc_lt _ _ _ (by simp; omega), World.cell?_alloc_lt _ _ _ (by show w2.heap.size < W3.heap.size; omega)]
    exact t3
  have HB : Hid (Below w.heap.size w w4) := B3.trans (b4.mono s2)
  clear hH e4 b4 B3 hW3
  go_wp2
  go_ret
  exact ⟨rfl, HB.out⟩

set_option maxRecDepth 20000 in
set_option maxHeartbeats 2000000 in
theorem codeOf_read (T0 : TypeId) (u : Value) (w : World) (hg : ErrG w) : Calls Tryz.prog 31 #[.iface 100 (.agg #[.iface T0 u])] w fun e w' => e = .returned (.int .i64 5) ∧ Below w.heap.size w w' := by
  obtain ⟨W1, hW1⟩ : ∃ W, w.alloc (.cells #[.nilIface] 100) = W := ⟨_, rfl⟩
  have b1 : Below w.heap.size w W1 := by rw [← hW1]; exact allocB _ _
  have g1 : ErrG W1 := hg.below b1
  have z1 : W1.heap.size = w.heap.size + 1 := by rw [← hW1]; simp
  have t1 : W1.cell? ⟨w.heap.size, 0, none⟩ = some .nilIface := by rw [← hW1]; simp
  have f1 : W1.frozen? ⟨w.heap.size, 0, none⟩ = false := by rw [← hW1]; simp
  have hH := as_hitR T0 u w.heap.size _ W1 g1 t1 f1
  have Z1 : Hid (W1.heap.size = w.heap.size + 1) := z1
  clear z1
  go_enter Tryz.func31, Tryz.ntmps31
  go_wp2_with fail
  refine hH.mono ?_; rintro e w4 ⟨rfl, e4⟩
  have HB : Hid (Below w.heap.size w w4) := by
    have := Z1.out
    show Below _ _ _
    rw [e4]
    exact b1.trans ((allocB2 (allocB2 (allocB2 ((allocB W1 _).mono (show w.heap.size ≤ W1.heap.size by omega)) (by simp; omega) _) (by simp; omega) _) (by simp; omega) _).setCell (p := ⟨w.heap.size, 0, none⟩) (Nat.le_refl _) _)
  clear hH e4 hW1
  go_wp2
  go_ret
  exact ⟨rfl, HB.out⟩
end Go.Proofs.YtgidcncmicmggamGreatDoor
/- Contracts of the library that are laid at this program: Tryz.strconv_FormatInt_10. No statement is proved here. -/
namespace Go.Proofs
open Go.Shelf
def Tryz.laysM173_ren : Go.Shelf.Ren := ⟨fun | 173 => 193 | 246 => 224 | 283 => 237 | 284 => 238 | 285 => 239 | 286 => 240 | 129 => 171 | 317 => 245 | 318 => 246 | 319 => 247 | 320 => 248 | 337 => 250 | 338 => 251 | n => n, fun | 2 => 2 | 3 => 3 | 9 => 9 | 4 => 4 | 171 => 294 | 0 => 0 | 53 => 203 | 37 => 145 | 5 => 5 | 173 => 296 | 212 => 301 | 51 => 230 | 20 => 20 | 213 => 302 | 46 => 195 | 232 => 309 | 233 => 310 | n => n, fun | 17 => 6 | 18 => 9 | 19 => 10 | n => n⟩
theorem Tryz.laysM173 : Go.Proofs.LaysM.n173 Tryz.prog Tryz.laysM173_ren := {
  mixed := by kernel_rfl
  f129 := Tryz.func171.trans (congrArg some (by kernel_rfl))
  f173 := Tryz.func193.trans (congrArg some (by kernel_rfl))
  f246 := Tryz.func224.trans (congrArg some (by kernel_rfl))
  f283 := Tryz.func237.trans (congrArg some (by kernel_rfl))
  f284 := Tryz.func238.trans (congrArg some (by kernel_rfl))
  f285 := Tryz.func239.trans (congrArg some (by kernel_rfl))
  f286 := Tryz.func240.trans (congrArg some (by kernel_rfl))
  f317 := Tryz.func245.trans (congrArg some (by kernel_rfl))
  f318 := Tryz.func246.trans (congrArg some (by kernel_rfl))
  f319 := Tryz.func247.trans (congrArg some (by kernel_rfl))
  f320 := Tryz.func248.trans (congrArg some (by kernel_rfl))
  f337 := Tryz.func250.trans (congrArg some (by kernel_rfl))
  f338 := Tryz.func251.trans (congrArg some (by kernel_rfl))
  t0 := Tryz.underlying0
  a0 := Tryz.isAgg0
  z0 := Tryz.sizeOf0
  v0 := Tryz.zeroValue0
  t2 := Tryz.underlying2
  a2 := Tryz.isAgg2
  z2 := Tryz.sizeOf2
  v2 := Tryz.zeroValue2
  t3 := Tryz.underlying3
  a3 := Tryz.isAgg3
  z3 := Tryz.sizeOf3
  v3 := Tryz.zeroValue3
  t4 := Tryz.underlying4
  a4 := Tryz.isAgg4
  z4 := Tryz.sizeOf4
  v4 := Tryz.zeroValue4
  t5 := Tryz.underlying5
  a5 := Tryz.isAgg5
  z5 := Tryz.sizeOf5
  v5 := Tryz.zeroValue5
  t9 := Tryz.underlying9
  a9 := Tryz.isAgg9
  z9 := Tryz.sizeOf9
  v9 := Tryz.zeroValue9
  t20 := Tryz.underlying20
  a20 := Tryz.isAgg20
  z20 := Tryz.sizeOf20
  v20 := Tryz.zeroValue20
  t37 := Tryz.underlying145
  a37 := Tryz.isAgg145
  z37 := Tryz.sizeOf145
  v37 := Tryz.zeroValue145
  t46 := Tryz.underlying195
  a46 := Tryz.isAgg195
  z46 := Tryz.sizeOf195
  v46 := Tryz.zeroValue195
  t51 := Tryz.underlying230
  a51 := Tryz.isAgg230
  z51 := Tryz.sizeOf230
  v51 := Tryz.zeroValue230
  t53 := Tryz.underlying203
  a53 := Tryz.isAgg203
  z53 := Tryz.sizeOf203
  v53 := Tryz.zeroValue203
  t171 := Tryz.underlying294
  a171 := Tryz.isAgg294
  z171 := Tryz.sizeOf294
  v171 := Tryz.zeroValue294
  t173 := Tryz.underlying296
  a173 := Tryz.isAgg296
  z173 := Tryz.sizeOf296
  v173 := Tryz.zeroValue296
  t212 := Tryz.underlying301
  a212 := Tryz.isAgg301
  z212 := Tryz.sizeOf301
  v212 := Tryz.zeroValue301
  t213 := Tryz.underlying302
  a213 := Tryz.isAgg302
  z213 := Tryz.sizeOf302
  t232 := Tryz.underlying309
  a232 := Tryz.isAgg309
  z232 := Tryz.sizeOf309
  v232 := Tryz.zeroValue309
  t233 := Tryz.underlying310
  a233 := Tryz.isAgg310
  z233 := Tryz.sizeOf310
  v233 := Tryz.zeroValue310
  g17 := by kernel_rfl
  g18 := by kernel_rfl
  g19 := by kernel_rfl
  i0 := by kernel_rfl
  i2 := by kernel_rfl
  i3 := by kernel_rfl
  i4 := by kernel_rfl
  i5 := by kernel_rfl
  i9 := by kernel_rfl
  i20 := by kernel_rfl
  i37 := by kernel_rfl
  i46 := by kernel_rfl
  i51 := by kernel_rfl
  i53 := by kernel_rfl
  i171 := by kernel_rfl
  i173 := by kernel_rfl
  i212 := by kernel_rfl
  i232 := by kernel_rfl
  i233 := by kernel_rfl
  m17 := by kernel_rfl
  m18 := by kernel_rfl
  m19 := by kernel_rfl }
open Go.RowKit Go.Sort Go.Lib in
theorem Tryz.strconv_FormatInt_10 (n : Int) (h0 : -9223372036854775808 ≤ n) (h1 : n ≤ 9223372036854775807) (w : World) (htab : Lib.TabIs Tryz.prog w "internal/strconv.uint64pow10" .u64 Lib.pow10Tab) :
    Calls Tryz.prog 193 #[.int .i64 n, .int .i64 10] w fun e w' => e = .returned (.string ⟨(Lib.itoa n).toArray⟩) ∧ ∃ k os, w' = grow (w.drewN k) os := Any.strconv_FormatInt_10 Tryz.laysM173 n h0 h1 w htab
end Go.Proofs
/- The contract of strconv.FormatInt at a commit's time, and its table. No statement is proved here. -/
namespace Go.Proofs.YtgidcncmicmggamGreatDoor
open Go.RowKit Go.Sort

/-- The table of powers that strconv reads. -/
def TaG (w : World) : Prop := Lib.TabIs Tryz.prog w "internal/strconv.uint64pow10" .u64 Lib.pow10Tab
theorem gTa : Tryz.prog.globalNamed "internal/strconv.uint64pow10" = some 6 := by kernel_rfl
theorem TaG.below {B : Nat} {w w' : World} (h : TaG w) (hb : Below B w w') (hB : 6 < B) : TaG w' := by
  unfold TaG Lib.TabIs World.var? at *
  rw [gTa] at h ⊢
  simp only [Option.bind_some] at h ⊢
  rw [hb.block _ hB]
  exact h
/-- A number's text. -/
def itB (n : Int) : ByteArray := ⟨(Lib.itoa n).toArray⟩
theorem belGrow (w : World) (q : Nat) (os : Array Obj) : Below w.heap.size w (grow (w.drewN q) os) :=
  ⟨rfl, rfl, rfl, by show w.heap.size ≤ (w.heap ++ os).size; simp, fun k hk => by show (w.heap ++ os)[k]? = w.heap[k]?; simp [Array.getElem?_append, hk]⟩
theorem formatInt (n : Int) (h0 : 0 ≤ n) (h1 : n ≤ 1000000000) (w : World) (ht : TaG w) :
    Calls Tryz.prog 193 #[.int .i64 n, .int .i64 10] w fun e w' => e = .returned (.string (itB n)) ∧ Below w.heap.size w w' := by
  refine (Tryz.strconv_FormatInt_10 n (by omega) (by omega) w ht).mono ?_
  rintro e w' ⟨rfl, k, os, rfl⟩
  exact ⟨rfl, belGrow w k os⟩
theorem dec_len : ∀ (d n : Nat), n < 10 ^ (d + 1) → (Lib.decDigits n).length ≤ d + 1
  | 0, n, h => by rw [Lib.decDigits, dif_pos (by omega)]; simp
  | d + 1, n, h => by
    by_cases h9 : n < 10
    · rw [Lib.decDigits, dif_pos h9]; simp
    · rw [Lib.decDigits, dif_neg h9]
      have := dec_len d (n / 10) (by rw [Nat.pow_succ] at h; omega)
      simp
      omega
theorem it_size {n : Int} (h0 : 0 ≤ n) (h1 : n ≤ 1000000000) : (itB n).size ≤ 10 := by
  show (Lib.itoa n).toArray.size ≤ 10
  rw [Lib.itoa, if_neg (by omega)]
  have := dec_len 9 n.toNat (by omega)
  simpa using this
end Go.Proofs.YtgidcncmicmggamGreatDoor
/- szCommit, toCommit, eqCommit of the law. No statement is proved here. -/
namespace Go.Proofs.YtgidcncmicmggamGreatDoor
open Go.ChangeShapes Go.WideShapes Go.ChangeAt Go.RowKit

theorem cm_beq (s : ByteArray) : (s.toList != s.toList) = false := by simp
set_option maxRecDepth 20000 in
set_option maxHeartbeats 1000000 in
theorem eqCommit (t no : ByteArray) (tm : Int) (a1 a2 : Option Addr) (k1 k2 : Nat) (ss : List ByteArray) (w : World) (h1 : SS w a1 ss) (h2 : SS w a2 ss) (hn : ss.length ≤ 1048576) :
    Calls Tryz.prog 32 #[.agg #[.string t, .slice a1 ss.length k1, .int .i64 tm, .string no], .agg #[.string t, .slice a2 ss.length k2, .int .i64 tm, .string no]] w fun e w' => e = .returned (.bool true) ∧ Below w.heap.size w w' := by
  go_enter Tryz.func32, Tryz.ntmps32
  have hN : ∀ o1 o2, Below w.heap.size w ((w.alloc o1).alloc o2) := fun o1 o2 => ((Below.refl _ _).alloc (Nat.le_refl _) _).alloc (by simp) _
  have q0 : (t.toList == t.toList) = true := beq_bytes_true rfl
  have q1 : (no.toList == no.toList) = true := beq_bytes_true rfl
  have q2 : (tm != tm) = false := by simp
  go_wp2_with fail
  refine (eqStringS _ _ _ _ _ _ _ (h1.below (hN _ _)) (h2.below (hN _ _)) hn hn).mono ?_; rintro e w1 ⟨rfl, n1, rfl⟩
  rw [eqB_self]
  go_wp2_with fail
  go_ret
  exact ⟨rfl, below_drewN' (hN _ _) n1⟩

end Go.Proofs.YtgidcncmicmggamGreatDoor
/- The contracts of the laws' helpers over CommitResult. No statement is proved here. -/
namespace Go.Proofs.YtgidcncmicmggamGreatDoor.Dc
open Go.ChangeShapes Go.WideShapes Go.ChangeAt Go.RowKit

set_option maxRecDepth 20000 in
set_option maxHeartbeats 1000000 in
theorem eqCommitResult (r tm : Int) (t no : ByteArray) (a1 a2 : Option Addr) (k1 k2 : Nat) (ss : List ByteArray) (w : World) (h1 : SS w a1 ss) (h2 : SS w a2 ss) (hn : ss.length ≤ 1048576) :
    Calls Tryz.prog 8 #[.agg #[.int .i64 r, .string t, .slice a1 ss.length k1, .int .i64 tm, .string no], .agg #[.int .i64 r, .string t, .slice a2 ss.length k2, .int .i64 tm, .string no]] w fun e w' => e = .returned (.bool true) ∧ Below w.heap.size w w' := by
  have hE := fun W h h' => eqCommit t no tm a1 a2 k1 k2 ss W h h' hn
  go_enter Tryz.func8, Tryz.ntmps8
  go_wp2_with fail
  have hB : Below w.heap.size w ((w.alloc (.cells #[.int .i64 r, .string t, .slice a1 ss.length k1, .int .i64 tm, .string no] 26)).alloc (.cells #[.int .i64 r, .string t, .slice a2 ss.length k2, .int .i64 tm, .string no] 26)) := ((Below.refl _ _).alloc (Nat.le_refl _) _).alloc (by simp) _
  refine (hE _ (h1.below hB) (h2.below hB)).mono ?_; rintro e w1 ⟨rfl, b1⟩
  have HB : Hid (Below w.heap.size w w1) := hB.trans (b1.mono (by simp; omega))
  clear b1 hB hE
  go_wp2_with fail
  go_ret
  exact ⟨rfl, HB.out⟩
set_option maxRecDepth 20000 in
set_option maxHeartbeats 1000000 in
theorem markCommitResult (lo hi : Nat) (r tm : Int) (t no : ByteArray) (a : Option Addr) (n cap m : Nat) (xs : List Value) (w : World) (h1 : 1 ≤ m) (h2 : m + n ≤ 4194304)
    (ho : w.ownsRow lo 9 1 (.slice a n cap) n xs) (b1 : ∀ j, (Value.slice a n cap).ownBlock = some j → j < hi) :
    Calls Tryz.prog 9 #[.agg #[.int .i64 r, .string t, .slice a n cap, .int .i64 tm, .string no], .int .i64 m] w fun e w' => e = .returned (.int .i64 ((m + n : Nat) : Int)) ∧
      w'.ownsRow lo 9 1 (.slice a n cap) n ((marks m n).map Value.string) ∧ Fr lo hi w w' := by
  have hM : ∀ W, W.ownsRow lo 9 1 (.slice a n cap) n xs → Calls Tryz.prog 33 #[.agg #[.string t, .slice a n cap, .int .i64 tm, .string no], .int .i64 m] W fun e w' => e = .returned (.int .i64 ((m + n : Nat) : Int)) ∧
      w'.ownsRow lo 9 1 (.slice a n cap) n ((marks m n).map Value.string) ∧ Fr lo hi W w' := fun W hW => by
    go_enter Tryz.func33, Tryz.ntmps33
    go_wp2_with fail
    refine (markStringS lo _ _ _ _ _ _ h1 h2 (hW.alloc _)).mono ?_; rintro e w1 ⟨rfl, ho1, hg1⟩
    have hF1 : Fr lo hi W w1 := (Fr.ofAlloc _ _).trans (Fr.ofGrown hg1 (fun j hj => ⟨(hW.lt j hj).1, b1 j hj⟩))
    clear hg1
    go_wp2_with fail
    go_ret
    exact ⟨rfl, ho1, hF1⟩
  go_enter Tryz.func9, Tryz.ntmps9
  go_wp2_with fail
  refine (hM _ (ho.alloc _)).mono ?_; rintro e w1 ⟨rfl, ho1, hF⟩
  have hF1 : Fr lo hi w w1 := (Fr.ofAlloc _ _).trans hF
  clear hF hM
  go_wp2_with fail
  go_ret
  exact ⟨rfl, ho1, hF1⟩
theorem ssMarks {w : World} {base n cap m : Nat} {a : Option Addr} (h : w.ownsRow base 9 1 (.slice a n cap) n ((marks m n).map Value.string)) (hm : m + n ≤ 4194304) : SS w a (marks m n) := by
  have e := marks_length m n
  have h2 : w.ownsRow base 9 1 (.slice a (marks m n).length cap) (marks m n).length ((marks m n).map Value.string) := by rw [e]; exact h
  exact ownSS h2 (marks_small m n hm)
set_option maxRecDepth 20000 in
set_option maxHeartbeats 1000000 in
theorem heldCommitResult (r tm : Int) (t no : ByteArray) (a : Option Addr) (n cap m : Nat) (w : World) (h1 : 1 ≤ m) (h2 : m + n ≤ 4194304) (hs : SS w a (marks m n)) :
    Calls Tryz.prog 10 #[.agg #[.int .i64 r, .string t, .slice a n cap, .int .i64 tm, .string no], .int .i64 m] w fun e w' => e = .returned (.int .i64 ((m + n : Nat) : Int)) ∧ Below w.heap.size w w' := by
  have hB : ∀ (w : World) o, Below w.heap.size w (w.alloc o) := fun w o => (Below.refl _ _).alloc (Nat.le_refl _) _
  have hpos : ¬ ((m + n : Nat) : Int) < 0 := by omega
  have hH : ∀ W, SS W a (marks m n) → Calls Tryz.prog 34 #[.agg #[.string t, .slice a n cap, .int .i64 tm, .string no], .int .i64 m] W fun e w' => e = .returned (.int .i64 ((m + n : Nat) : Int)) ∧ Below W.heap.size W w' := fun W hW => by
    go_enter Tryz.func34, Tryz.ntmps34
    go_wp2_with fail
    refine (heldStringS _ _ _ _ _ h1 h2 (hW.below (hB _ _))).mono ?_; rintro e w1 ⟨rfl, hb1⟩
    go_wp2_with fail
    go_ret
    exact ⟨rfl, (hB _ _).trans (hb1.mono (by simp))⟩
  go_enter Tryz.func10, Tryz.ntmps10
  go_wp2_with fail
  refine (hH _ (hs.below (hB _ _))).mono ?_; rintro e w1 ⟨rfl, hb1⟩
  go_wp2_with fail
  go_ret
  exact ⟨rfl, (hB _ _).trans (hb1.mono (by simp))⟩
end Go.Proofs.YtgidcncmicmggamGreatDoor.Dc
/- Plain mathematics of ids. No statement is proved here. -/
namespace Go.Proofs.YtgidcncmicmggamGreatDoor
open Go.RowKit

def isHex (c : UInt8) : Bool := decide (48 ≤ (c.toNat : Int) ∧ (c.toNat : Int) ≤ 57 ∨ 97 ≤ (c.toNat : Int) ∧ (c.toNat : Int) ≤ 102)
def isLet (c : UInt8) : Bool := decide ((c.toNat : Int) = 98 ∨ (c.toNat : Int) = 116 ∨ (c.toNat : Int) = 99)
/-- An id: a letter and four digits. -/
def idB (l : List UInt8) : Bool := match l with
  | [a, b, c, d, e] => isLet a && (isHex b && (isHex c && (isHex d && isHex e)))
  | _ => false
theorem idB_len {l : List UInt8} (h : ¬ l.length = 5) : idB l = false := by
  match l with
  | [] | [_] | [_, _] | [_, _, _] | [_, _, _, _] => rfl
  | [_, _, _, _, _] => exact absurd rfl h
  | _ :: _ :: _ :: _ :: _ :: _ :: _ => rfl
theorem five {l : List UInt8} (h : l.length = 5) : ∃ a b c d e, l = [a, b, c, d, e] := by
  match l with
  | [a, b, c, d, e] => exact ⟨a, b, c, d, e, rfl⟩
theorem idB_let {l : List UInt8} (h : l.length = 5) (hx : isLet (l[0]'(by omega)) = false) : idB l = false := by
  obtain ⟨a, b, c, d, e, rfl⟩ := five h
  have : isLet a = false := hx
  simp [idB, this]
theorem idB_hex {l : List UInt8} (h : l.length = 5) (k : Nat) (h1 : 1 ≤ k) (h5 : k < 5) (hx : isHex (l[k]'(by omega)) = false) : idB l = false := by
  obtain ⟨a, b, c, d, e, rfl⟩ := five h
  have hk : k = 1 ∨ k = 2 ∨ k = 3 ∨ k = 4 := by omega
  rcases hk with rfl | rfl | rfl | rfl
  · have : isHex b = false := hx
    simp [idB, this]
  · have : isHex c = false := hx
    simp [idB, this]
  · have : isHex d = false := hx
    simp [idB, this]
  · have : isHex e = false := hx
    simp [idB, this]
/-- The letter and the digits below a place are right. -/
def idUp (l : List UInt8) (k : Nat) : Prop := isLet (l.getD 0 0) = true ∧ ∀ j, 1 ≤ j → j < k → isHex (l.getD j 0) = true
theorem idUp_full {l : List UInt8} (h : l.length = 5) (hu : idUp l 5) : idB l = true := by
  obtain ⟨a, b, c, d, e, rfl⟩ := five h
  obtain ⟨h0, hj⟩ := hu
  have h0 : isLet a = true := h0
  have h1 : isHex b = true := hj 1 (by omega) (by omega)
  have h2 : isHex c = true := hj 2 (by omega) (by omega)
  have h3 : isHex d = true := hj 3 (by omega) (by omega)
  have h4 : isHex e = true := hj 4 (by omega) (by omega)
  simp [idB, h0, h1, h2, h3, h4]
theorem idUp_next {l : List UInt8} {k : Nat} (h : idUp l k) (hk : isHex (l.getD k 0) = true) : idUp l (k + 1) := ⟨h.1, fun j h1 h2 => by
  by_cases e : j = k
  · rw [e]; exact hk
  · exact h.2 j h1 (by omega)⟩
theorem all_bytes {P : UInt8 → Prop} (h : ∀ n : Fin 256, P (UInt8.ofNat n.val)) (c : UInt8) : P c := by
  have := h ⟨c.toNat, c.toNat_lt⟩
  simpa using this
theorem mem_let (c : UInt8) : (c ∈ ([98, 116, 99] : List UInt8)) ↔ isLet c = true :=
  all_bytes (P := fun c => (c ∈ ([98, 116, 99] : List UInt8)) ↔ isLet c = true) (by decide +kernel) c
theorem mem_hex (c : UInt8) : (c ∈ ([48, 49, 50, 51, 52, 53, 54, 55, 56, 57, 97, 98, 99, 100, 101, 102] : List UInt8)) ↔ isHex c = true :=
  all_bytes (P := fun c => (c ∈ ([48, 49, 50, 51, 52, 53, 54, 55, 56, 57, 97, 98, 99, 100, 101, 102] : List UInt8)) ↔ isHex c = true) (by decide +kernel) c
theorem toByte (c : UInt8) : ((c.toNat : Int).toNat.toUInt8) = c := by simp
end Go.Proofs.YtgidcncmicmggamGreatDoor
/- The contracts of NameFault (the program's and the specification's). No statement is proved here. -/
namespace Go.Proofs.YtgidcncmicmggamGreatDoor
open Go.ChangeShapes Go.WideShapes Go.ChangeAt Go.RowKit

/-- A byte that a name may have. -/
def nmI (n : Int) : Bool := decide (97 ≤ n ∧ n ≤ 122 ∨ 48 ≤ n ∧ n ≤ 57 ∨ n = 46 ∨ n = 95 ∨ n = 45)
def nmB (c : UInt8) : Bool := nmI (c.toNat : Int)
theorem nm_beqT {a b : Int} (h : a = b) : (a == b) = true := by simp [h]
theorem nm_beqF {a b : Int} (h : ¬ a = b) : (a == b) = false := by simp [h]
set_option maxHeartbeats 1000000 in
theorem l6NameByte (n : Int) (w : World) :
    Calls Tryz.prog 154 #[.int .u8 n] w fun e w' => e = .returned (.bool (nmI n)) ∧ w' = w := by
  have hD : n ≤ 44 ∨ n = 45 ∨ n = 46 ∨ n = 47 ∨ (48 ≤ n ∧ n ≤ 57) ∨ (58 ≤ n ∧ n ≤ 94) ∨ n = 95 ∨ n = 96 ∨ (97 ≤ n ∧ n ≤ 122) ∨ 123 ≤ n := by omega
  obtain ⟨R, hR⟩ : ∃ R, nmI n = R := ⟨_, rfl⟩
  rcases hD with h | h | h | h | h | h | h | h | h | h
  · have HR : Hid (false = nmI n) := by
      show _ = _; symm; unfold nmI; apply decide_eq_false; omega
    have a1 : n < 97 := by omega
    have a3 : ¬ 97 ≤ n := by omega
    have b1 : n < 48 := by omega
    have b3 : ¬ 48 ≤ n := by omega
    have c1 : ¬ 122 < n := by omega
    have c3 : n ≤ 122 := by omega
    have d1 : ¬ 57 < n := by omega
    have d3 : n ≤ 57 := by omega
    have e1 : (n == 46) = false := nm_beqF (by omega)
    have f1 : (n == 95) = false := nm_beqF (by omega)
    have g1 : (n == 45) = false := nm_beqF (by omega)
    clear h hR
    go_enter Tryz.func154, Tryz.ntmps154
    go_wp2
    go_ret
    exact ⟨ret_bool HR.out, rfl⟩
  · have HR : Hid (true = nmI n) := by
      show _ = _; symm; unfold nmI; apply decide_eq_true; omega
    have a1 : n < 97 := by omega
    have a3 : ¬ 97 ≤ n := by omega
    have b1 : n < 48 := by omega
    have b3 : ¬ 48 ≤ n := by omega
    have c1 : ¬ 122 < n := by omega
    have c3 : n ≤ 122 := by omega
    have d1 : ¬ 57 < n := by omega
    have d3 : n ≤ 57 := by omega
    have e1 : (n == 46) = false := nm_beqF (by omega)
    have f1 : (n == 95) = false := nm_beqF (by omega)
    have g1 : (n == 45) = true := nm_beqT (by omega)
    clear h hR
    go_enter Tryz.func154, Tryz.ntmps154
    go_wp2
    go_ret
    exact ⟨ret_bool HR.out, rfl⟩
  · have HR : Hid (true = nmI n) := by
      show _ = _; symm; unfold nmI; apply decide_eq_true; omega
    have a1 : n < 97 := by omega
    have a3 : ¬ 97 ≤ n := by omega
    have b1 : n < 48 := by omega
    have b3 : ¬ 48 ≤ n := by omega
    have c1 : ¬ 122 < n := by omega
    have c3 : n ≤ 122 := by omega
    have d1 : ¬ 57 < n := by omega
    have d3 : n ≤ 57 := by omega
    have e1 : (n == 46) = true := nm_beqT (by omega)
    have f1 : (n == 95) = false := nm_beqF (by omega)
    have g1 : (n == 45) = false := nm_beqF (by omega)
    clear h hR
    go_enter Tryz.func154, Tryz.ntmps154
    go_wp2
    go_ret
    exact ⟨ret_bool HR.out, rfl⟩
  · have HR : Hid (false = nmI n) := by
      show _ = _; symm; unfold nmI; apply decide_eq_false; omega
    have a1 : n < 97 := by omega
    have a3 : ¬ 97 ≤ n := by omega
    have b1 : n < 48 := by omega
    have b3 : ¬ 48 ≤ n := by omega
    have c1 : ¬ 122 < n := by omega
    have c3 : n ≤ 122 := by omega
    have d1 : ¬ 57 < n := by omega
    have d3 : n ≤ 57 := by omega
    have e1 : (n == 46) = false := nm_beqF (by omega)
    have f1 : (n == 95) = false := nm_beqF (by omega)
    have g1 : (n == 45) = false := nm_beqF (by omega)
    clear h hR
    go_enter Tryz.func154, Tryz.ntmps154
    go_wp2
    go_ret
    exact ⟨ret_bool HR.out, rfl⟩
  · have HR : Hid (true = nmI n) := by
      show _ = _; symm; unfold nmI; apply decide_eq_true; omega
    have a1 : n < 97 := by omega
    have a3 : ¬ 97 ≤ n := by omega
    have b1 : ¬ n < 48 := by omega
    have b3 : 48 ≤ n := by omega
    have c1 : ¬ 122 < n := by omega
    have c3 : n ≤ 122 := by omega
    have d1 : ¬ 57 < n := by omega
    have d3 : n ≤ 57 := by omega
    have e1 : (n == 46) = false := nm_beqF (by omega)
    have f1 : (n == 95) = false := nm_beqF (by omega)
    have g1 : (n == 45) = false := nm_beqF (by omega)
    clear h hR
    go_enter Tryz.func154, Tryz.ntmps154
    go_wp2
    go_ret
    exact ⟨ret_bool HR.out, rfl⟩
  · have HR : Hid (false = nmI n) := by
      show _ = _; symm; unfold nmI; apply decide_eq_false; omega
    have a1 : n < 97 := by omega
    have a3 : ¬ 97 ≤ n := by omega
    have b1 : ¬ n < 48 := by omega
    have b3 : 48 ≤ n := by omega
    have c1 : ¬ 122 < n := by omega
    have c3 : n ≤ 122 := by omega
    have d1 : 57 < n := by omega
    have d3 : ¬ n ≤ 57 := by omega
    have e1 : (n == 46) = false := nm_beqF (by omega)
    have f1 : (n == 95) = false := nm_beqF (by omega)
    have g1 : (n == 45) = false := nm_beqF (by omega)
    clear h hR
    go_enter Tryz.func154, Tryz.ntmps154
    go_wp2
    go_ret
    exact ⟨ret_bool HR.out, rfl⟩
  · have HR : Hid (true = nmI n) := by
      show _ = _; symm; unfold nmI; apply decide_eq_true; omega
    have a1 : n < 97 := by omega
    have a3 : ¬ 97 ≤ n := by omega
    have b1 : ¬ n < 48 := by omega
    have b3 : 48 ≤ n := by omega
    have c1 : ¬ 122 < n := by omega
    have c3 : n ≤ 122 := by omega
    have d1 : 57 < n := by omega
    have d3 : ¬ n ≤ 57 := by omega
    have e1 : (n == 46) = false := nm_beqF (by omega)
    have f1 : (n == 95) = true := nm_beqT (by omega)
    have g1 : (n == 45) = false := nm_beqF (by omega)
    clear h hR
    go_enter Tryz.func154, Tryz.ntmps154
    go_wp2
    go_ret
    exact ⟨ret_bool HR.out, rfl⟩
  · have HR : Hid (false = nmI n) := by
      show _ = _; symm; unfold nmI; apply decide_eq_false; omega
    have a1 : n < 97 := by omega
    have a3 : ¬ 97 ≤ n := by omega
    have b1 : ¬ n < 48 := by omega
    have b3 : 48 ≤ n := by omega
    have c1 : ¬ 122 < n := by omega
    have c3 : n ≤ 122 := by omega
    have d1 : 57 < n := by omega
    have d3 : ¬ n ≤ 57 := by omega
    have e1 : (n == 46) = false := nm_beqF (by omega)
    have f1 : (n == 95) = false := nm_beqF (by omega)
    have g1 : (n == 45) = false := nm_beqF (by omega)
    clear h hR
    go_enter Tryz.func154, Tryz.ntmps154
    go_wp2
    go_ret
    exact ⟨ret_bool HR.out, rfl⟩
  · have HR : Hid (true = nmI n) := by
      show _ = _; symm; unfold nmI; apply decide_eq_true; omega
    have a1 : ¬ n < 97 := by omega
    have a3 : 97 ≤ n := by omega
    have b1 : ¬ n < 48 := by omega
    have b3 : 48 ≤ n := by omega
    have c1 : ¬ 122 < n := by omega
    have c3 : n ≤ 122 := by omega
    have d1 : 57 < n := by omega
    have d3 : ¬ n ≤ 57 := by omega
    have e1 : (n == 46) = false := nm_beqF (by omega)
    have f1 : (n == 95) = false := nm_beqF (by omega)
    have g1 : (n == 45) = false := nm_beqF (by omega)
    clear h hR
    go_enter Tryz.func154, Tryz.ntmps154
    go_wp2
    go_ret
    exact ⟨ret_bool HR.out, rfl⟩
  · have HR : Hid (false = nmI n) := by
      show _ = _; symm; unfold nmI; apply decide_eq_false; omega
    have a1 : ¬ n < 97 := by omega
    have a3 : 97 ≤ n := by omega
    have b1 : ¬ n < 48 := by omega
    have b3 : 48 ≤ n := by omega
    have c1 : 122 < n := by omega
    have c3 : ¬ n ≤ 122 := by omega
    have d1 : 57 < n := by omega
    have d3 : ¬ n ≤ 57 := by omega
    have e1 : (n == 46) = false := nm_beqF (by omega)
    have f1 : (n == 95) = false := nm_beqF (by omega)
    have g1 : (n == 45) = false := nm_beqF (by omega)
    clear h hR
    go_enter Tryz.func154, Tryz.ntmps154
    go_wp2
    go_ret
    exact ⟨ret_bool HR.out, rfl⟩
set_option maxHeartbeats 1000000 in
theorem isNameByte (n : Int) (w : World) :
    Calls Tryz.prog 195 #[.int .u8 n] w fun e w' => e = .returned (.bool (nmI n)) ∧ w' = w := by
  have hD : n ≤ 44 ∨ n = 45 ∨ n = 46 ∨ n = 47 ∨ (48 ≤ n ∧ n ≤ 57) ∨ (58 ≤ n ∧ n ≤ 94) ∨ n = 95 ∨ n = 96 ∨ (97 ≤ n ∧ n ≤ 122) ∨ 123 ≤ n := by omega
  obtain ⟨R, hR⟩ : ∃ R, nmI n = R := ⟨_, rfl⟩
  rcases hD with h | h | h | h | h | h | h | h | h | h
  · have HR : Hid (false = nmI n) := by
      show _ = _; symm; unfold nmI; apply decide_eq_false; omega
    have a1 : n < 97 := by omega
    have a3 : ¬ 97 ≤ n := by omega
    have b1 : n < 48 := by omega
    have b3 : ¬ 48 ≤ n := by omega
    have c1 : ¬ 122 < n := by omega
    have c3 : n ≤ 122 := by omega
    have d1 : ¬ 57 < n := by omega
    have d3 : n ≤ 57 := by omega
    have e1 : (n == 46) = false := nm_beqF (by omega)
    have f1 : (n == 95) = false := nm_beqF (by omega)
    have g1 : (n == 45) = false := nm_beqF (by omega)
    clear h hR
    go_enter Tryz.func195, Tryz.ntmps195
    go_wp2
    go_ret
    exact ⟨ret_bool HR.out, rfl⟩
  · have HR : Hid (true = nmI n) := by
      show _ = _; symm; unfold nmI; apply decide_eq_true; omega
    have a1 : n < 97 := by omega
    have a3 : ¬ 97 ≤ n := by omega
    have b1 : n < 48 := by omega
    have b3 : ¬ 48 ≤ n := by omega
    have c1 : ¬ 122 < n := by omega
    have c3 : n ≤ 122 := by omega
    have d1 : ¬ 57 < n := by omega
    have d3 : n ≤ 57 := by omega
    have e1 : (n == 46) = false := nm_beqF (by omega)
    have f1 : (n == 95) = false := nm_beqF (by omega)
    have g1 : (n == 45) = true := nm_beqT (by omega)
    clear h hR
    go_enter Tryz.func195, Tryz.ntmps195
    go_wp2
    go_ret
    exact ⟨ret_bool HR.out, rfl⟩
  · have HR : Hid (true = nmI n) := by
      show _ = _; symm; unfold nmI; apply decide_eq_true; omega
    have a1 : n < 97 := by omega
    have a3 : ¬ 97 ≤ n := by omega
    have b1 : n < 48 := by omega
    have b3 : ¬ 48 ≤ n := by omega
    have c1 : ¬ 122 < n := by omega
    have c3 : n ≤ 122 := by omega
    have d1 : ¬ 57 < n := by omega
    have d3 : n ≤ 57 := by omega
    have e1 : (n == 46) = true := nm_beqT (by omega)
    have f1 : (n == 95) = false := nm_beqF (by omega)
    have g1 : (n == 45) = false := nm_beqF (by omega)
    clear h hR
    go_enter Tryz.func195, Tryz.ntmps195
    go_wp2
    go_ret
    exact ⟨ret_bool HR.out, rfl⟩
  · have HR : Hid (false = nmI n) := by
      show _ = _; symm; unfold nmI; apply decide_eq_false; omega
    have a1 : n < 97 := by omega
    have a3 : ¬ 97 ≤ n := by omega
    have b1 : n < 48 := by omega
    have b3 : ¬ 48 ≤ n := by omega
    have c1 : ¬ 122 < n := by omega
    have c3 : n ≤ 122 := by omega
    have d1 : ¬ 57 < n := by omega
    have d3 : n ≤ 57 := by omega
    have e1 : (n == 46) = false := nm_beqF (by omega)
    have f1 : (n == 95) = false := nm_beqF (by omega)
    have g1 : (n == 45) = false := nm_beqF (by omega)
    clear h hR
    go_enter Tryz.func195, Tryz.ntmps195
    go_wp2
    go_ret
    exact ⟨ret_bool HR.out, rfl⟩
  · have HR : Hid (true = nmI n) := by
      show _ = _; symm; unfold nmI; apply decide_eq_true; omega
    have a1 : n < 97 := by omega
    have a3 : ¬ 97 ≤ n := by omega
    have b1 : ¬ n < 48 := by omega
    have b3 : 48 ≤ n := by omega
    have c1 : ¬ 122 < n := by omega
    have c3 : n ≤ 122 := by omega
    have d1 : ¬ 57 < n := by omega
    have d3 : n ≤ 57 := by omega
    have e1 : (n == 46) = false := nm_beqF (by omega)
    have f1 : (n == 95) = false := nm_beqF (by omega)
    have g1 : (n == 45) = false := nm_beqF (by omega)
    clear h hR
    go_enter Tryz.func195, Tryz.ntmps195
    go_wp2
    go_ret
    exact ⟨ret_bool HR.out, rfl⟩
  · have HR : Hid (false = nmI n) := by
      show _ = _; symm; unfold nmI; apply decide_eq_false; omega
    have a1 : n < 97 := by omega
    have a3 : ¬ 97 ≤ n := by omega
    have b1 : ¬ n < 48 := by omega
    have b3 : 48 ≤ n := by omega
    have c1 : ¬ 122 < n := by omega
    have c3 : n ≤ 122 := by omega
    have d1 : 57 < n := by omega
    have d3 : ¬ n ≤ 57 := by omega
    have e1 : (n == 46) = false := nm_beqF (by omega)
    have f1 : (n == 95) = false := nm_beqF (by omega)
    have g1 : (n == 45) = false := nm_beqF (by omega)
    clear h hR
    go_enter Tryz.func195, Tryz.ntmps195
    go_wp2
    go_ret
    exact ⟨ret_bool HR.out, rfl⟩
  · have HR : Hid (true = nmI n) := by
      show _ = _; symm; unfold nmI; apply decide_eq_true; omega
    have a1 : n < 97 := by omega
    have a3 : ¬ 97 ≤ n := by omega
    have b1 : ¬ n < 48 := by omega
    have b3 : 48 ≤ n := by omega
    have c1 : ¬ 122 < n := by omega
    have c3 : n ≤ 122 := by omega
    have d1 : 57 < n := by omega
    have d3 : ¬ n ≤ 57 := by omega
    have e1 : (n == 46) = false := nm_beqF (by omega)
    have f1 : (n == 95) = true := nm_beqT (by omega)
    have g1 : (n == 45) = false := nm_beqF (by omega)
    clear h hR
    go_enter Tryz.func195, Tryz.ntmps195
    go_wp2
    go_ret
    exact ⟨ret_bool HR.out, rfl⟩
  · have HR : Hid (false = nmI n) := by
      show _ = _; symm; unfold nmI; apply decide_eq_false; omega
    have a1 : n < 97 := by omega
    have a3 : ¬ 97 ≤ n := by omega
    have b1 : ¬ n < 48 := by omega
    have b3 : 48 ≤ n := by omega
    have c1 : ¬ 122 < n := by omega
    have c3 : n ≤ 122 := by omega
    have d1 : 57 < n := by omega
    have d3 : ¬ n ≤ 57 := by omega
    have e1 : (n == 46) = false := nm_beqF (by omega)
    have f1 : (n == 95) = false := nm_beqF (by omega)
    have g1 : (n == 45) = false := nm_beqF (by omega)
    clear h hR
    go_enter Tryz.func195, Tryz.ntmps195
    go_wp2
    go_ret
    exact ⟨ret_bool HR.out, rfl⟩
  · have HR : Hid (true = nmI n) := by
      show _ = _; symm; unfold nmI; apply decide_eq_true; omega
    have a1 : ¬ n < 97 := by omega
    have a3 : 97 ≤ n := by omega
    have b1 : ¬ n < 48 := by omega
    have b3 : 48 ≤ n := by omega
    have c1 : ¬ 122 < n := by omega
    have c3 : n ≤ 122 := by omega
    have d1 : 57 < n := by omega
    have d3 : ¬ n ≤ 57 := by omega
    have e1 : (n == 46) = false := nm_beqF (by omega)
    have f1 : (n == 95) = false := nm_beqF (by omega)
    have g1 : (n == 45) = false := nm_beqF (by omega)
    clear h hR
    go_enter Tryz.func195, Tryz.ntmps195
    go_wp2
    go_ret
    exact ⟨ret_bool HR.out, rfl⟩
  · have HR : Hid (false = nmI n) := by
      show _ = _; symm; unfold nmI; apply decide_eq_false; omega
    have a1 : ¬ n < 97 := by omega
    have a3 : 97 ≤ n := by omega
    have b1 : ¬ n < 48 := by omega
    have b3 : 48 ≤ n := by omega
    have c1 : 122 < n := by omega
    have c3 : ¬ n ≤ 122 := by omega
    have d1 : 57 < n := by omega
    have d3 : ¬ n ≤ 57 := by omega
    have e1 : (n == 46) = false := nm_beqF (by omega)
    have f1 : (n == 95) = false := nm_beqF (by omega)
    have g1 : (n == 45) = false := nm_beqF (by omega)
    clear h hR
    go_enter Tryz.func195, Tryz.ntmps195
    go_wp2
    go_ret
    exact ⟨ret_bool HR.out, rfl⟩

/-- The fault of a name. -/
def nf (s : ByteArray) : Int := if 1 ≤ s.size ∧ s.size ≤ 12 ∧ s ≠ ⟨#[46]⟩ ∧ s ≠ ⟨#[46, 46]⟩ ∧ (∀ k, (h : k < s.size) → nmB s[k] = true) then 0 else 1
theorem nf_short {s : ByteArray} (h : s.size < 1) : nf s = 1 := if_neg (by omega)
theorem nf_long {s : ByteArray} (h : 12 < s.size) : nf s = 1 := if_neg (by omega)
theorem nf_dot {s : ByteArray} (h : s = ⟨#[46]⟩) : nf s = 1 := if_neg (fun k => k.2.2.1 h)
theorem nf_dots {s : ByteArray} (h : s = ⟨#[46, 46]⟩) : nf s = 1 := if_neg (fun k => k.2.2.2.1 h)
theorem nf_byte {s : ByteArray} {k : Nat} (hk : k < s.size) (h : nmB s[k] = false) : nf s = 1 := if_neg (fun q => by rw [q.2.2.2.2 k hk] at h; cases h)
theorem nf_ok {s : ByteArray} (h1 : ¬ s.size < 1) (h2 : ¬ 12 < s.size) (h3 : ¬ s = ⟨#[46]⟩) (h4 : ¬ s = ⟨#[46, 46]⟩) (h5 : ∀ k, (h : k < s.size) → nmB s[k] = true) : nf s = 0 := if_pos ⟨by omega, by omega, h3, h4, h5⟩
theorem nf_or (s : ByteArray) : nf s = 0 ∨ nf s = 1 := by
  unfold nf
  split
  · exact .inl rfl
  · exact .inr rfl

theorem nm_eqF {s : ByteArray} {l : List UInt8} (h : ¬ s = ⟨l.toArray⟩) : (s.toList == l) = false := by
  cases e : (s.toList == l) with
  | false => rfl
  | true =>
    have e2 : s.toList = l := by simpa using e
    refine absurd ?_ h
    rw [ByteArray.toList_eq] at e2
    obtain ⟨⟨x⟩⟩ := s
    have e3 : x = l := e2
    rw [e3]
theorem nm_eqT {s : ByteArray} {l : List UInt8} (h : s = ⟨l.toArray⟩) : (s.toList == l) = true := by
  have e : s.toList = l := by rw [h, ByteArray.toList_eq]
  rw [e]; simp
set_option maxHeartbeats 1000000 in
theorem specNameFault (s : ByteArray) (w : World) :
    Calls Tryz.prog 114 #[.string s] w fun e w' => e = .returned (.int .i64 (nf s)) ∧ w' = w := by
  by_cases h1 : s.size < 1
  · have HR : Hid (nf s = 1) := nf_short h1
    have q1 : (s.size : Int) < 1 := by omega
    clear h1
    go_enter Tryz.func114, Tryz.ntmps114
    go_wp2
    go_ret
    exact ⟨ret_int HR.out.symm, rfl⟩
  have q1 : ¬ (s.size : Int) < 1 := by omega
  by_cases h2 : 12 < s.size
  · have HR : Hid (nf s = 1) := nf_long h2
    have q2 : (12 : Int) < (s.size : Int) := by omega
    clear h1 h2
    go_enter Tryz.func114, Tryz.ntmps114
    go_wp2
    go_ret
    exact ⟨ret_int HR.out.symm, rfl⟩
  have q2 : ¬ (12 : Int) < (s.size : Int) := by omega
  by_cases h3 : s = ⟨#[46]⟩
  · have HR : Hid (nf s = 1) := nf_dot h3
    have q3 : (s.toList == [46]) = true := nm_eqT h3
    clear h1 h2 h3
    go_enter Tryz.func114, Tryz.ntmps114
    go_wp2
    go_ret
    exact ⟨ret_int HR.out.symm, rfl⟩
  have q3 : (s.toList == [46]) = false := nm_eqF h3
  by_cases h4 : s = ⟨#[46, 46]⟩
  · have HR : Hid (nf s = 1) := nf_dots h4
    have q4 : (s.toList == [46, 46]) = true := nm_eqT h4
    clear h1 h2 h3 h4
    go_enter Tryz.func114, Tryz.ntmps114
    go_wp2
    go_ret
    exact ⟨ret_int HR.out.symm, rfl⟩
  have q4 : (s.toList == [46, 46]) = false := nm_eqF h4
  have HB : ∀ k, (h : k < s.size) → nmB s[k] = false → Hid (nf s = 1) := fun k hk h => nf_byte hk h
  have HG : (∀ k, (h : k < s.size) → nmB s[k] = true) → Hid (nf s = 0) := fun h => nf_ok h1 h2 h3 h4 h
  clear h1 h2 h3 h4
  go_enter Tryz.func114, Tryz.ntmps114
  go_wp2
  go_loop [3] (fun i => ∃ k : Nat, k ≤ s.size ∧ i = .int .i64 k ∧ Hid (∀ j, (h : j < s.size) → j < k → nmB s[j] = true)) (fun i => s.size - (intOf i).toNat)
  case atStart => exact ⟨0, by omega, rfl, fun j _ hj => by omega⟩
  case round =>
    obtain ⟨k, hk, rfl, hn⟩ := hrel
    by_cases hlt : k < s.size
    · have hkI : (k : Int) < (s.size : Int) := by omega
      have hC := fun w => l6NameByte (s[k].toNat : Int) w
      have hb := HB k hlt
      have hgo : nmB s[k] = true → Hid (∀ j, (h : j < s.size) → j < k + 1 → nmB s[j] = true) := fun e j hj h1 => by
        by_cases ej : j = k
        · subst ej; exact e
        · exact hn.out j hj (by omega)
      clear HB HG hn
      unfold nmB at hb hgo
      cases e : nmI (s[k].toNat : Int) with
      | false =>
        have HR := hb e
        rw [e] at hC
        clear e hb hgo
        go_wp2_with (go_at_call 154; refine (hC _).mono ?_; rintro e w' ⟨rfl, rfl⟩)
        go_ret
        exact ⟨ret_int HR.out.symm, rfl⟩
      | true =>
        have HN := hgo e
        rw [e] at hC
        clear e hb hgo
        go_wp2_with (go_at_call 154; refine (hC _).mono ?_; rintro e w' ⟨rfl, rfl⟩)
        go_round
        case rel => exact ⟨k + 1, by omega, by go_num, HN⟩
        case measure => simp [intOf]; omega
    · have hkI : ¬ (k : Int) < (s.size : Int) := by omega
      have HR := HG (fun j hj => hn.out j hj (by omega))
      clear HB HG hn
      go_wp2
      go_ret
      exact ⟨ret_int HR.out.symm, rfl⟩

set_option maxHeartbeats 1000000 in
theorem implNameFault (s : ByteArray) (w : World) :
    Calls Tryz.prog 156 #[.string s] w fun e w' => e = .returned (.int .i64 (nf s)) ∧ w' = w := by
  by_cases h1 : s.size < 1
  · have HR : Hid (nf s = 1) := nf_short h1
    have q1 : (s.size : Int) < 1 := by omega
    clear h1
    go_enter Tryz.func156, Tryz.ntmps156
    go_wp2
    go_ret
    exact ⟨ret_int HR.out.symm, rfl⟩
  have q1 : ¬ (s.size : Int) < 1 := by omega
  by_cases h2 : 12 < s.size
  · have HR : Hid (nf s = 1) := nf_long h2
    have q2 : (12 : Int) < (s.size : Int) := by omega
    clear h1 h2
    go_enter Tryz.func156, Tryz.ntmps156
    go_wp2
    go_ret
    exact ⟨ret_int HR.out.symm, rfl⟩
  have q2 : ¬ (12 : Int) < (s.size : Int) := by omega
  have HB : ∀ k, (h : k < s.size) → nmB s[k] = false → Hid (nf s = 1) := fun k hk h => nf_byte hk h
  have H3 : s = ⟨#[46]⟩ → Hid (nf s = 1) := fun h => nf_dot h
  have H4 : s = ⟨#[46, 46]⟩ → Hid (nf s = 1) := fun h => nf_dots h
  have HG : ¬ s = ⟨#[46]⟩ → ¬ s = ⟨#[46, 46]⟩ → (∀ k, (h : k < s.size) → nmB s[k] = true) → Hid (nf s = 0) := fun h3 h4 h => nf_ok h1 h2 h3 h4 h
  clear h1 h2
  go_enter Tryz.func156, Tryz.ntmps156
  go_wp2
  go_loop [14] (fun i => ∃ k : Nat, k ≤ s.size ∧ i = .int .i64 k ∧ Hid (∀ j, (h : j < s.size) → j < k → nmB s[j] = true)) (fun i => s.size - (intOf i).toNat)
  case atStart => exact ⟨0, by omega, rfl, fun j _ hj => by omega⟩
  case round =>
    obtain ⟨k, hk, rfl, hn⟩ := hrel
    by_cases hlt : k < s.size
    · have hkI : (k : Int) < (s.size : Int) := by omega
      have hC := fun w => isNameByte (s[k].toNat : Int) w
      have hb := HB k hlt
      have hgo : nmB s[k] = true → Hid (∀ j, (h : j < s.size) → j < k + 1 → nmB s[j] = true) := fun e j hj h1 => by
        by_cases ej : j = k
        · subst ej; exact e
        · exact hn.out j hj (by omega)
      clear HB HG hn H3 H4
      unfold nmB at hb hgo
      cases e : nmI (s[k].toNat : Int) with
      | false =>
        have HR := hb e
        rw [e] at hC
        clear e hb hgo
        go_wp2_with (go_at_call 195; refine (hC _).mono ?_; rintro e w' ⟨rfl, rfl⟩)
        go_ret
        exact ⟨ret_int HR.out.symm, rfl⟩
      | true =>
        have HN := hgo e
        rw [e] at hC
        clear e hb hgo
        go_wp2_with (go_at_call 195; refine (hC _).mono ?_; rintro e w' ⟨rfl, rfl⟩)
        go_round
        case rel => exact ⟨k + 1, by omega, by go_num, HN⟩
        case measure => simp [intOf]; omega
    · have hkI : ¬ (k : Int) < (s.size : Int) := by omega
      have HA : Hid (∀ j, (h : j < s.size) → nmB s[j] = true) := fun j hj => hn.out j hj (by omega)
      clear HB hn
      by_cases h3 : s = ⟨#[46]⟩
      · have HR := H3 h3
        have q3 : (s.toList == [46]) = true := nm_eqT h3
        clear H3 H4 HG HA h3
        go_wp2
        go_ret
        exact ⟨ret_int HR.out.symm, rfl⟩
      · have q3 : (s.toList == [46]) = false := nm_eqF h3
        by_cases h4 : s = ⟨#[46, 46]⟩
        · have HR := H4 h4
          have q4 : (s.toList == [46, 46]) = true := nm_eqT h4
          clear H3 H4 HG HA h3 h4
          go_wp2
          go_ret
          exact ⟨ret_int HR.out.symm, rfl⟩
        · have q4 : (s.toList == [46, 46]) = false := nm_eqF h4
          have HR := HG h3 h4 HA.out
          clear H3 H4 HG HA h3 h4
          go_wp2
          go_ret
          exact ⟨ret_int HR.out.symm, rfl⟩
end Go.Proofs.YtgidcncmicmggamGreatDoor
