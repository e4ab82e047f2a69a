/- Plain mathematics and small laws for this seat's proofs: lists of bytes, digests. No statement is proved here. -/
import Derived.WalkKit
import Derived.ProofKit
import Derived.Below
import Derived.Lib.Bytealg
import Derived.Test.YtcfnkndbhpdfnaaGreatDoorRows
import Derived.Deep.QuietTactic
import Derived.BigQuiet
import Derived.WalkSpells
import Derived.SliceStrings
import Derived.Carry
namespace Go.Proofs.YtcfnkndbhpdfnaaGreatDoor
open Go.ChangeShapes Go.WideShapes Go.ChangeAt Go.RowKit
theorem ret_int {k : IntKind} {a b : Int} (h : a = b) : Ending.returned (.int k a) = .returned (.int k b) := by rw [h]
theorem ret_bool {a b : Bool} (h : a = b) : Ending.returned (.bool a) = .returned (.bool b) := by rw [h]
theorem take_snoc (s : ByteArray) (k : Nat) (h : k < s.size) : s.data.toList.take (k + 1) = s.data.toList.take k ++ [s[k]] := by
 rw [List.take_succ_eq_append_getElem (by simpa using h)]; rfl
theorem byte_bd (c : UInt8) : 0 <= (c.toNat : Int) /\ (c.toNat : Int) <= 255 := by have := c.toNat_lt; omega
theorem bytes_inj2 {a b : ByteArray} (h : a.toList = b.toList) : a = b := by
 rw [ByteArray.toList_eq, ByteArray.toList_eq] at h
 exact WideShapes.bytes_inj h
theorem beq_bytes_false {a b : ByteArray} (h : ¬ a = b) : (a.toList == b.toList) = false := by
 cases e : (a.toList == b.toList) with
 | false => rfl
 | true => exact absurd (bytes_inj2 (by simpa using e)) h
theorem beq_bytes_true {a b : ByteArray} (h : a = b) : (a.toList == b.toList) = true := by rw [h]; simp
def dig (l : List UInt8) : Int := l.foldl (fun h c => (h * 131 + (c.toNat : Int)) % 65521) 7
theorem dig_bd_from (l : List UInt8) : ∀ h : Int, 0 <= h -> h < 65521 -> 0 <= l.foldl (fun h c => (h * 131 + (c.toNat : Int)) % 65521) h /\ l.foldl (fun h c => (h * 131 + (c.toNat : Int)) % 65521) h < 65521 := by
 induction l with
 | nil => intro h a b; exact ⟨a, b⟩
 | cons c l ih => intro h a b; rw [List.foldl_cons]; exact ih _ (by omega) (by omega)
theorem dig_bd (l : List UInt8) : 0 <= dig l /\ dig l < 65521 := dig_bd_from l 7 (by omega) (by omega)
theorem dig_snoc (l : List UInt8) (c : UInt8) : dig (l ++ [c]) = (dig l * 131 + (c.toNat : Int)) % 65521 := by
 unfold dig; rw [List.foldl_append]; rfl
theorem indexByte_mem (l : List UInt8) (c : UInt8) : 0 <= Lib.indexByte l c ↔ c ∈ l := by
 induction l with
 | nil => simp [Lib.indexByte]
 | cons b l ih =>
  have hg := Lib.indexByte_ge l c
  unfold Lib.indexByte
  by_cases hb : (b == c) = true
  ·have : b = c := by simpa using hb
   simp [this]
  ·have hne : ¬ c = b := by intro h; exact hb (by simp [h])
   have hb' : (b == c) = false := by simpa using hb
   simp only [hb', Bool.false_eq_true, if_false, List.mem_cons, hne, false_or, <- ih]
   by_cases h1 : (Lib.indexByte l c == -1) = true
   ·have : Lib.indexByte l c = -1 := by simpa using h1
    simp [this]
   ·have h2 : ¬ Lib.indexByte l c = -1 := by simpa using h1
    simp only [h1, if_false, Bool.false_eq_true]
    omega
end Go.Proofs.YtcfnkndbhpdfnaaGreatDoor
namespace Go.Proofs.YtcfnkndbhpdfnaaGreatDoor
open Go.ChangeShapes Go.WideShapes Go.ChangeAt Go.RowKit
def SS (w : World) (a : Option Addr) (ss : List ByteArray) : Prop :=
 (∀ k, k < ss.length -> (ss.getD k ByteArray.empty).size <= 9223372036854775807) /\
 ∀ k, k < ss.length -> ∃ b off, a = some ⟨b, off, none⟩ /\ b < w.heap.size /\ w.cell? ⟨b, off + k, none⟩ = some (.string (ss.getD k ByteArray.empty))
theorem SS.below {w w' : World} {a : Option Addr} {ss : List ByteArray} (h : SS w a ss) (hb : Below w.heap.size w w') : SS w' a ss :=
 ⟨h.1, fun k hk => by
  obtain ⟨b, off, e, hlt, hc⟩ := h.2 k hk
  exact ⟨b, off, e, Nat.lt_of_lt_of_le hlt hb.size, (hb.cell (p := ⟨b, off + k, none⟩) hlt).trans hc⟩⟩
theorem below_drewN' {B : Nat} {a w : World} (h : Below B a w) (n : Nat) : Below B a (w.drewN n) := h.trans ⟨rfl, rfl, rfl, Nat.le_refl _, fun _ _ => rfl⟩
theorem below_step {B : Nat} {a w w' : World} (h : Below B a w) (hB : B <= w.heap.size) (k : Below w.heap.size w w') : Below B a w' := h.trans (k.mono hB)
theorem SS.drewN {w : World} {a : Option Addr} {ss : List ByteArray} (h : SS w a ss) (n : Nat) : SS (w.drewN n) a ss := h
theorem getD_at (ss : List ByteArray) (k : Nat) (h : k < ss.length) : ss.getD k ByteArray.empty = ss[k] := by simp [List.getD, h]
def tot (ss : List ByteArray) : Int := (ss.map fun s => (s.size : Int)).sum
theorem tot_nonneg (ss : List ByteArray) : 0 <= tot ss := by
 unfold tot
 induction ss with
 | nil => simp
 | cons s ss ih => simp only [List.map_cons, List.sum_cons]; omega
theorem tot_take (ss : List ByteArray) (k : Nat) (h : k < ss.length) : tot (ss.take (k + 1)) = tot (ss.take k) + ((ss.getD k ByteArray.empty).size : Int) := by
 unfold tot
 rw [List.take_succ_eq_append_getElem h, List.map_append, List.sum_append, getD_at ss k h]
 simp
theorem tot_split (ss : List ByteArray) (k : Nat) : tot ss = tot (ss.take k) + tot (ss.drop k) := by
 unfold tot
 conv => lhs; rw [<- List.take_append_drop k ss]
 rw [List.map_append, List.sum_append]
theorem tot_take_le (ss : List ByteArray) (k : Nat) : tot (ss.take k) <= tot ss := by
 have h1 := tot_split ss k
 have h2 := tot_nonneg (ss.drop k)
 omega
theorem infoString : (Tryz.prog.info? 9).map (fun i => (i.zero, i.size, i.bytes)) = some (some (.string ByteArray.empty), 1, 16) := by kernel_rfl
def sameTo (xs ys : List ByteArray) (k : Nat) : Prop := ∀ i, i < k -> xs.getD i ByteArray.empty = ys.getD i ByteArray.empty
theorem sameTo_succ {xs ys : List ByteArray} {k : Nat} (h : sameTo xs ys k) (e : xs.getD k ByteArray.empty = ys.getD k ByteArray.empty) : sameTo xs ys (k + 1) := by
 intro i hi
 by_cases h' : i = k
 ·rw [h']; exact e
 ·exact h i (by omega)
theorem eq_of_sameTo {xs ys : List ByteArray} (hl : xs.length = ys.length) (h : sameTo xs ys xs.length) : xs = ys := by
 apply List.ext_getElem hl
 intro i h1 h2
 have := h i h1
 rwa [getD_at xs i h1, getD_at ys i h2] at this
def eqB (xs ys : List ByteArray) : Bool := decide (xs = ys)
def Eqs (f : FuncId) : Prop := ∀ (a1 a2 : Option Addr) (c1 c2 : Nat) (xs ys : List ByteArray) (w : World), SS w a1 xs -> SS w a2 ys -> xs.length <= 1048576 -> ys.length <= 1048576 ->
  Calls Tryz.prog f #[.slice a1 xs.length c1, .slice a2 ys.length c2] w fun e w' => e = .returned (.bool (eqB xs ys)) /\ ∃ n, w' = w.drewN n
end Go.Proofs.YtcfnkndbhpdfnaaGreatDoor
namespace Go.Proofs.YtcfnkndbhpdfnaaGreatDoor
open Go.RowKit
theorem indexByte_app (pre post : List UInt8) (c : UInt8) (h : ¬ c ∈ pre) : Lib.indexByte (pre ++ c :: post) c = pre.length := by
 induction pre with
 | nil => simp [Lib.indexByte]
 | cons b l ih =>
  have hb : (b == c) = false := by
   cases e : (b == c) with
   | false => rfl
   | true => exact absurd (by simp [show b = c by simpa using e]) h
  have hi := ih (fun hm => h (List.mem_cons_of_mem _ hm))
  rw [List.cons_append]
  unfold Lib.indexByte
  rw [hb, hi]
  have : ((l.length : Int) == -1) = false := by simp
  rw [this]
  simp
theorem indexByte_none (l : List UInt8) (c : UInt8) (h : ¬ c ∈ l) : Lib.indexByte l c = -1 := by
 have h1 := Lib.indexByte_ge l c
 have h2 : ¬ 0 <= Lib.indexByte l c := fun h' => h ((indexByte_mem l c).1 h')
 omega
theorem indexByte_lt (l : List UInt8) (c : UInt8) : Lib.indexByte l c < l.length \/ (Lib.indexByte l c = -1) := by
 induction l with
 | nil => right; rfl
 | cons b l ih =>
  unfold Lib.indexByte
  by_cases hb : (b == c) = true
  ·left; simp [hb]
  ·have hb' : (b == c) = false := by simpa using hb
   rw [hb']
   by_cases h1 : (Lib.indexByte l c == -1) = true
   ·right; simp [h1]
   ·have h2 : ¬ Lib.indexByte l c = -1 := by simpa using h1
    left
    simp only [h1, Bool.false_eq_true, if_false, List.length_cons]
    omega
def okLine (l : List UInt8) (last : Bool) : Bool := if l = [] then false else if Lib.indexByte l 10 < 0 then last else decide (Lib.indexByte l 10 = l.length - 1)
def okAt (ss : List ByteArray) (i : Nat) : Bool := okLine (ss.getD i ByteArray.empty).data.toList (decide ((i : Int) = (ss.length : Int) - 1))
def allOk (ss : List ByteArray) (k : Nat) : Bool := (List.range k).all (okAt ss)
theorem allOk_not {ss : List ByteArray} {k n : Nat} (e : okAt ss k = false) (hk : k < n) : allOk ss n = false := by
 unfold allOk
 cases h : (List.range n).all (okAt ss) with
 | false => rfl
 | true =>
  have := List.all_eq_true.1 h k (List.mem_range.2 hk)
  rw [e] at this; cases this
def lf (ss : List ByteArray) : Int := if 100 < (ss.length : Int) \/ 2000 < tot ss then 2 else if allOk ss ss.length = true then 0 else 1
theorem lf_many {ss : List ByteArray} (h : 100 < (ss.length : Int) \/ 2000 < tot ss) : lf ss = 2 := if_pos h
theorem lf_ok {ss : List ByteArray} (h : ¬ (100 < (ss.length : Int) \/ 2000 < tot ss)) (e : allOk ss ss.length = true) : lf ss = 0 := by
 unfold lf; rw [if_neg h, if_pos e]
theorem lf_form {ss : List ByteArray} (h : ¬ (100 < (ss.length : Int) \/ 2000 < tot ss)) {k : Nat} (hk : k < ss.length) (e : okAt ss k = false) : lf ss = 1 := by
 unfold lf; rw [if_neg h, if_neg (by rw [allOk_not e hk]; simp)]
end Go.Proofs.YtcfnkndbhpdfnaaGreatDoor
namespace Go.Proofs.YtcfnkndbhpdfnaaGreatDoor
open Go.RowKit
def spl : List UInt8 -> List (List UInt8)
 | [] => []
 | c :: l => if c = 10 then [c] :: spl l else match spl l with
  | [] => [[c]]
  | x :: xs => (c :: x) :: xs
theorem spl_feed (a r : List UInt8) (h : ¬ (10 : UInt8) ∈ a) : spl (a ++ 10 :: r) = (a ++ [10]) :: spl r := by
 induction a with
 | nil => simp [spl]
 | cons c a ih =>
  have hc : ¬ c = 10 := fun e => h (by simp [e])
  have := ih (fun hm => h (List.mem_cons_of_mem _ hm))
  rw [List.cons_append, spl, if_neg hc, this]
  rfl
theorem spl_one (a : List UInt8) (h : ¬ (10 : UInt8) ∈ a) (h0 : a ≠ []) : spl a = [a] := by
 induction a with
 | nil => exact absurd rfl h0
 | cons c a ih =>
  have hc : ¬ c = 10 := fun e => h (by simp [e])
  rw [spl, if_neg hc]
  cases a with
  | nil => rfl
  | cons d a => rw [ih (fun hm => h (List.mem_cons_of_mem _ hm)) (by simp)]
theorem spl_length (l : List UInt8) : (spl l).length <= l.length := by
 induction l with
 | nil => simp [spl]
 | cons c l ih =>
  rw [spl]
  split
  ·simpa using ih
  ·split
   ·simp
   ·rename_i x xs h
    rw [h] at ih
    simp at ih ⊢
    omega
def mkB (l : List UInt8) : ByteArray := ⟨l.toArray⟩
theorem mkB_data (l : List UInt8) : (mkB l).data.toList = l := rfl
def linesFrom (s : ByteArray) (k : Nat) : List ByteArray := (spl (s.data.toList.drop k)).map mkB
def linesOf (s : ByteArray) : List ByteArray := linesFrom s 0
def endOf (s : ByteArray) (k : Nat) : Nat := if Lib.indexByte (s.data.toList.drop k) 10 < 0 then s.size else k + (Lib.indexByte (s.data.toList.drop k) 10).toNat + 1
theorem extract_data (s : ByteArray) (a b : Nat) : (s.extract a b).data.toList = (s.data.toList.drop a).take (b - a) := by
 simp [ByteArray.data_extract, List.extract_eq_take_drop]
theorem size_eq (s : ByteArray) : s.data.toList.length = s.size := by simp
theorem extract_size_le (s : ByteArray) (a b : Nat) : (s.extract a b).size <= s.size := by
 rw [<- size_eq, extract_data, List.length_take, List.length_drop, size_eq]; omega
theorem linesFrom_end (s : ByteArray) (k : Nat) (h : s.size <= k) : linesFrom s k = [] := by
 unfold linesFrom
 rw [List.drop_of_length_le (by rw [size_eq]; exact h)]
 rfl
theorem indexByte_split (l : List UInt8) (c : UInt8) (h : ¬ Lib.indexByte l c < 0) :
  ¬ c ∈ l.take (Lib.indexByte l c).toNat /\ l = l.take (Lib.indexByte l c).toNat ++ c :: l.drop ((Lib.indexByte l c).toNat + 1) /\ (Lib.indexByte l c).toNat < l.length := by
 induction l with
 | nil => exact absurd (by simp [Lib.indexByte]) h
 | cons b l ih =>
  by_cases hb : (b == c) = true
  ·have e : b = c := by simpa using hb
   have : Lib.indexByte (b :: l) c = 0 := by unfold Lib.indexByte; rw [if_pos hb]
   rw [this]
   simp [e]
  ·have hne : ¬ c = b := by intro e; exact hb (by simp [e])
   have hg := Lib.indexByte_ge l c
   have hval : Lib.indexByte (b :: l) c = if (Lib.indexByte l c == -1) = true then -1 else Lib.indexByte l c + 1 := by
    rw [Lib.indexByte]
    rw [if_neg hb]
   by_cases h1 : (Lib.indexByte l c == -1) = true
   ·rw [hval, if_pos h1] at h
    exact absurd (by omega) h
   ·have h2 : ¬ Lib.indexByte l c = -1 := by simpa using h1
    have h3 : ¬ Lib.indexByte l c < 0 := by omega
    obtain ⟨i1, i2, i3⟩ := ih h3
    have e : (Lib.indexByte (b :: l) c).toNat = (Lib.indexByte l c).toNat + 1 := by rw [hval, if_neg h1]; omega
    rw [e]
    refine ⟨?_, ?_, ?_⟩
    ·simp only [List.take_succ_cons, List.mem_cons, hne, false_or]; exact i1
    ·simp only [List.take_succ_cons, List.drop_succ_cons, List.cons_append]
     rw [<- i2]
    ·simp; omega
theorem take_mid (a r : List UInt8) (c : UInt8) : (a ++ c :: r).take (a.length + 1) = a ++ [c] := by
 rw [List.take_append, List.take_of_length_le (by omega)]
 simp
theorem endOf_bd (s : ByteArray) (k : Nat) (h : k < s.size) : k < endOf s k /\ endOf s k <= s.size := by
 unfold endOf
 by_cases hneg : Lib.indexByte (s.data.toList.drop k) 10 < 0
 ·rw [if_pos hneg]; exact ⟨h, Nat.le_refl _⟩
 ·rw [if_neg hneg]
  have := (indexByte_split _ _ hneg).2.2
  rw [List.length_drop, size_eq] at this
  omega
theorem linesFrom_step (s : ByteArray) (k : Nat) (h : k < s.size) : linesFrom s k = s.extract k (endOf s k) :: linesFrom s (endOf s k) := by
 have hx : s.extract k (endOf s k) = mkB ((s.data.toList.drop k).take (endOf s k - k)) := by
  apply WideShapes.bytes_inj
  rw [extract_data, mkB_data]
 rw [hx]
 unfold linesFrom
 rw [<- List.map_cons]
 congr 1
 unfold endOf
 by_cases hneg : Lib.indexByte (s.data.toList.drop k) 10 < 0
 ·rw [if_pos hneg]
  have hl : (s.data.toList.drop k).length = s.size - k := by rw [List.length_drop, size_eq]
  rw [List.take_of_length_le (by omega), List.drop_of_length_le (i := s.size) (by rw [size_eq]; exact Nat.le_refl _)]
  have hn : ¬ (10 : UInt8) ∈ s.data.toList.drop k := fun hm => by have := (indexByte_mem _ _).2 hm; omega
  rw [spl_one _ hn (by intro e; rw [e] at hl; simp at hl; omega)]
  rfl
 ·rw [if_neg hneg]
  obtain ⟨i1, i2, i3⟩ := indexByte_split _ _ hneg
  generalize hj : (Lib.indexByte (s.data.toList.drop k) 10).toNat = j at *
  have e1 : k + j + 1 - k = j + 1 := by omega
  have e2 : s.data.toList.drop (k + j + 1) = (s.data.toList.drop k).drop (j + 1) := by rw [List.drop_drop]; congr 1
  rw [e1, e2]
  conv => lhs; rw [i2]
  rw [spl_feed _ _ i1]
  congr 1
  have ha : ((s.data.toList.drop k).take j).length = j := by rw [List.length_take]; omega
  have := take_mid ((s.data.toList.drop k).take j) ((s.data.toList.drop k).drop (j + 1)) 10
  rw [<- i2, ha] at this
  exact this.symm
end Go.Proofs.YtcfnkndbhpdfnaaGreatDoor
namespace Go.Proofs.YtcfnkndbhpdfnaaGreatDoor
open Go.ChangeShapes Go.WideShapes Go.ChangeAt Go.RowKit
theorem idxEntry (s : ByteArray) (c : Int) (w : World) :
  (callFunc 155 #[.string s, .int .u8 c]).run Tryz.prog w = .ok (.value (.int .i64 (Lib.indexByte s.data.toList c.toNat.toUInt8))) w := by
 rw [run_callFunc_extern Tryz.func155 (by kernel_rfl) (by kernel_rfl) (by kernel_rfl) (e := Extern.BytealgIndexByte.indexByte) (by kernel_rfl), Lib.run_indexByteString]
 rfl
theorem indexByte (s : ByteArray) (c : Int) (w : World) :
  Calls Tryz.prog 114 #[.string s, .int .u8 c] w fun e w' => e = .returned (.int .i64 (Lib.indexByte s.data.toList c.toNat.toUInt8)) /\ w' = w := by
 have h := idxEntry s c
 go_enter Tryz.func114, Tryz.ntmps114
 go_wp2
 go_ret
 exact ⟨rfl, rfl⟩
end Go.Proofs.YtcfnkndbhpdfnaaGreatDoor
