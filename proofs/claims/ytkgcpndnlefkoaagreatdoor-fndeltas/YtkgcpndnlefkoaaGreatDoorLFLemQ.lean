/- Plain mathematics of the faults of lines: which line is right, and the fault of a list of lines. No statement is proved here. -/
import Derived.Test.YtkgcpndnlefkoaaGreatDoorLemQ
import Derived.Test.YtkgcpndnlefkoaaGreatDoorRows
import Derived.Test.YtkgcpndnlefkoaaGreatDoorInQ
import Derived.WalkKit
import Derived.ProofKit
import Derived.Lib.Bytealg
namespace Go.Proofs.YtkgcpndnlefkoaaGreatDoor
open Go.RowKit

theorem indexByte_app (pre post : List UInt8) (c : UInt8) (h : ¬ c ∈ pre) : Lib.indexByte (pre ++ c :: post) c = pre.length := by
  induction pre with
  | nil => simp [Lib.indexByte]
  | cons b l ih =>
    have hb : (b == c) = false := by
      cases e : (b == c) with
      | false => rfl
      | true => exact absurd (by simp [show b = c by simpa using e]) h
    have hi := ih (fun hm => h (List.mem_cons_of_mem _ hm))
    rw [List.cons_append]
    unfold Lib.indexByte
    rw [hb, hi]
    have : ((l.length : Int) == -1) = false := by simp
    rw [this]
    simp
theorem indexByte_none (l : List UInt8) (c : UInt8) (h : ¬ c ∈ l) : Lib.indexByte l c = -1 := by
  have h1 := Lib.indexByte_ge l c
  have h2 : ¬ 0 ≤ Lib.indexByte l c := fun h' => h ((indexByte_mem l c).1 h')
  omega
theorem indexByte_lt (l : List UInt8) (c : UInt8) : Lib.indexByte l c < l.length ∨ (Lib.indexByte l c = -1) := by
  induction l with
  | nil => right; rfl
  | cons b l ih =>
    unfold Lib.indexByte
    by_cases hb : (b == c) = true
    · left; simp [hb]
    · have hb' : (b == c) = false := by simpa using hb
      rw [hb']
      by_cases h1 : (Lib.indexByte l c == -1) = true
      · right; simp [h1]
      · have h2 : ¬ Lib.indexByte l c = -1 := by simpa using h1
        left
        simp only [h1, Bool.false_eq_true, if_false, List.length_cons]
        omega

/-- Where the first line feed of a line is; its length, if there is none. -/
def ended (l : List UInt8) : Int := if Lib.indexByte l 10 < 0 then l.length else Lib.indexByte l 10
/-- A line is right: not empty; its line feed, where it has one, is its last byte; without one it is the last line. -/
def okLine (l : List UInt8) (last : Bool) : Bool := if l = [] then false else if Lib.indexByte l 10 < 0 then last else decide (Lib.indexByte l 10 = l.length - 1)
def okAt (ss : List ByteArray) (i : Nat) : Bool := okLine (ss.getD i ByteArray.empty).data.toList (decide ((i : Int) = (ss.length : Int) - 1))
def allOk (ss : List ByteArray) (k : Nat) : Bool := (List.range k).all (okAt ss)
theorem allOk_zero (ss : List ByteArray) : allOk ss 0 = true := rfl
theorem allOk_succ {ss : List ByteArray} {k : Nat} (h : allOk ss k = true) (e : okAt ss k = true) : allOk ss (k + 1) = true := by
  unfold allOk at *
  rw [List.range_succ, List.all_append, h]; simp [e]
theorem allOk_not {ss : List ByteArray} {k n : Nat} (e : okAt ss k = false) (hk : k < n) : allOk ss n = false := by
  unfold allOk
  cases h : (List.range n).all (okAt ss) with
  | false => rfl
  | true =>
    have := List.all_eq_true.1 h k (List.mem_range.2 hk)
    rw [e] at this; cases this
/-- The fault of a list of lines. -/
def lf (ss : List ByteArray) : Int := if 100 < (ss.length : Int) ∨ 2000 < tot ss then 2 else if allOk ss ss.length = true then 0 else 1
theorem lf_many {ss : List ByteArray} (h : 100 < (ss.length : Int) ∨ 2000 < tot ss) : lf ss = 2 := if_pos h
theorem lf_ok {ss : List ByteArray} (h : ¬ (100 < (ss.length : Int) ∨ 2000 < tot ss)) (e : allOk ss ss.length = true) : lf ss = 0 := by
  unfold lf; rw [if_neg h, if_pos e]
theorem lf_form {ss : List ByteArray} (h : ¬ (100 < (ss.length : Int) ∨ 2000 < tot ss)) {k : Nat} (hk : k < ss.length) (e : okAt ss k = false) : lf ss = 1 := by
  unfold lf; rw [if_neg h, if_neg (by rw [allOk_not e hk]; simp)]
theorem ended_bd (l : List UInt8) : 0 ≤ ended l ∧ ended l ≤ l.length := by
  unfold ended
  have := indexByte_lt l 10
  split <;> omega
/-- The specification's test of a line, in the words of 'okLine'. -/
theorem okLine_spec (l : List UInt8) (k n : Int) (hk : k ≤ n - 1) :
    okLine l (decide (k = n - 1)) = !(decide (l = []) || decide (ended l < l.length - 1) || (decide (ended l = l.length) && decide (k < n - 1))) := by
  have hlt := indexByte_lt l 10
  have hge := Lib.indexByte_ge l 10
  unfold okLine ended
  by_cases h0 : l = []
  · simp [h0]
  · have hpos : 0 < l.length := by
      cases l with
      | nil => exact absurd rfl h0
      | cons => simp
    rw [if_neg h0]
    by_cases h1 : Lib.indexByte l 10 < 0
    · rw [if_pos h1, if_pos h1]
      by_cases hk2 : k = n - 1
      · simp [h0, hk2]; omega
      · have : k < n - 1 := by omega
        simp [h0, hk2, this]
    · rw [if_neg h1, if_neg h1]
      by_cases h2 : Lib.indexByte l 10 = l.length - 1
      · simp [h0, h2]; omega
      · have h3 : Lib.indexByte l 10 < l.length - 1 := by omega
        simp [h2, h3]
end Go.Proofs.YtkgcpndnlefkoaaGreatDoor
/- Rows of files, one behind the other. No statement is proved here. -/
namespace Go.Proofs.YtkgcpndnlefkoaaGreatDoor.Fl
open Go.ChangeShapes Go.WideShapes Go.ChangeAt Go.RowKit

theorem ocell_app (l m : List Ob) (j : Nat) : ocell (l ++ m) (l.length * 3 + j) = ocell m j := by
  unfold ocell
  have e1 : (l.length * 3 + j) % 3 = j % 3 := by omega
  have e2 : (l.length * 3 + j) / 3 = l.length + j / 3 := by omega
  rw [e1, e2]
  have e3 : (l ++ m).getD (l.length + j / 3) onil = m.getD (j / 3) onil := by rw [List.getD, List.getD, List.getElem?_append_right (by omega), show l.length + j / 3 - l.length = j / 3 by omega]
  rw [e3]
theorem ocell_left (l m : List Ob) (j : Nat) (h : j < l.length * 3) : ocell (l ++ m) j = ocell l j := by
  unfold ocell
  have h3 : j / 3 < l.length := by omega
  have e3 : (l ++ m).getD (j / 3) onil = l.getD (j / 3) onil := by simp [List.getD, List.getElem?_append_left h3]
  rw [e3]
theorem ocells_app (l m : List Ob) : ocells (l ++ m) = ocells l ++ ocells m := by
  unfold ocells
  rw [List.length_append, Nat.add_mul, rowG_append]
  congr 1
  · exact rowG_congr fun j hj => ocell_left l m j hj
  · exact rowG_congr fun j _ => ocell_app l m j
theorem ocells_one (o : Ob) : ocells [o] = [.string o.1, .int .i64 o.2.1, .string o.2.2] := by
  unfold ocells rowG
  show (List.range 3).map (ocell [o]) = _
  rw [show List.range 3 = [0, 1, 2] from rfl]
  simp [ocell]
end Go.Proofs.YtkgcpndnlefkoaaGreatDoor.Fl
/- The contract of strings.IndexByte over this seat's program. No statement is proved here. -/
namespace Go.Proofs.YtkgcpndnlefkoaaGreatDoor
open Go.ChangeShapes Go.WideShapes Go.ChangeAt Go.RowKit

theorem idxEntry (s : ByteArray) (c : Int) (w : World) :
    (callFunc 104 #[.string s, .int .u8 c]).run Tryz.prog w = .ok (.value (.int .i64 (Lib.indexByte s.data.toList c.toNat.toUInt8))) w := by
  rw [run_callFunc_extern Tryz.func104 (by kernel_rfl) (by kernel_rfl) (by kernel_rfl) (e := Extern.BytealgIndexByte.indexByte) (by kernel_rfl), Lib.run_indexByteString]
  rfl

theorem indexByte (s : ByteArray) (c : Int) (w : World) :
    Calls Tryz.prog 87 #[.string s, .int .u8 c] w fun e w' => e = .returned (.int .i64 (Lib.indexByte s.data.toList c.toNat.toUInt8)) ∧ w' = w := by
  have h := idxEntry s c
  go_enter Tryz.func87, Tryz.ntmps87
  go_wp2
  go_ret
  exact ⟨rfl, rfl⟩
end Go.Proofs.YtkgcpndnlefkoaaGreatDoor
/- Plain mathematics of the lines of a text. No statement is proved here. -/
namespace Go.Proofs.YtkgcpndnlefkoaaGreatDoor
open Go.RowKit

/-- The lines of a text: what a line feed ends, it being the last byte, and what is behind the last one, if it is not empty. -/
def spl : List UInt8 → List (List UInt8)
  | [] => []
  | c :: l => if c = 10 then [c] :: spl l else match spl l with
    | [] => [[c]]
    | x :: xs => (c :: x) :: xs
theorem spl_feed (a r : List UInt8) (h : ¬ (10 : UInt8) ∈ a) : spl (a ++ 10 :: r) = (a ++ [10]) :: spl r := by
  induction a with
  | nil => simp [spl]
  | cons c a ih =>
    have hc : ¬ c = 10 := fun e => h (by simp [e])
    have := ih (fun hm => h (List.mem_cons_of_mem _ hm))
    rw [List.cons_append, spl, if_neg hc, this]
    rfl
theorem spl_one (a : List UInt8) (h : ¬ (10 : UInt8) ∈ a) (h0 : a ≠ []) : spl a = [a] := by
  induction a with
  | nil => exact absurd rfl h0
  | cons c a ih =>
    have hc : ¬ c = 10 := fun e => h (by simp [e])
    rw [spl, if_neg hc]
    cases a with
    | nil => rfl
    | cons d a => rw [ih (fun hm => h (List.mem_cons_of_mem _ hm)) (by simp)]
theorem spl_length (l : List UInt8) : (spl l).length ≤ l.length := by
  induction l with
  | nil => simp [spl]
  | cons c l ih =>
    rw [spl]
    split
    · simpa using ih
    · split
      · simp
      · rename_i x xs h
        rw [h] at ih
        simp at ih ⊢
        omega

def mkB (l : List UInt8) : ByteArray := ⟨l.toArray⟩
theorem mkB_data (l : List UInt8) : (mkB l).data.toList = l := rfl
theorem mkB_eq (s : ByteArray) : mkB s.data.toList = s := by cases s; rfl
/-- The lines from place k on. -/
def linesFrom (s : ByteArray) (k : Nat) : List ByteArray := (spl (s.data.toList.drop k)).map mkB
def linesOf (s : ByteArray) : List ByteArray := linesFrom s 0
/-- Where the line that begins at k ends. -/
def endOf (s : ByteArray) (k : Nat) : Nat := if Lib.indexByte (s.data.toList.drop k) 10 < 0 then s.size else k + (Lib.indexByte (s.data.toList.drop k) 10).toNat + 1
theorem extract_data (s : ByteArray) (a b : Nat) : (s.extract a b).data.toList = (s.data.toList.drop a).take (b - a) := by
  simp [ByteArray.data_extract, List.extract_eq_take_drop]
theorem size_eq (s : ByteArray) : s.data.toList.length = s.size := by simp
theorem extract_size_le (s : ByteArray) (a b : Nat) : (s.extract a b).size ≤ s.size := by
  rw [← size_eq, extract_data, List.length_take, List.length_drop, size_eq]; omega
theorem linesFrom_end (s : ByteArray) (k : Nat) (h : s.size ≤ k) : linesFrom s k = [] := by
  unfold linesFrom
  rw [List.drop_of_length_le (by rw [size_eq]; exact h)]
  rfl
theorem indexByte_split (l : List UInt8) (c : UInt8) (h : ¬ Lib.indexByte l c < 0) :
    ¬ c ∈ l.take (Lib.indexByte l c).toNat ∧ l = l.take (Lib.indexByte l c).toNat ++ c :: l.drop ((Lib.indexByte l c).toNat + 1) ∧ (Lib.indexByte l c).toNat < l.length := by
  induction l with
  | nil => exact absurd (by simp [Lib.indexByte]) h
  | cons b l ih =>
    by_cases hb : (b == c) = true
    · have e : b = c := by simpa using hb
      have : Lib.indexByte (b :: l) c = 0 := by unfold Lib.indexByte; rw [if_pos hb]
      rw [this]
      simp [e]
    · have hne : ¬ c = b := by intro e; exact hb (by simp [e])
      have hg := Lib.indexByte_ge l c
      have hval : Lib.indexByte (b :: l) c = if (Lib.indexByte l c == -1) = true then -1 else Lib.indexByte l c + 1 := by
        rw [Lib.indexByte]
        rw [if_neg hb]
      by_cases h1 : (Lib.indexByte l c == -1) = true
      · rw [hval, if_pos h1] at h
        exact absurd (by omega) h
      · have h2 : ¬ Lib.indexByte l c = -1 := by simpa using h1
        have h3 : ¬ Lib.indexByte l c < 0 := by omega
        obtain ⟨i1, i2, i3⟩ := ih h3
        have e : (Lib.indexByte (b :: l) c).toNat = (Lib.indexByte l c).toNat + 1 := by rw [hval, if_neg h1]; omega
        rw [e]
        refine ⟨?_, ?_, ?_⟩
        · simp only [List.take_succ_cons, List.mem_cons, hne, false_or]; exact i1
        · simp only [List.take_succ_cons, List.drop_succ_cons, List.cons_append]
          rw [← i2]
        · simp; omega
theorem take_mid (a r : List UInt8) (c : UInt8) : (a ++ c :: r).take (a.length + 1) = a ++ [c] := by
  rw [List.take_append, List.take_of_length_le (by omega)]
  simp
theorem endOf_bd (s : ByteArray) (k : Nat) (h : k < s.size) : k < endOf s k ∧ endOf s k ≤ s.size := by
  unfold endOf
  by_cases hneg : Lib.indexByte (s.data.toList.drop k) 10 < 0
  · rw [if_pos hneg]; exact ⟨h, Nat.le_refl _⟩
  · rw [if_neg hneg]
    have := (indexByte_split _ _ hneg).2.2
    rw [List.length_drop, size_eq] at this
    omega
/-- The lines from k on: the one that begins there, and those from its end on. -/
theorem linesFrom_step (s : ByteArray) (k : Nat) (h : k < s.size) : linesFrom s k = s.extract k (endOf s k) :: linesFrom s (endOf s k) := by
  have hx : s.extract k (endOf s k) = mkB ((s.data.toList.drop k).take (endOf s k - k)) := by
    apply WideShapes.bytes_inj
    rw [extract_data, mkB_data]
  rw [hx]
  unfold linesFrom
  rw [← List.map_cons]
  congr 1
  unfold endOf
  by_cases hneg : Lib.indexByte (s.data.toList.drop k) 10 < 0
  · rw [if_pos hneg]
    have hl : (s.data.toList.drop k).length = s.size - k := by rw [List.length_drop, size_eq]
    rw [List.take_of_length_le (by omega), List.drop_of_length_le (i := s.size) (by rw [size_eq]; exact Nat.le_refl _)]
    have hn : ¬ (10 : UInt8) ∈ s.data.toList.drop k := fun hm => by have := (indexByte_mem _ _).2 hm; omega
    rw [spl_one _ hn (by intro e; rw [e] at hl; simp at hl; omega)]
    rfl
  · rw [if_neg hneg]
    obtain ⟨i1, i2, i3⟩ := indexByte_split _ _ hneg
    generalize hj : (Lib.indexByte (s.data.toList.drop k) 10).toNat = j at *
    have e1 : k + j + 1 - k = j + 1 := by omega
    have e2 : s.data.toList.drop (k + j + 1) = (s.data.toList.drop k).drop (j + 1) := by rw [List.drop_drop]; congr 1
    rw [e1, e2]
    conv => lhs; rw [i2]
    rw [spl_feed _ _ i1]
    congr 1
    have ha : ((s.data.toList.drop k).take j).length = j := by rw [List.length_take]; omega
    have := take_mid ((s.data.toList.drop k).take j) ((s.data.toList.drop k).drop (j + 1)) 10
    rw [← i2, ha] at this
    exact this.symm
end Go.Proofs.YtkgcpndnlefkoaaGreatDoor
