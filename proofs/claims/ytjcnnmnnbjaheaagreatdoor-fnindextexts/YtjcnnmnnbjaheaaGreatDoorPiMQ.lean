/- The text of an index read back: what both readers make of it. Plain mathematics. No statement is proved here. -/
import Derived.Test.YtjcnnmnnbjaheaaGreatDoorRows
import Derived.Test.YtjcnnmnnbjaheaaGreatDoorLemQ
import Derived.Test.YtjcnnmnnbjaheaaGreatDoorLFLemQ
import Derived.Test.YtjcnnmnnbjaheaaGreatDoorCutLQ
import Derived.Test.YtjcnnmnnbjaheaaGreatDoorXtFQ
import Derived.Test.YtjcnnmnnbjaheaaGreatDoorDtLQ
import Derived.Test.YtjcnnmnnbjaheaaGreatDoorHkTQ
import Derived.Test.YtjcnnmnnbjaheaaGreatDoorIxMQ
import Derived.Test.YtjcnnmnnbjaheaaGreatDoorTrWQ
import Derived.Test.YtjcnnmnnbjaheaaGreatDoorIxBQ
namespace Go.Proofs.YtjcnnmnnbjaheaaGreatDoor.En
open Go.ChangeShapes Go.WideShapes Go.ChangeAt Go.RowKit

/-- The entry that four words make, and the one that a line makes. -/
def eFour (a b c d : List UInt8) : Option Ob := match a with
  | [x] => if (48 ≤ x.toNat ∧ x.toNat ≤ 51) ∧ (Te.md b = 1 ∨ Te.md b = 2) ∧ ¬ c = [] ∧ ¬ d = [] then some (mkB d, (x.toNat : Int) - 48, Te.md b, mkB c) else none
  | _ => none
def eOf : List (List UInt8) → Option Ob
  | [a, b, c, d] => eFour a b c d
  | _ => none
def entL (x : List UInt8) : Option Ob := if x.getLast? = some 10 then eOf (cutL 32 x.dropLast) else none
/-- The entries that stand ahead, line by line. -/
def ahead : List (List UInt8) → List Ob
  | [] => []
  | x :: xs => match entL x with
    | none => []
    | some o => o :: ahead xs
theorem ahead_none {x : List UInt8} {xs : List (List UInt8)} (h : entL x = none) : ahead (x :: xs) = [] := by simp [ahead, h]
theorem ahead_some {x : List UInt8} {xs : List (List UInt8)} {o : Ob} (h : entL x = some o) : ahead (x :: xs) = o :: ahead xs := by simp [ahead, h]
theorem ahead_len : ∀ xs : List (List UInt8), (ahead xs).length ≤ xs.length
  | [] => Nat.le_refl _
  | x :: xs => by
    cases h : entL x with
    | none => rw [ahead_none h]; exact Nat.zero_le _
    | some o => rw [ahead_some h, List.length_cons, List.length_cons]; exact Nat.succ_le_succ (ahead_len xs)
theorem ahead_app : ∀ xs ys : List (List UInt8), (ahead xs).length = xs.length → ahead (xs ++ ys) = ahead xs ++ ahead ys
  | [], _, _ => rfl
  | x :: xs, ys, h => by
    cases e : entL x with
    | none => rw [ahead_none e] at h; simp at h
    | some o =>
      rw [ahead_some e, List.length_cons, List.length_cons] at h
      rw [List.cons_append, ahead_some e, ahead_some e, ahead_app xs ys (by omega), List.cons_append]
theorem ahead_snoc {xs : List (List UInt8)} {x : List UInt8} {o : Ob} (h : (ahead xs).length = xs.length) (e : entL x = some o) : ahead (xs ++ [x]) = ahead xs ++ [o] := by
  rw [ahead_app _ _ h, ahead_some e]; rfl
theorem ahead_stop {xs ys : List (List UInt8)} {x : List UInt8} (h : (ahead xs).length = xs.length) (e : entL x = none) : ahead (xs ++ x :: ys) = ahead xs := by
  rw [ahead_app _ _ h, ahead_none e, List.append_nil]
/-- A sum line. -/
def dig1 (c : UInt8) : Bool := decide (48 ≤ c.toNat ∧ c.toNat ≤ 57)
def sumS (y : List UInt8) : Bool := (y.take 4 == [115, 117, 109, 32]) && decide (1 ≤ (y.drop 4).length ∧ (y.drop 4).length ≤ 5) && (y.drop 4).all dig1
def sumT (b : List UInt8) : Bool := decide (b.getLast? = some 10) && sumS b.dropLast
/-- What is read of a text: its entries, what is behind them, whether that is a sum line. -/
def pA (s : ByteArray) : List Ob := ahead (spl s.data.toList)
def pR (s : ByteArray) : List UInt8 := ((spl s.data.toList).drop (pA s).length).flatten
def pcS (s : ByteArray) : Int := if sumT (pR s) = true then (if ixf (pA s) = 0 then (if xB (pA s) = s then 0 else 6) else ixf (pA s)) else 5
def pC (s : ByteArray) : Int := if 12000 < s.size then 2 else pcS s
def pAt (s : ByteArray) : Int := if 12000 < s.size then 0 else if sumT (pR s) = true then 0 else ((pA s).length : Int)
def pE (s : ByteArray) : List Ob := if pC s = 0 then pA s else []
theorem p_many {s : ByteArray} (h : 12000 < s.size) : pC s = 2 ∧ pAt s = 0 ∧ pE s = [] := by
  have e : pC s = 2 := if_pos h
  exact ⟨e, if_pos h, by unfold pE; rw [e]; rfl⟩
theorem p_text {s : ByteArray} (h : ¬ 12000 < s.size) (q : sumT (pR s) = false) : pC s = 5 ∧ pAt s = ((pA s).length : Int) ∧ pE s = [] := by
  have e : pC s = 5 := by unfold pC pcS; rw [if_neg h, q, if_neg (by decide)]
  exact ⟨e, by unfold pAt; rw [if_neg h, q, if_neg (by decide)], by unfold pE; rw [e]; rfl⟩
theorem p_fault {s : ByteArray} (h : ¬ 12000 < s.size) (q : sumT (pR s) = true) (f : ¬ ixf (pA s) = 0) : pC s = ixf (pA s) ∧ pAt s = 0 ∧ pE s = [] := by
  have e : pC s = ixf (pA s) := by unfold pC pcS; rw [if_neg h, if_pos q, if_neg f]
  exact ⟨e, by unfold pAt; rw [if_neg h, if_pos q], by unfold pE; rw [e, if_neg f]⟩
theorem p_clash {s : ByteArray} (h : ¬ 12000 < s.size) (q : sumT (pR s) = true) (f : ixf (pA s) = 0) (k : ¬ xB (pA s) = s) : pC s = 6 ∧ pAt s = 0 ∧ pE s = [] := by
  have e : pC s = 6 := by unfold pC pcS; rw [if_neg h, if_pos q, if_pos f, if_neg k]
  exact ⟨e, by unfold pAt; rw [if_neg h, if_pos q], by unfold pE; rw [e]; rfl⟩
theorem p_ok {s : ByteArray} (h : ¬ 12000 < s.size) (q : sumT (pR s) = true) (f : ixf (pA s) = 0) (k : xB (pA s) = s) : pC s = 0 ∧ pAt s = 0 ∧ pE s = pA s := by
  have e : pC s = 0 := by unfold pC pcS; rw [if_neg h, if_pos q, if_pos f, if_pos k]
  exact ⟨e, by unfold pAt; rw [if_neg h, if_pos q], by unfold pE; rw [e]; rfl⟩
/-- What is behind entries that stand ahead. -/
theorem pR_drop (s : ByteArray) : pR s = s.data.toList.drop (((spl s.data.toList).take (pA s).length).flatten).length := by
  have h := Te.spl_join s.data.toList
  rw [← List.take_append_drop (pA s).length (spl s.data.toList), List.flatten_append] at h
  have k := congrArg (List.drop (((spl s.data.toList).take (pA s).length).flatten).length) h
  rw [List.drop_left] at k
  exact k
/-- A line has no line feed but the last byte. -/
theorem spl_mem : ∀ (l x : List UInt8), x ∈ spl l → ¬ (10 : UInt8) ∈ x.dropLast ∧ x ≠ []
  | [], x, h => by simp [spl] at h
  | c :: l, x, h => by
    by_cases e : c = 10
    · rw [spl, if_pos e] at h
      rcases List.mem_cons.1 h with rfl | h
      · simp
      · exact spl_mem l x h
    · rw [spl, if_neg e] at h
      have ih := spl_mem l
      cases q : spl l with
      | nil =>
        rw [q] at h
        simp only [List.mem_singleton] at h
        subst h; simp
      | cons y ys =>
        rw [q] at h ih
        rcases List.mem_cons.1 h with rfl | h
        · have i := ih y List.mem_cons_self
          refine ⟨fun m => ?_, by simp⟩
          rw [List.dropLast_cons_of_ne_nil i.2] at m
          rcases List.mem_cons.1 m with m | m
          · exact e m.symm
          · exact i.1 m
        · exact ih x (List.mem_cons_of_mem _ h)
/-- All lines but the last one end with a line feed. -/
theorem spl_ended : ∀ (l : List UInt8) (k : Nat), k + 1 < (spl l).length → ∃ x, (spl l)[k]? = some x ∧ x.getLast? = some 10
  | [], k, h => by simp [spl] at h
  | c :: l, k, h => by
    by_cases e : c = 10
    · rw [spl, if_pos e] at h ⊢
      cases k with
      | zero => exact ⟨[c], rfl, by rw [e]; rfl⟩
      | succ k => exact spl_ended l k (by simpa using h)
    · rw [spl, if_neg e] at h ⊢
      cases q : spl l with
      | nil => rw [q] at h; simp at h
      | cons y ys =>
        rw [q] at h
        cases k with
        | zero =>
          obtain ⟨x, h1, h2⟩ := spl_ended l 0 (by rw [q]; simpa using h)
          rw [q] at h1
          obtain rfl : y = x := by simpa using h1
          refine ⟨c :: y, rfl, ?_⟩
          cases y with
          | nil => simp at h2
          | cons z zs => rw [List.getLast?_cons_cons]; exact h2
        | succ k =>
          obtain ⟨x, h1, h2⟩ := spl_ended l (k + 1) (by rw [q]; simpa using h)
          rw [q] at h1
          exact ⟨x, by simpa using h1, h2⟩
theorem dig1_no {c : UInt8} (h : dig1 c = true) : ¬ c = 10 := by
  intro e; subst e; revert h; decide
theorem sumT_feed {b : List UInt8} (h : sumT b = true) : ¬ (10 : UInt8) ∈ b.dropLast := by
  unfold sumT at h
  obtain ⟨_, h2⟩ := Bool.and_eq_true_iff.1 h
  unfold sumS at h2
  obtain ⟨h3, h4⟩ := Bool.and_eq_true_iff.1 h2
  obtain ⟨h5, _⟩ := Bool.and_eq_true_iff.1 h3
  intro m
  have e := List.take_append_drop 4 b.dropLast
  rw [← e] at m
  rcases List.mem_append.1 m with m | m
  · rw [eq_of_beq h5] at m; revert m; decide
  · exact dig1_no (List.all_eq_true.1 h4 _ m) rfl
/-- A sum line behind the entries is the last line. -/
theorem sum_last {ls : List (List UInt8)} {l : List UInt8} {k : Nat} (hl : ls = spl l) (h : sumT (ls.drop k).flatten = true) : k + 1 = ls.length ∧ ∃ x, ls[k]? = some x ∧ sumT x = true := by
  subst hl
  have hf := sumT_feed h
  have hne : (spl l).drop k ≠ [] := fun e => by rw [e] at h; revert h; decide
  have hk : k < (spl l).length := by
    rcases Nat.lt_or_ge k (spl l).length with q | q
    · exact q
    · exact absurd (List.drop_of_length_le q) hne
  rw [List.drop_eq_getElem_cons hk] at h hf
  by_cases q : k + 1 < (spl l).length
  · obtain ⟨x, hx, hx2⟩ := spl_ended l k q
    obtain ⟨_, rfl⟩ := List.getElem?_eq_some_iff.1 hx
    rw [List.drop_eq_getElem_cons q] at hf
    have hn := (spl_mem l _ (List.getElem_mem q)).2
    exfalso
    apply hf
    rw [List.flatten_cons, List.flatten_cons, List.dropLast_append_of_ne_nil (by simp [hn])]
    exact List.mem_append_left _ (List.mem_of_getLast? hx2)
  · rw [List.drop_of_length_le (i := k + 1) (by omega)] at h
    refine ⟨by omega, (spl l)[k], by rw [List.getElem?_eq_getElem hk], ?_⟩
    simpa using h
theorem sum_at {ls : List (List UInt8)} {k : Nat} {x : List UInt8} (hk : k + 1 = ls.length) (hx : ls[k]? = some x) : (ls.drop k).flatten = x := by
  obtain ⟨h, rfl⟩ := List.getElem?_eq_some_iff.1 hx
  rw [List.drop_eq_getElem_cons h, List.drop_of_length_le (i := k + 1) (by omega)]
  simp
end Go.Proofs.YtjcnnmnnbjaheaaGreatDoor.En
/- Lines that are entries, as the readers of an index's text meet them. Plain mathematics. No statement is proved here. -/
namespace Go.Proofs.YtjcnnmnnbjaheaaGreatDoor.En
open Go.ChangeShapes Go.WideShapes Go.ChangeAt Go.RowKit

theorem size_mk (l : List UInt8) : (mkB l).size = l.length := by rw [← size_eq, mkB_data]
theorem ent_open {x : ByteArray} (h : Te.endB x = false) : entL x.data.toList = none := if_neg (of_decide_eq_false h)
theorem un_data {x : ByteArray} (h : Te.endB x = true) : (Te.unT x).data.toList = x.data.toList.dropLast := by
  unfold Te.unT
  rw [if_pos h, mkB_data]
  unfold Te.trimL
  rw [if_pos (of_decide_eq_true h)]
theorem ent_end {x : ByteArray} (h : Te.endB x = true) : entL x.data.toList = eOf (cutL 32 (Te.unT x).data.toList) := by
  rw [un_data h]
  exact if_pos (of_decide_eq_true h)
theorem sum_open {x : ByteArray} (h : Te.endB x = false) : sumT x.data.toList = false := by
  unfold sumT
  have e : decide (x.data.toList.getLast? = some 10) = false := h
  rw [e]; rfl
theorem sum_end {x : ByteArray} (h : Te.endB x = true) : sumT x.data.toList = sumS (Te.unT x).data.toList := by
  unfold sumT
  have e : decide (x.data.toList.getLast? = some 10) = true := h
  rw [e, un_data h]; rfl
theorem eFour_size {a b c d : List UInt8} {o : Ob} (h : eFour a b c d = some o) : o = (mkB d, o.2.1, o.2.2.1, mkB c) := by
  unfold eFour at h
  split at h
  · split at h
    · cases h; rfl
    · cases h
  · cases h
theorem eOf_size {y : List UInt8} {o : Ob} (h : eOf (cutL 32 y) = some o) : o.1.size ≤ y.length ∧ o.2.2.2.size ≤ y.length := by
  have hm := cut_size 32 y
  generalize cutL 32 y = t at h hm
  match t, h with
  | [a, b, c, d], h =>
    have e := eFour_size h
    rw [e]
    exact ⟨by rw [size_mk]; exact hm d (by simp), by rw [size_mk]; exact hm c (by simp)⟩
theorem ent_size {x : List UInt8} {o : Ob} (h : entL x = some o) : o.1.size ≤ x.length ∧ o.2.2.2.size ≤ x.length := by
  unfold entL at h
  split at h
  · have k := eOf_size h
    have e := List.length_dropLast (xs := x)
    omega
  · cases h
theorem ahead_mem : ∀ {xs : List (List UInt8)} {o : Ob}, o ∈ ahead xs → ∃ x ∈ xs, entL x = some o
  | [], _, h => by cases h
  | x :: xs, o, h => by
    cases e : entL x with
    | none => rw [ahead_none e] at h; cases h
    | some p =>
      rw [ahead_some e] at h
      rcases List.mem_cons.1 h with rfl | h
      · exact ⟨x, List.mem_cons_self, e⟩
      · obtain ⟨y, hy, q⟩ := ahead_mem h
        exact ⟨y, List.mem_cons_of_mem _ hy, q⟩
theorem pA_small {s : ByteArray} (h : s.size ≤ 1048576) : SmallO (pA s) := by
  intro o ho
  obtain ⟨x, hx, e⟩ := ahead_mem ho
  have k := ent_size e
  have g := (List.sublist_flatten_of_mem hx).length_le
  rw [Te.spl_join, size_eq] at g
  omega
theorem spl_len_le : ∀ l : List UInt8, (spl l).length ≤ l.length
  | [] => Nat.le_refl _
  | c :: l => by
    have ih := spl_len_le l
    by_cases e : c = 10
    · rw [spl, if_pos e, List.length_cons, List.length_cons]; omega
    · rw [spl, if_neg e]
      cases q : spl l with
      | nil => simp
      | cons y ys => rw [q] at ih; simp only [List.length_cons] at ih ⊢; omega
theorem pA_len (s : ByteArray) : (pA s).length ≤ s.size := by
  have h1 := ahead_len (spl s.data.toList)
  have h2 : (spl s.data.toList).length ≤ s.data.toList.length := spl_len_le _
  rw [size_eq] at h2
  exact Nat.le_trans h1 h2
/-- How far the lines are read: the entries so far. -/
def Up (xs : List (List UInt8)) (k : Nat) (L : List Ob) : Prop := ahead (xs.take k) = L ∧ L.length = k
theorem Up.zero (xs : List (List UInt8)) : Up xs 0 [] := ⟨rfl, rfl⟩
theorem Up.more {xs : List (List UInt8)} {k : Nat} {L : List Ob} {x : List UInt8} {o : Ob} (h : Up xs k L) (hx : xs[k]? = some x) (e : entL x = some o) : Up xs (k + 1) (L ++ [o]) := by
  obtain ⟨hk, rfl⟩ := List.getElem?_eq_some_iff.1 hx
  have hl : (ahead (xs.take k)).length = (xs.take k).length := by rw [h.1, h.2, List.length_take]; omega
  refine ⟨?_, by simp [h.2]⟩
  rw [List.take_succ_eq_append_getElem hk, ahead_snoc hl e, h.1]
theorem Up.stop {xs : List (List UInt8)} {k : Nat} {L : List Ob} {x : List UInt8} (h : Up xs k L) (hx : xs[k]? = some x) (e : entL x = none) : ahead xs = L := by
  obtain ⟨hk, rfl⟩ := List.getElem?_eq_some_iff.1 hx
  have hl : (ahead (xs.take k)).length = (xs.take k).length := by rw [h.1, h.2, List.length_take]; omega
  have q : xs = xs.take k ++ xs[k] :: xs.drop (k + 1) := by rw [← List.drop_eq_getElem_cons hk, List.take_append_drop]
  have g := ahead_stop (ys := xs.drop (k + 1)) hl e
  rw [← q, h.1] at g
  exact g
theorem Up.all {xs : List (List UInt8)} {L : List Ob} (h : Up xs xs.length L) : ahead xs = L := by
  have e := h.1
  rw [List.take_length] at e
  exact e
theorem up_text {s : ByteArray} {k : Nat} {L : List Ob} {x : List UInt8} (hz : ¬ 12000 < s.size) (h : Up (spl s.data.toList) k L) (hx : (spl s.data.toList)[k]? = some x) (e : entL x = none) (n : ¬ (k + 1 = (spl s.data.toList).length ∧ sumT x = true)) : pC s = 5 ∧ pAt s = (k : Int) ∧ pE s = [] := by
  have hA : pA s = L := h.stop hx e
  have q : sumT (pR s) = false := by
    cases c : sumT (pR s) with
    | false => rfl
    | true =>
      exfalso
      unfold pR at c
      rw [hA, h.2] at c
      obtain ⟨h1, y, h2, h3⟩ := sum_last rfl c
      rw [hx] at h2
      cases h2
      exact n ⟨h1, h3⟩
  obtain ⟨a, b, c⟩ := p_text hz q
  exact ⟨a, by rw [b, hA, h.2], c⟩
theorem up_all {s : ByteArray} {L : List Ob} (hz : ¬ 12000 < s.size) (h : Up (spl s.data.toList) (spl s.data.toList).length L) : pC s = 5 ∧ pAt s = ((spl s.data.toList).length : Int) ∧ pE s = [] := by
  have hA : pA s = L := h.all
  have q : sumT (pR s) = false := by
    unfold pR
    rw [hA, h.2, List.drop_length]
    rfl
  obtain ⟨a, b, c⟩ := p_text hz q
  exact ⟨a, by rw [b, hA, h.2], c⟩
theorem up_sum {s : ByteArray} {k : Nat} {L : List Ob} {x : List UInt8} (h : Up (spl s.data.toList) k L) (hx : (spl s.data.toList)[k]? = some x) (e : entL x = none) (n : k + 1 = (spl s.data.toList).length) (q : sumT x = true) : pA s = L ∧ sumT (pR s) = true := by
  have hA : pA s = L := h.stop hx e
  refine ⟨hA, ?_⟩
  unfold pR
  rw [hA, h.2, sum_at n hx]
  exact q
end Go.Proofs.YtjcnnmnnbjaheaaGreatDoor.En
