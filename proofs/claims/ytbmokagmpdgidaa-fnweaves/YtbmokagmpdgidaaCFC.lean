/- The contracts of ChangesFault (the program's and the specification's) and of what they call. No statement is proved here. -/
import Derived.Test.YtbmokagmpdgidaaRows
import Derived.Test.YtbmokagmpdgidaaLem
import Derived.Test.YtbmokagmpdgidaaStrs
import Derived.Test.YtbmokagmpdgidaaIn
import Derived.Test.YtbmokagmpdgidaaLFLem
import Derived.Test.YtbmokagmpdgidaaLF
import Derived.Test.YtbmokagmpdgidaaCom
import Derived.Test.YtbmokagmpdgidaaAsked
import Derived.Test.YtbmokagmpdgidaaDTab
import Derived.Test.YtbmokagmpdgidaaFr
import Derived.Test.YtbmokagmpdgidaaChg
import Derived.Test.YtbmokagmpdgidaaEdC
import Derived.Test.YtbmokagmpdgidaaSpn
import Derived.WalkKit
import Derived.ProofKit
import Derived.Below
import Derived.WalkSpells
import Derived.Deep.QuietTactic
import Derived.BigQuiet
namespace Go.Proofs.Ytbmokagmpdgidaa
open Go.ChangeShapes Go.WideShapes Go.ChangeAt Go.RowKit

def inR (n m : Nat) (c : Chg) : Bool := inSpan c.1 c.2.1 n && inSpan c.2.2.1 c.2.2.2 m
def folB (c : Chg) (ea eb : Int) : Bool := decide (¬ (c.2.1 = 0 ∧ c.2.2.2 = 0) ∧ ea < c.1 ∧ c.1 - ea = c.2.2.1 - eb)
def endA (l : List Chg) (k : Nat) : Int := if k = 0 then -1 else (l.getD (k - 1) (0, 0, 0, 0)).1 + (l.getD (k - 1) (0, 0, 0, 0)).2.1
def endB (l : List Chg) (k : Nat) : Int := if k = 0 then -1 else (l.getD (k - 1) (0, 0, 0, 0)).2.2.1 + (l.getD (k - 1) (0, 0, 0, 0)).2.2.2
theorem endA_zero (l : List Chg) : endA l 0 = -1 := rfl
theorem endB_zero (l : List Chg) : endB l 0 = -1 := rfl
theorem endA_succ (l : List Chg) (k : Nat) : endA l (k + 1) = (l.getD k (0, 0, 0, 0)).1 + (l.getD k (0, 0, 0, 0)).2.1 := by simp [endA]
theorem endB_succ (l : List Chg) (k : Nat) : endB l (k + 1) = (l.getD k (0, 0, 0, 0)).2.2.1 + (l.getD k (0, 0, 0, 0)).2.2.2 := by simp [endB]
def codeAt (n m : Nat) (l : List Chg) (k : Nat) : Int := if inR n m (l.getD k (0, 0, 0, 0)) = true then (if folB (l.getD k (0, 0, 0, 0)) (endA l k) (endB l k) = true then 0 else 1) else 3
def cfF (n m : Nat) (l : List Chg) : Nat → Nat → Int
  | 0, _ => 0
  | f + 1, k => if codeAt n m l k = 0 then cfF n m l f (k + 1) else codeAt n m l k
/-- The code of a list of changes, over lines of the numbers n and m. -/
def cf (n m : Nat) (l : List Chg) : Int := cfF n m l l.length 0
theorem cfF_step (n m : Nat) (l : List Chg) (k : Nat) (h : k < l.length) : cfF n m l (l.length - k) k = if codeAt n m l k = 0 then cfF n m l (l.length - (k + 1)) (k + 1) else codeAt n m l k := by
  obtain ⟨f, hf⟩ : ∃ f, l.length - k = f + 1 := ⟨l.length - k - 1, by omega⟩
  rw [hf, cfF, show l.length - (k + 1) = f by omega]
theorem code_range {n m : Nat} {l : List Chg} {k : Nat} (h : inR n m (l.getD k (0, 0, 0, 0)) = false) : codeAt n m l k = 3 := by unfold codeAt; rw [if_neg (by rw [h]; simp)]
theorem code_form {n m : Nat} {l : List Chg} {k : Nat} (h : inR n m (l.getD k (0, 0, 0, 0)) = true) (h' : folB (l.getD k (0, 0, 0, 0)) (endA l k) (endB l k) = false) : codeAt n m l k = 1 := by unfold codeAt; rw [if_pos h, if_neg (by rw [h']; simp)]
theorem code_ok {n m : Nat} {l : List Chg} {k : Nat} (h : inR n m (l.getD k (0, 0, 0, 0)) = true) (h' : folB (l.getD k (0, 0, 0, 0)) (endA l k) (endB l k) = true) : codeAt n m l k = 0 := by unfold codeAt; rw [if_pos h, if_pos h']
/-- Where a change in its bounds ends. -/
theorem end_bd {n m : Nat} {c : Chg} (h : inR n m c = true) : 0 ≤ c.1 ∧ c.1 ≤ n ∧ 0 ≤ c.2.1 ∧ c.1 + c.2.1 ≤ n ∧ 0 ≤ c.2.2.1 ∧ c.2.2.1 ≤ m ∧ 0 ≤ c.2.2.2 ∧ c.2.2.1 + c.2.2.2 ≤ m := by
  simp only [inR, inSpan, Bool.and_eq_true, decide_eq_true_eq] at h
  omega

theorem allocB (w : World) (o : Obj) : Below w.heap.size w (w.alloc o) := (Below.refl _ _).alloc (Nat.le_refl _) _
set_option maxHeartbeats 400000 in
set_option maxHeartbeats 1000000 in
theorem followsOn (x0 x1 x2 x3 ea eb : Int) (w : World) (b0 : 0 ≤ x0 ∧ x0 ≤ 1000) (b2 : 0 ≤ x2 ∧ x2 ≤ 1000) (ba : -1 ≤ ea ∧ ea ≤ 1000) (bb : -1 ≤ eb ∧ eb ≤ 1000) :
    Calls Try.prog 62 #[.agg #[.int .i64 x0, .int .i64 x1, .int .i64 x2, .int .i64 x3], .int .i64 ea, .int .i64 eb] w fun e w' => e = .returned (.bool (folB (x0, x1, x2, x3) ea eb)) ∧ Below w.heap.size w w' := by
  obtain ⟨b01, b02⟩ := b0
  obtain ⟨b21, b22⟩ := b2
  obtain ⟨ba1, ba2⟩ := ba
  obtain ⟨bb1, bb2⟩ := bb
  by_cases h1 : x1 = 0
  · by_cases h3 : x3 = 0
    · have hE : Hid (folB (x0, x1, x2, x3) ea eb = false) := by show _ = _; simp [folB, h1, h3]
      have e1 : (x1 == 0) = true := by simp [h1]
      have e3 : (x3 == 0) = true := by simp [h3]
      clear h1 h3
      go_enter Try.func62, Try.ntmps62
      go_wp2
      go_ret
      exact ⟨ret_bool hE.out.symm, allocB _ _⟩
    · have e1 : (x1 == 0) = true := by simp [h1]
      have e3 : (x3 == 0) = false := by simp [h3]
      by_cases h4 : ea < x0
      · have hE : Hid (folB (x0, x1, x2, x3) ea eb = (x0 - ea == x2 - eb)) := by show _ = _; simp [folB, h3, h4]; rfl
        clear h1 h3
        go_enter Try.func62, Try.ntmps62
        go_wp2
        go_ret
        exact ⟨ret_bool hE.out.symm, allocB _ _⟩
      · have hE : Hid (folB (x0, x1, x2, x3) ea eb = false) := by show _ = _; simp [folB, h4]
        clear h1 h3
        go_enter Try.func62, Try.ntmps62
        go_wp2
        go_ret
        exact ⟨ret_bool hE.out.symm, allocB _ _⟩
  · have e1 : (x1 == 0) = false := by simp [h1]
    by_cases h4 : ea < x0
    · have hE : Hid (folB (x0, x1, x2, x3) ea eb = (x0 - ea == x2 - eb)) := by show _ = _; simp [folB, h1, h4]; rfl
      clear h1
      go_enter Try.func62, Try.ntmps62
      go_wp2
      go_ret
      exact ⟨ret_bool hE.out.symm, allocB _ _⟩
    · have hE : Hid (folB (x0, x1, x2, x3) ea eb = false) := by show _ = _; simp [folB, h4]
      clear h1
      go_enter Try.func62, Try.ntmps62
      go_wp2
      go_ret
      exact ⟨ret_bool hE.out.symm, allocB _ _⟩
end Go.Proofs.Ytbmokagmpdgidaa
