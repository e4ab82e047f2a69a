/- Numbers and words of a patch's text. Plain mathematics; spec.l3Word and spec.l3Number. No statement is proved here. -/
import Derived.Test.YtbghdelpnodijaaDoorRows
import Derived.Test.YtbghdelpnodijaaDoorLem
import Derived.Test.YtbghdelpnodijaaDoorStrs
import Derived.Test.YtbghdelpnodijaaDoorLFLem
import Derived.WalkKit
import Derived.ProofKit
import Derived.Below
import Derived.WalkSpells
set_option linter.unusedVariables false
namespace Go.Proofs.YtbghdelpnodijaaDoor.Pp
open Go.ChangeShapes Go.WideShapes Go.ChangeAt Go.RowKit

/-- Where a word at a place ends; -1: it is not there. -/
def wd (t w : ByteArray) (a : Nat) : Int := if t.extract a (a + w.size) = w then (a + w.size : Nat) else -1
theorem wd_yes {t w : ByteArray} {a : Nat} (h : t.extract a (a + w.size) = w) : wd t w a = ((a + w.size : Nat) : Int) := if_pos h
theorem wd_no {t w : ByteArray} {a : Nat} (h : ¬ t.extract a (a + w.size) = w) : wd t w a = -1 := if_neg h
theorem ext_size (t : ByteArray) (a b : Nat) : (t.extract a b).size = min b t.size - a := by simp
theorem wd_long {t w : ByteArray} {a : Nat} (hw : 0 < w.size) (h : t.size < a + w.size) : ¬ t.extract a (a + w.size) = w := fun e => by
  have := congrArg ByteArray.size e
  rw [ext_size] at this
  omega
set_option maxHeartbeats 1000000 in
theorem l3Word (t w : ByteArray) (a : Nat) (W : World) (ht : t.size ≤ 1048576) (hw : 0 < w.size) (hw2 : w.size ≤ 1000) (ha : a ≤ t.size) :
    Calls Tryd.prog 44 #[.string t, .int .i64 a, .string w] W fun e W' => e = .returned (.int .i64 (wd t w a)) ∧ W' = W := by
  have qa : decide ((a : Int) < 0) = false := decide_eq_false (by omega)
  have qb : ¬ (a : Int) < 0 := by omega
  by_cases hl : t.size < a + w.size
  · have HR : Hid (wd t w a = -1) := wd_no (wd_long hw hl)
    have q1 : ((t.size : Nat) : Int) < (a : Int) + (w.size : Int) := by omega
    go_enter Tryd.func44, Tryd.ntmps44
    go_wp2
    go_ret
    exact ⟨ret_int HR.out.symm, rfl⟩
  · have q1 : ¬ ((t.size : Nat) : Int) < (a : Int) + (w.size : Int) := by omega
    have q2 : (a : Int) + (w.size : Int) ≤ (t.size : Int) := by omega
    have q3 : ((a : Int) + (w.size : Int)).toNat = a + w.size := by omega
    by_cases he : t.extract a (a + w.size) = w
    · have HR : Hid (wd t w a = (a : Int) + (w.size : Int)) := by show _ = _; rw [wd_yes he]; push_cast; rfl
      have hb : ((t.extract a (a + w.size)).toList == w.toList) = true := beq_bytes_true he
      clear he
      go_enter Tryd.func44, Tryd.ntmps44
      go_wp2
      go_ret
      exact ⟨ret_int HR.out.symm, rfl⟩
    · have HR : Hid (wd t w a = -1) := wd_no he
      have hb : ((t.extract a (a + w.size)).toList == w.toList) = false := beq_bytes_false he
      clear he
      go_enter Tryd.func44, Tryd.ntmps44
      go_wp2
      go_ret
      exact ⟨ret_int HR.out.symm, rfl⟩
def isDg (c : UInt8) : Bool := decide (48 ≤ c.toNat ∧ c.toNat ≤ 57)
def dgs (l : List UInt8) : List UInt8 := l.takeWhile isDg
def dval (d : List UInt8) : Nat := d.foldl (fun a c => a * 10 + (c.toNat - 48)) 0
/-- A number may stand there. -/
def okN (l : List UInt8) : Bool := decide (1 ≤ (dgs l).length ∧ (dgs l).length ≤ 4 ∧ ¬ (1 < (dgs l).length ∧ l.head? = some 48))
def nmV (t : ByteArray) (a : Nat) : Int := if okN (t.data.toList.drop a) = true then dval (dgs (t.data.toList.drop a)) else 0
def nmE (t : ByteArray) (a : Nat) : Int := if okN (t.data.toList.drop a) = true then ((a + (dgs (t.data.toList.drop a)).length : Nat) : Int) else -1
theorem dgs_take : ∀ (l : List UInt8) (k : Nat), (∀ x ∈ l.take k, isDg x = true) → k ≤ l.length → (k = l.length ∨ ∃ c, l[k]? = some c ∧ isDg c = false) → dgs l = l.take k := by
  intro l
  induction l with
  | nil => intro k _ hk _; simp [dgs]
  | cons c l ih =>
    intro k h hk hs
    cases k with
    | zero =>
      rcases hs with e | ⟨x, e, hx⟩
      · simp at e
      · simp at e
        subst e
        simp [dgs, hx]
    | succ k =>
      have hc : isDg c = true := h c (by simp)
      have := ih k (fun x hx => h x (by simp [hx])) (by simpa using hk) (by
        rcases hs with e | ⟨x, e, hx⟩
        · left; simpa using e
        · right; exact ⟨x, by simpa using e, hx⟩)
      unfold dgs at this ⊢
      rw [List.takeWhile_cons, if_pos hc, this]
      simp
theorem dgs_five (l : List UInt8) (h : ∀ x ∈ l.take 5, isDg x = true) (hl : 5 ≤ l.length) : 5 ≤ (dgs l).length := by
  match l, hl with
  | a :: b :: c :: d :: e :: r, _ =>
    have h0 := h a (by simp)
    have h1 := h b (by simp)
    have h2 := h c (by simp)
    have h3 := h d (by simp)
    have h4 := h e (by simp)
    unfold dgs
    simp only [List.takeWhile_cons, h0, h1, h2, h3, h4, if_true, List.length_cons]
    omega
theorem dval_snoc (d : List UInt8) (c : UInt8) : dval (d ++ [c]) = dval d * 10 + (c.toNat - 48) := by unfold dval; rw [List.foldl_append]; rfl
theorem fold_bd : ∀ (d : List UInt8) (acc n : Nat), (∀ x ∈ d, isDg x = true) → acc < 10 ^ n → d.foldl (fun a c => a * 10 + (c.toNat - 48)) acc < 10 ^ (n + d.length) := by
  intro d
  induction d with
  | nil => intro acc n _ h; simpa using h
  | cons c d ih =>
    intro acc n h ha
    have h2 := of_decide_eq_true (h c (by simp))
    have h3 := ih (acc * 10 + (c.toNat - 48)) (n + 1) (fun x hx => h x (by simp [hx])) (by rw [Nat.pow_succ]; omega)
    rw [List.foldl_cons, List.length_cons]
    have e : n + (d.length + 1) = n + 1 + d.length := by omega
    rw [e]
    exact h3
theorem dval_bd (d : List UInt8) (h : ∀ x ∈ d, isDg x = true) : dval d < 10 ^ d.length := by
  have := fold_bd d 0 0 h (by decide)
  simpa [dval] using this
end Go.Proofs.YtbghdelpnodijaaDoor.Pp
