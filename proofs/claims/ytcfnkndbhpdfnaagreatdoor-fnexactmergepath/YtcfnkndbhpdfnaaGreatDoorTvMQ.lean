/- Chunks of three texts whose sides are changed, or of which two are the same; and what a merge takes of them. Plain mathematics. No statement is proved here. -/
import Derived.Test.YtcfnkndbhpdfnaaGreatDoorMxIQ
import Derived.Test.YtcfnkndbhpdfnaaGreatDoorSsEQ
import Derived.Lib.ItoaNum
namespace Go.Proofs.YtcfnkndbhpdfnaaGreatDoor
open Go.RowKit
theorem ok_ends {l : List UInt8} (h : okLine l false = true) : endsL l = true := by
 rcases Rm.ok_inv h with ⟨a, _, rfl⟩ | ⟨_, _, h⟩
 ·unfold endsL; simp
 ·cases h
theorem jn_right : ∀ (ss : List ByteArray), Rm.Right (Rm.dat ss) -> jnF ss = Rm.catL ss
 | [], _ => rfl
 | [s], _ => by simp [jnF, Rm.catL]
 | s :: t :: r, h => by
  have ih := jn_right (t :: r) h.2
  have e : endL s = s.data.toList := by unfold endL; rw [if_pos (ok_ends h.1)]
  rw [jnF, ih, e]
  simp [Rm.catL]
theorem jn_lines (s : ByteArray) : (⟨(jnF (linesOf s)).toArray⟩ : ByteArray) = s := by
 have h : Rm.Right (Rm.dat (linesOf s)) := by
  rw [Rm.dat_lines]
  exact Rm.right_spl _ _ (Nat.le_refl _)
 rw [jn_right _ h]
 exact Rm.join_lines s
end Go.Proofs.YtcfnkndbhpdfnaaGreatDoor
set_option linter.unusedVariables false
namespace Go.Proofs.YtcfnkndbhpdfnaaGreatDoor.No
open Go.RowKit
def lsB (a b : ByteArray) : Bool := Op.bytesLess a.toList b.toList
theorem bl_irr : ∀ a : List UInt8, Op.bytesLess a a = false
 | [] => rfl
 | x :: a => by
  have := bl_irr a
  simp [Op.bytesLess, this]
theorem bl_trans : ∀ a b c : List UInt8, Op.bytesLess a b = true -> Op.bytesLess b c = true -> Op.bytesLess a c = true
 | _, [], _, h, _ => by simp [Op.bytesLess] at h
 | _, _ :: _, [], _, h => by simp [Op.bytesLess] at h
 | [], _ :: _, _ :: _, _, _ => rfl
 | x :: a, y :: b, z :: c, h, k => by
  simp only [Op.bytesLess, Bool.or_eq_true, Bool.and_eq_true, decide_eq_true_eq, beq_iff_eq] at h k ⊢
  rcases h with h | ⟨rfl, h⟩
  ·rcases k with k | ⟨rfl, k⟩
   ·exact .inl (UInt8.lt_trans h k)
   ·exact .inl h
  ·rcases k with k | ⟨rfl, k⟩
   ·exact .inl k
   ·exact .inr ⟨rfl, bl_trans a b c h k⟩
theorem bl_total : ∀ a b : List UInt8, Op.bytesLess a b = true \/ a = b \/ Op.bytesLess b a = true
 | [], [] => .inr (.inl rfl)
 | [], _ :: _ => .inl rfl
 | _ :: _, [] => .inr (.inr rfl)
 | x :: a, y :: b => by
  simp only [Op.bytesLess, Bool.or_eq_true, Bool.and_eq_true, decide_eq_true_eq, beq_iff_eq]
  by_cases h1 : x < y
  ·exact .inl (.inl h1)
  ·by_cases h2 : y < x
   ·exact .inr (.inr (.inl h2))
   ·have e : x = y := by
     apply UInt8.toNat_inj.1
     have a1 : ¬ x.toNat < y.toNat := h1
     have a2 : ¬ y.toNat < x.toNat := h2
     omega
    subst e
    rcases bl_total a b with h | h | h
    ·exact .inl (.inr ⟨rfl, h⟩)
    ·exact .inr (.inl (by rw [h]))
    ·exact .inr (.inr (.inr ⟨rfl, h⟩))
theorem gt_yes {a b : ByteArray} (h : lsB b a = true) : (Op.bytesLess a.toList b.toList || a.toList == b.toList) = false := by
 have h' : Op.bytesLess b.toList a.toList = true := h
 cases e : Op.bytesLess a.toList b.toList with
 | true => have := bl_trans _ _ _ e h'; rw [bl_irr] at this; cases this
 | false =>
  rw [Bool.false_or]
  cases e2 : (a.toList == b.toList) with
  | false => rfl
  | true => rw [eq_of_beq e2, bl_irr] at h'; cases h'
theorem gt_no {a b : ByteArray} (h : lsB b a = false) : (Op.bytesLess a.toList b.toList || a.toList == b.toList) = true := by
 have h' : Op.bytesLess b.toList a.toList = false := h
 rcases bl_total a.toList b.toList with e | e | e
 ·rw [e, Bool.true_or]
 ·rw [e]; simp
 ·rw [h'] at e; cases e
theorem tot_app (a b : List ByteArray) : tot (a ++ b) = tot a + tot b := by simp [tot]
end Go.Proofs.YtcfnkndbhpdfnaaGreatDoor.No
