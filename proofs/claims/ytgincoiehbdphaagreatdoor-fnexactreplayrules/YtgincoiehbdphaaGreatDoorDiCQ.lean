/- The contracts of InDir (the program's and the specification's). No statement is proved here. -/
import Derived.Test.YtgincoiehbdphaaGreatDoorFlLQ
import Derived.Test.YtgincoiehbdphaaGreatDoorIxMQ
import Derived.Test.YtgincoiehbdphaaGreatDoorFmCQ
namespace Go.Proofs.YtgincoiehbdphaaGreatDoor
open Go.ChangeShapes Go.WideShapes Go.ChangeAt Go.RowKit
def inD (p d : ByteArray) : Bool := decide (d.size + 1 < p.size) && ((p.extract 0 (d.size + 1)).toList == (d ++ (⟨#[47]⟩ : ByteArray)).toList)
end Go.Proofs.YtgincoiehbdphaaGreatDoor
namespace Go.Proofs.YtgincoiehbdphaaGreatDoor.Fl
open Go.ChangeShapes Go.WideShapes Go.ChangeAt Go.RowKit
def tkU (l : List Ob) (p : ByteArray) (n : Nat) : Bool := (List.range n).any (fun k => inD p (l.getD k onil).1)
def tk (l : List Ob) (p : ByteArray) : Bool := tkU l p l.length
end Go.Proofs.YtgincoiehbdphaaGreatDoor.Fl
namespace Go.Proofs.YtgincoiehbdphaaGreatDoor.En
open Go.ChangeShapes Go.WideShapes Go.ChangeAt Go.RowKit
theorem byL_irr : ∀ a : List UInt8, Op.bytesLess a a = false
 | [] => rfl
 | x :: a => by
  have ih := byL_irr a
  unfold Op.bytesLess
  have h1 : ¬ x < x := fun h => by have : x.toNat < x.toNat := h; omega
  simp [h1, ih]
theorem byL_trans : ∀ a b c : List UInt8, Op.bytesLess a b = true -> Op.bytesLess b c = true -> Op.bytesLess a c = true
 | [], [], _, h, _ => by simp [Op.bytesLess] at h
 | [], _ :: _, [], _, h => by simp [Op.bytesLess] at h
 | [], _ :: _, _ :: _, _, _ => rfl
 | _ :: _, [], _, h, _ => by simp [Op.bytesLess] at h
 | _ :: _, _ :: _, [], _, h => by simp [Op.bytesLess] at h
 | x :: a, y :: b, z :: c, h1, h2 => by
  have ih := byL_trans a b c
  unfold Op.bytesLess at h1 h2 ⊢
  by_cases xy : x < y
  ·by_cases yz : y < z
   ·have xz : x < z := by have a1 : x.toNat < y.toNat := xy; have a2 : y.toNat < z.toNat := yz; exact (show x.toNat < z.toNat by omega)
    simp [xz]
   ·by_cases e : y = z
    ·subst e; simp [xy]
    ·simp [yz, e] at h2
  ·by_cases e : x = y
   ·subst e
    by_cases yz : x < z
    ·simp [yz]
    ·by_cases e2 : x = z
     ·subst e2
      simp [xy] at h1 h2 ⊢
      exact ih h1 h2
     ·simp [yz, e2] at h2
   ·simp [xy, e] at h1
theorem cmL_anti : ∀ a b : List UInt8, Lib.compareBytes a b = 1 -> Lib.compareBytes b a = -1
 | [], [], h => by simp [Lib.compareBytes] at h
 | [], _ :: _, h => by simp [Lib.compareBytes] at h
 | _ :: _, [], _ => rfl
 | x :: a, y :: b, h => by
  have ih := cmL_anti a b
  unfold Lib.compareBytes at h ⊢
  by_cases h1 : x < y
  ·simp [h1] at h
  ·by_cases h2 : y < x
   ·simp [h2]
   ·simp [h1, h2] at h ⊢
    exact ih h
theorem cm_anti (a b : ByteArray) (h : cmB a b = 1) : cmB b a = -1 := cmL_anti _ _ h
theorem cmB_lt {a b : ByteArray} : cmB a b < 0 ↔ Op.bytesLess a.toList b.toList = true := by
 rcases cmB_cases a b with ⟨h1, h2, _⟩ | ⟨h1, h2⟩ | ⟨h1, h2, _⟩
 ·rw [h1, h2]; simp
 ·rw [h1, h2, byL_irr]; simp
 ·rw [h1, h2]; simp
theorem cmB_trans {a b c : ByteArray} (h1 : cmB a b < 0) (h2 : cmB b c < 0) : cmB a c < 0 := by
 rw [cmB_lt] at *
 exact byL_trans _ _ _ h1 h2
theorem cmB_zero {a b : ByteArray} : cmB a b = 0 ↔ a = b := by
 rcases cmB_cases a b with ⟨h1, _, h3⟩ | ⟨h1, h2⟩ | ⟨h1, _, h3⟩
 ·refine ⟨fun h => by omega, fun h => ?_⟩
  rw [beq_bytes_true h] at h3; cases h3
 ·exact ⟨fun _ => h2, fun _ => h1⟩
 ·refine ⟨fun h => by omega, fun h => ?_⟩
  rw [beq_bytes_true h] at h3; cases h3
theorem cmI_lt {a b : Int} : cmI a b < 0 ↔ a < b := by
 unfold cmI
 by_cases h : a < b
 ·simp [h]
 ·rw [if_neg h]
  by_cases h2 : b < a
  ·rw [if_pos h2]; omega
  ·rw [if_neg h2]; omega
theorem cmE_lt {a b : Ob} : cmE a b < 0 ↔ cmB a.1 b.1 < 0 \/ (a.1 = b.1 /\ a.2.1 < b.2.1) := by
 unfold cmE
 by_cases h : cmB a.1 b.1 = 0
 ·rw [if_pos h, cmI_lt]
  have e := cmB_zero.1 h
  constructor
  ·intro q; exact .inr ⟨e, q⟩
  ·rintro (q | ⟨_, q⟩)
   ·omega
   ·exact q
 ·rw [if_neg h]
  constructor
  ·intro q; exact .inl q
  ·rintro (q | ⟨e, _⟩)
   ·exact q
   ·exact absurd (cmB_zero.2 e) h
theorem cmE_trans {a b c : Ob} (h1 : cmE a b < 0) (h2 : cmE b c < 0) : cmE a c < 0 := by
 rw [cmE_lt] at *
 rcases h1 with h1 | ⟨e1, h1⟩
 ·rcases h2 with h2 | ⟨e2, _⟩
  ·exact .inl (cmB_trans h1 h2)
  ·rw [<- e2]; exact .inl h1
 ·rcases h2 with h2 | ⟨e2, h2⟩
  ·rw [e1]; exact .inl h2
  ·exact .inr ⟨e1.trans e2, by omega⟩
theorem ix_rises {l : List Ob} (h : ixf l = 0) : ∀ k j, j < k -> k < l.length -> cmE (l.getD j onil) (l.getD k onil) < 0 := by
 have h0 := (ixf_zero h).2
 intro k
 induction k with
 | zero => intro j hj; omega
 | succ k ih =>
  intro j hj hk
  have hb := (eiF_zero (h0 (k + 1) hk)).2 (by omega)
  have hs : cmE (l.getD k onil) (l.getD (k + 1) onil) < 0 := by
   unfold bh at hb
   rw [Nat.add_sub_cancel] at hb
   exact of_decide_eq_true (Bool.and_eq_true_iff.1 hb).1
  by_cases e : j = k
  ·rw [e]; exact hs
  ·exact cmE_trans (ih j (by omega) (by omega)) hs
end Go.Proofs.YtgincoiehbdphaaGreatDoor.En
namespace Go.Proofs.YtgincoiehbdphaaGreatDoor.Fl
open Go.ChangeShapes Go.WideShapes Go.ChangeAt Go.RowKit
end Go.Proofs.YtgincoiehbdphaaGreatDoor.Fl
