/- What a patch's text can hold: how many hunks and lines. Plain mathematics. No statement is proved here. -/
import Derived.Test.YtbghdelpnodijaaDoorRows
import Derived.Test.YtbghdelpnodijaaDoorLem
import Derived.Test.YtbghdelpnodijaaDoorHkL
import Derived.Test.YtbghdelpnodijaaDoorHkC
import Derived.Test.YtbghdelpnodijaaDoorHnL
import Derived.Test.YtbghdelpnodijaaDoorHrR
import Derived.Test.YtbghdelpnodijaaDoorPpM
import Derived.Test.YtbghdelpnodijaaDoorPpF
import Derived.Test.YtbghdelpnodijaaDoorPpR
import Derived.Test.YtbghdelpnodijaaDoorPpS
import Derived.Test.YtbghdelpnodijaaDoorPqQ
set_option linter.unusedVariables false
namespace Go.Proofs.YtbghdelpnodijaaDoor.Pp
open Go.ChangeShapes Go.WideShapes Go.ChangeAt Go.RowKit

theorem fstK_bd {t : ByteArray} {a : Nat} (ha : a ≤ t.size) : ∀ (k : Nat) (ns : List Int) (q : Nat), fstK t a k = some (ns, q) → a + k ≤ q ∧ q ≤ t.size := by
  intro k
  induction k with
  | zero =>
    intro ns q h
    have h' := Option.some.inj h
    have := congrArg Prod.snd h'
    simp only [] at this
    omega
  | succ k ih =>
    intro ns q h
    rw [fstK] at h
    cases e : fstK t a k with
    | none => rw [e] at h; cases h
    | some x =>
      obtain ⟨ms, p⟩ := x
      obtain ⟨h1, h2⟩ := ih ms p e
      rw [e] at h
      replace h : stp t k (ms, p) = some (ns, q) := h
      unfold stp at h
      simp only [] at h
      by_cases hw : wd t (mkW k) p < 0
      · rw [if_pos hw] at h; cases h
      rw [if_neg hw] at h
      obtain ⟨q1, e1, e2, e3⟩ := wd_bd h2 hw
      rw [e1, Int.toNat_natCast] at h
      by_cases hn : nmE t q1 < 0
      · rw [if_pos hn] at h; cases h
      rw [if_neg hn] at h
      obtain ⟨q2, f1, f2, f3, _, _⟩ := nm_bd e2 hn
      rw [f1, Int.toNat_natCast] at h
      have := congrArg Prod.snd (Option.some.inj h)
      simp only [] at this
      omega
theorem fst1_bd {t : ByteArray} {a q : Nat} {ns : List Int} (ha : a ≤ t.size) (h : fst1 t a = some (ns, q)) : a < q ∧ q ≤ t.size := by
  unfold fst1 at h
  cases e : fstK t a 4 with
  | none => rw [e] at h; cases h
  | some x =>
    obtain ⟨ms, p⟩ := x
    obtain ⟨h1, h2⟩ := fstK_bd ha 4 ms p e
    rw [e] at h
    replace h : (if wd t (mkW 4) p < 0 then none else some (ms, (wd t (mkW 4) p).toNat)) = some (ns, q) := h
    by_cases hw : wd t (mkW 4) p < 0
    · rw [if_pos hw] at h; cases h
    rw [if_neg hw] at h
    obtain ⟨q1, e1, e2, e3⟩ := wd_bd h2 hw
    rw [e1, Int.toNat_natCast] at h
    have := congrArg Prod.snd (Option.some.inj h)
    simp only [] at this
    omega
theorem rdL_bd {t : ByteArray} : ∀ (f : Nat) (o n : Int) (p : Nat) (ss : List ByteArray) (r : Nat), p ≤ t.size → rdL t f o n p = some (ss, r) → p + ss.length ≤ r ∧ r ≤ t.size ∧ ∀ s ∈ ss, s.size ≤ t.size := by
  intro f
  induction f with
  | zero => intro o n p ss r _ h; cases h
  | succ f ih =>
    intro o n p ss r hp h
    by_cases h1 : 0 < o ∨ 0 < n
    · cases e : lnP t p with
      | none => rw [rdL_none h1 e] at h; cases h
      | some x =>
        obtain ⟨s, q⟩ := x
        obtain ⟨b1, b2, b3, _⟩ := lnP_bd e
        rw [rdL_go h1 e] at h
        cases e2 : rdL t f (o - old1 (mark0 s)) (n - new1 (mark0 s)) q with
        | none => rw [e2] at h; cases h
        | some y =>
          obtain ⟨ts, r'⟩ := y
          rw [e2] at h
          have h' : (s :: ts, r') = (ss, r) := Option.some.inj h
          obtain ⟨rfl, rfl⟩ := Prod.mk.inj h'
          obtain ⟨c1, c2, c3⟩ := ih _ _ q ts r' b2 e2
          refine ⟨by rw [List.length_cons]; omega, c2, fun x hx => ?_⟩
          rcases List.mem_cons.1 hx with rfl | hx
          · exact b3
          · exact c3 x hx
    · by_cases h2 : o < 0 ∨ n < 0
      · rw [rdL_bad h1 h2] at h; cases h
      · rw [rdL_end h1 h2] at h
        have h' : (([] : List ByteArray), p) = (ss, r) := Option.some.inj h
        obtain ⟨rfl, rfl⟩ := Prod.mk.inj h'
        exact ⟨Nat.le_refl _, hp, fun x hx => by cases hx⟩
theorem hkP_bd {t : ByteArray} {p r : Nat} {h : Hk} (hp : p ≤ t.size) (e : hkP t p = some (h, r)) : p + h.2.2.length < r ∧ r ≤ t.size ∧ ∀ s ∈ h.2.2, s.size ≤ t.size := by
  unfold hkP at e
  cases e1 : fst1 t p with
  | none => rw [e1] at e; cases e
  | some x =>
    obtain ⟨ns, q⟩ := x
    obtain ⟨b1, b2⟩ := fst1_bd hp e1
    rw [e1] at e
    replace e : (rdL t (t.size + 1) (ns.getD 1 0) (ns.getD 3 0) q).map (fun r => ((ns.getD 0 0, ns.getD 2 0, r.1), r.2)) = some (h, r) := e
    cases e2 : rdL t (t.size + 1) (ns.getD 1 0) (ns.getD 3 0) q with
    | none => rw [e2] at e; cases e
    | some y =>
      obtain ⟨ts, r'⟩ := y
      rw [e2] at e
      have h' := Prod.mk.inj (Option.some.inj e)
      obtain ⟨c1, c2, c3⟩ := rdL_bd _ _ _ q ts r' b2 e2
      obtain ⟨h1, h2⟩ := h'
      subst h1
      simp only [] at h2 c3 ⊢
      exact ⟨by omega, by omega, c3⟩
theorem ppL_bd {t : ByteArray} : ∀ (f p : Nat), p ≤ t.size → p + (ppL t f p).1.length ≤ t.size ∧ Tiny t.size (ppL t f p).1 ∧ (((ppL t f p).1.map fun h => 2 + h.2.2.length).sum) ≤ 2 * (t.size - p) := by
  intro f
  induction f with
  | zero => intro p hp; exact ⟨hp, fun h hh => (by cases hh), Nat.zero_le _⟩
  | succ f ih =>
    intro p hp
    by_cases h1 : t.size ≤ p
    · rw [ppL_end h1]; exact ⟨hp, fun h hh => (by cases hh), Nat.zero_le _⟩
    · cases e : hkP t p with
      | none => rw [ppL_bad h1 e]; exact ⟨hp, fun h hh => (by cases hh), Nat.zero_le _⟩
      | some x =>
        obtain ⟨h, r⟩ := x
        obtain ⟨b1, b2, b3⟩ := hkP_bd hp e
        obtain ⟨c1, c2, c3⟩ := ih r b2
        rw [ppL_go h1 e]
        refine ⟨?_, ?_, ?_⟩
        · simp only [List.length_cons]; omega
        · intro y hy
          rcases List.mem_cons.1 hy with rfl | hy
          · exact ⟨by omega, b3⟩
          · exact c2 y hy
        · simp only [List.map_cons, List.sum_cons]; omega
theorem ppH_bd (t : ByteArray) : Shortly (ppH t) ∧ Fits (ppH t) ∧ (ppH t).length ≤ 1048576 ∧ 1 + mkN (ppH t) (ppH t).length ≤ 4194304 := by
  unfold ppH
  split
  · rename_i h0
    have ht : t.size ≤ 8000 := by
      unfold ppR at h0
      by_cases hb : 8000 < t.size
      · rw [if_pos hb] at h0; cases h0
      · omega
    obtain ⟨b1, b2, b3⟩ := ppL_bd (t := t) (t.size + 1) 0 (Nat.zero_le _)
    obtain ⟨f1, f2⟩ := b2.fits (by omega)
    refine ⟨f2, f1, by unfold pp; omega, ?_⟩
    unfold mkN
    rw [List.take_length]
    unfold pp
    omega
  · refine ⟨fun x hx => (by cases hx), fun x hx => (by cases hx), by simp, ?_⟩
    unfold mkN
    simp
end Go.Proofs.YtbghdelpnodijaaDoor.Pp
