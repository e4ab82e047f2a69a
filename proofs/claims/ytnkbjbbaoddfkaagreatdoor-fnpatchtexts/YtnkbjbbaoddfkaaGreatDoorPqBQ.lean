/- What a patch's text can hold: how many hunks and lines. Plain mathematics. No statement is proved here. -/
import Derived.Test.YtnkbjbbaoddfkaaGreatDoorRows
import Derived.Test.YtnkbjbbaoddfkaaGreatDoorLemQ
import Derived.Test.YtnkbjbbaoddfkaaGreatDoorHkLQ
import Derived.Test.YtnkbjbbaoddfkaaGreatDoorHkCQ
import Derived.Test.YtnkbjbbaoddfkaaGreatDoorHnLQ
import Derived.Test.YtnkbjbbaoddfkaaGreatDoorHrRQ
import Derived.Test.YtnkbjbbaoddfkaaGreatDoorPpMQ
import Derived.Test.YtnkbjbbaoddfkaaGreatDoorPpRQ
import Derived.Test.YtnkbjbbaoddfkaaGreatDoorPqQQ
import Derived.Test.YtnkbjbbaoddfkaaGreatDoorLFLemQ
import Derived.Test.YtnkbjbbaoddfkaaGreatDoorFpSQ
import Derived.Test.YtnkbjbbaoddfkaaGreatDoorDcTQ
set_option linter.unusedVariables false
namespace Go.Proofs.YtnkbjbbaoddfkaaGreatDoor.Pp
open Go.ChangeShapes Go.WideShapes Go.ChangeAt Go.RowKit

theorem fstK_bd {t : ByteArray} {a : Nat} (ha : a ≤ t.size) : ∀ (k : Nat) (ns : List Int) (q : Nat), fstK t a k = some (ns, q) → a + k ≤ q ∧ q ≤ t.size := by
  intro k
  induction k with
  | zero =>
    intro ns q h
    have h' := Option.some.inj h
    have := congrArg Prod.snd h'
    simp only [] at this
    omega
  | succ k ih =>
    intro ns q h
    rw [fstK] at h
    cases e : fstK t a k with
    | none => rw [e] at h; cases h
    | some x =>
      obtain ⟨ms, p⟩ := x
      obtain ⟨h1, h2⟩ := ih ms p e
      rw [e] at h
      replace h : stp t k (ms, p) = some (ns, q) := h
      unfold stp at h
      simp only [] at h
      by_cases hw : wd t (mkW k) p < 0
      · rw [if_pos hw] at h; cases h
      rw [if_neg hw] at h
      obtain ⟨q1, e1, e2, e3⟩ := wd_bd h2 hw
      rw [e1, Int.toNat_natCast] at h
      by_cases hn : nmE t q1 < 0
      · rw [if_pos hn] at h; cases h
      rw [if_neg hn] at h
      obtain ⟨q2, f1, f2, f3, _, _⟩ := nm_bd e2 hn
      rw [f1, Int.toNat_natCast] at h
      have := congrArg Prod.snd (Option.some.inj h)
      simp only [] at this
      omega
theorem fst1_bd {t : ByteArray} {a q : Nat} {ns : List Int} (ha : a ≤ t.size) (h : fst1 t a = some (ns, q)) : a < q ∧ q ≤ t.size := by
  unfold fst1 at h
  cases e : fstK t a 4 with
  | none => rw [e] at h; cases h
  | some x =>
    obtain ⟨ms, p⟩ := x
    obtain ⟨h1, h2⟩ := fstK_bd ha 4 ms p e
    rw [e] at h
    replace h : (if wd t (mkW 4) p < 0 then none else some (ms, (wd t (mkW 4) p).toNat)) = some (ns, q) := h
    by_cases hw : wd t (mkW 4) p < 0
    · rw [if_pos hw] at h; cases h
    rw [if_neg hw] at h
    obtain ⟨q1, e1, e2, e3⟩ := wd_bd h2 hw
    rw [e1, Int.toNat_natCast] at h
    have := congrArg Prod.snd (Option.some.inj h)
    simp only [] at this
    omega
theorem rdL_bd {t : ByteArray} : ∀ (f : Nat) (o n : Int) (p : Nat) (ss : List ByteArray) (r : Nat), p ≤ t.size → rdL t f o n p = some (ss, r) → p + ss.length ≤ r ∧ r ≤ t.size ∧ ∀ s ∈ ss, s.size ≤ t.size := by
  intro f
  induction f with
  | zero => intro o n p ss r _ h; cases h
  | succ f ih =>
    intro o n p ss r hp h
    by_cases h1 : 0 < o ∨ 0 < n
    · cases e : lnP t p with
      | none => rw [rdL_none h1 e] at h; cases h
      | some x =>
        obtain ⟨s, q⟩ := x
        obtain ⟨b1, b2, b3, _⟩ := lnP_bd e
        rw [rdL_go h1 e] at h
        cases e2 : rdL t f (o - old1 (mark0 s)) (n - new1 (mark0 s)) q with
        | none => rw [e2] at h; cases h
        | some y =>
          obtain ⟨ts, r'⟩ := y
          rw [e2] at h
          have h' : (s :: ts, r') = (ss, r) := Option.some.inj h
          obtain ⟨rfl, rfl⟩ := Prod.mk.inj h'
          obtain ⟨c1, c2, c3⟩ := ih _ _ q ts r' b2 e2
          refine ⟨by rw [List.length_cons]; omega, c2, fun x hx => ?_⟩
          rcases List.mem_cons.1 hx with rfl | hx
          · exact b3
          · exact c3 x hx
    · by_cases h2 : o < 0 ∨ n < 0
      · rw [rdL_bad h1 h2] at h; cases h
      · rw [rdL_end h1 h2] at h
        have h' : (([] : List ByteArray), p) = (ss, r) := Option.some.inj h
        obtain ⟨rfl, rfl⟩ := Prod.mk.inj h'
        exact ⟨Nat.le_refl _, hp, fun x hx => by cases hx⟩
theorem hkP_bd {t : ByteArray} {p r : Nat} {h : Hk} (hp : p ≤ t.size) (e : hkP t p = some (h, r)) : p + h.2.2.length < r ∧ r ≤ t.size ∧ ∀ s ∈ h.2.2, s.size ≤ t.size := by
  unfold hkP at e
  cases e1 : fst1 t p with
  | none => rw [e1] at e; cases e
  | some x =>
    obtain ⟨ns, q⟩ := x
    obtain ⟨b1, b2⟩ := fst1_bd hp e1
    rw [e1] at e
    replace e : (rdL t (t.size + 1) (ns.getD 1 0) (ns.getD 3 0) q).map (fun r => ((ns.getD 0 0, ns.getD 2 0, r.1), r.2)) = some (h, r) := e
    cases e2 : rdL t (t.size + 1) (ns.getD 1 0) (ns.getD 3 0) q with
    | none => rw [e2] at e; cases e
    | some y =>
      obtain ⟨ts, r'⟩ := y
      rw [e2] at e
      have h' := Prod.mk.inj (Option.some.inj e)
      obtain ⟨c1, c2, c3⟩ := rdL_bd _ _ _ q ts r' b2 e2
      obtain ⟨h1, h2⟩ := h'
      subst h1
      simp only [] at h2 c3 ⊢
      exact ⟨by omega, by omega, c3⟩
theorem ppL_bd {t : ByteArray} : ∀ (f p : Nat), p ≤ t.size → p + (ppL t f p).1.length ≤ t.size ∧ Tiny t.size (ppL t f p).1 ∧ (((ppL t f p).1.map fun h => 2 + h.2.2.length).sum) ≤ 2 * (t.size - p) := by
  intro f
  induction f with
  | zero => intro p hp; exact ⟨hp, fun h hh => (by cases hh), Nat.zero_le _⟩
  | succ f ih =>
    intro p hp
    by_cases h1 : t.size ≤ p
    · rw [ppL_end h1]; exact ⟨hp, fun h hh => (by cases hh), Nat.zero_le _⟩
    · cases e : hkP t p with
      | none => rw [ppL_bad h1 e]; exact ⟨hp, fun h hh => (by cases hh), Nat.zero_le _⟩
      | some x =>
        obtain ⟨h, r⟩ := x
        obtain ⟨b1, b2, b3⟩ := hkP_bd hp e
        obtain ⟨c1, c2, c3⟩ := ih r b2
        rw [ppL_go h1 e]
        refine ⟨?_, ?_, ?_⟩
        · simp only [List.length_cons]; omega
        · intro y hy
          rcases List.mem_cons.1 hy with rfl | hy
          · exact ⟨by omega, b3⟩
          · exact c2 y hy
        · simp only [List.map_cons, List.sum_cons]; omega
theorem ppH_bd (t : ByteArray) : Shortly (ppH t) ∧ Fits (ppH t) ∧ (ppH t).length ≤ 1048576 ∧ 1 + mkN (ppH t) (ppH t).length ≤ 4194304 := by
  unfold ppH
  split
  · rename_i h0
    have ht : t.size ≤ 8000 := by
      unfold ppR at h0
      by_cases hb : 8000 < t.size
      · rw [if_pos hb] at h0; cases h0
      · omega
    obtain ⟨b1, b2, b3⟩ := ppL_bd (t := t) (t.size + 1) 0 (Nat.zero_le _)
    obtain ⟨f1, f2⟩ := b2.fits (by omega)
    refine ⟨f2, f1, by unfold pp; omega, ?_⟩
    unfold mkN
    rw [List.take_length]
    unfold pp
    omega
  · refine ⟨fun x hx => (by cases hx), fun x hx => (by cases hx), by simp, ?_⟩
    unfold mkN
    simp
end Go.Proofs.YtnkbjbbaoddfkaaGreatDoor.Pp
/- What is read of a patch's text is what was written. Plain mathematics. No statement is proved here. -/
set_option linter.unusedVariables false
namespace Go.Proofs.YtnkbjbbaoddfkaaGreatDoor.Pp
open Go.ChangeShapes Go.WideShapes Go.ChangeAt Go.RowKit
open Go.Proofs.YtnkbjbbaoddfkaaGreatDoor.Fp

theorem wd_drop {t w : ByteArray} {a q : Nat} (h : wd t w a = (q : Int)) : t.data.toList.drop a = w.data.toList ++ t.data.toList.drop q := by
  unfold wd at h
  split at h
  · rename_i e
    have hq : q = a + w.size := by omega
    have e1 : (t.extract a (a + w.size)).data.toList = (t.data.toList.drop a).take w.size := by rw [extract_data]; congr 1; omega
    rw [e] at e1
    rw [hq, ← List.drop_drop, e1, List.take_append_drop]
  · omega
theorem nm_drop {t : ByteArray} {a q : Nat} (h : nmE t a = (q : Int)) : t.data.toList.drop a = (decB (nmV t a).toNat).data.toList ++ t.data.toList.drop q ∧ 0 ≤ nmV t a := by
  unfold nmE at h
  split at h
  · rename_i e
    have e' := of_decide_eq_true e
    have hv : nmV t a = ((dval (dgs (t.data.toList.drop a)) : Nat) : Int) := by unfold nmV; rw [if_pos e]
    have hd := (okN_iff (t.data.toList.drop a) (List.length_pos_iff.1 e'.1) e'.2.1).1 e
    have hq : q = a + (dgs (t.data.toList.drop a)).length := by omega
    refine ⟨?_, by rw [hv]; omega⟩
    rw [hv, Int.toNat_natCast]
    have e2 : (decB (dval (dgs (t.data.toList.drop a)))).data.toList = dgs (t.data.toList.drop a) := hd
    rw [e2, hq, ← List.drop_drop]
    conv => lhs; rw [← List.take_append_drop (dgs (t.data.toList.drop a)).length (t.data.toList.drop a), take_dgs]
  · omega
theorem stp_some {t : ByteArray} {k p q : Nat} {ms ns : List Int} (h : stp t k (ms, p) = some (ns, q)) : ∃ q1 : Nat, wd t (mkW k) p = q1 ∧ nmE t q1 = q ∧ ns = ms ++ [nmV t q1] := by
  unfold stp at h
  simp only [] at h
  by_cases hw : wd t (mkW k) p < 0
  · rw [if_pos hw] at h; cases h
  rw [if_neg hw] at h
  obtain ⟨q1, e1⟩ := Int.eq_ofNat_of_zero_le (show 0 ≤ wd t (mkW k) p by omega)
  rw [e1, Int.toNat_natCast] at h
  by_cases hn : nmE t q1 < 0
  · rw [if_pos hn] at h; cases h
  rw [if_neg hn] at h
  obtain ⟨q2, e2⟩ := Int.eq_ofNat_of_zero_le (show 0 ≤ nmE t q1 by omega)
  rw [e2, Int.toNat_natCast] at h
  obtain ⟨h1, h2⟩ := Prod.mk.inj (Option.some.inj h)
  exact ⟨q1, e1, by rw [e2, h2], h1.symm⟩
theorem fst_drop {t : ByteArray} {a q : Nat} {ns : List Int} (h : fst1 t a = some (ns, q)) : ∃ x0 o x1 n : Int, ns = [x0, o, x1, n] ∧ 0 ≤ x0 ∧ 0 ≤ o ∧ 0 ≤ x1 ∧ 0 ≤ n ∧ t.data.toList.drop a = (headB x0.toNat o.toNat x1.toNat n.toNat).data.toList ++ t.data.toList.drop q := by
  have go : ∀ k ms p, fstK t a (k + 1) = some (ms, p) → ∃ ms' p', fstK t a k = some (ms', p') ∧ stp t k (ms', p') = some (ms, p) := fun k ms p h => by
    rw [fstK] at h
    cases e : fstK t a k with
    | none => rw [e] at h; cases h
    | some x => obtain ⟨ms', p'⟩ := x; rw [e] at h; exact ⟨ms', p', rfl, h⟩
  unfold fst1 at h
  cases e4 : fstK t a 4 with
  | none => rw [e4] at h; cases h
  | some x =>
    obtain ⟨m4, p4⟩ := x
    rw [e4] at h
    replace h : (if wd t (mkW 4) p4 < 0 then none else some (m4, (wd t (mkW 4) p4).toNat)) = some (ns, q) := h
    by_cases hw : wd t (mkW 4) p4 < 0
    · rw [if_pos hw] at h; cases h
    rw [if_neg hw] at h
    obtain ⟨q4, f4⟩ := Int.eq_ofNat_of_zero_le (show 0 ≤ wd t (mkW 4) p4 by omega)
    rw [f4, Int.toNat_natCast] at h
    obtain ⟨h1, h2⟩ := Prod.mk.inj (Option.some.inj h)
    obtain ⟨m3, p3, e3, s3⟩ := go 3 m4 p4 e4
    obtain ⟨m2, p2, e2, s2⟩ := go 2 m3 p3 e3
    obtain ⟨m1, p1, e1, s1⟩ := go 1 m2 p2 e2
    obtain ⟨m0, p0, e0, s0⟩ := go 0 m1 p1 e1
    obtain ⟨g1, g2⟩ := Prod.mk.inj (Option.some.inj e0)
    obtain ⟨r0, a0, b0, c0⟩ := stp_some s0
    obtain ⟨r1, a1, b1, c1⟩ := stp_some s1
    obtain ⟨r2, a2, b2, c2⟩ := stp_some s2
    obtain ⟨r3, a3, b3, c3⟩ := stp_some s3
    obtain ⟨n0, k0⟩ := nm_drop b0
    obtain ⟨n1, k1⟩ := nm_drop b1
    obtain ⟨n2, k2⟩ := nm_drop b2
    obtain ⟨n3, k3⟩ := nm_drop b3
    have w0 := wd_drop a0
    have w1 := wd_drop a1
    have w2 := wd_drop a2
    have w3 := wd_drop a3
    have w4 := wd_drop f4
    refine ⟨nmV t r0, nmV t r1, nmV t r2, nmV t r3, ?_, k0, k1, k2, k3, ?_⟩
    · rw [← h1, c3, c2, c1, c0, ← g1]; rfl
    · rw [g2, w0, n0, w1, n1, w2, n2, w3, n3, w4, h2, head_parts]
      simp only [List.append_assoc]
      rfl
theorem ends_no {l : List UInt8} (h : ¬ (10 : UInt8) ∈ l) : Fp.ends l = false := by
  unfold Fp.ends
  apply decide_eq_false
  intro e
  exact h (List.mem_of_getLast? e)
theorem cut_feed {D E : List UInt8} {m : Nat} (y2 : D = D.take m ++ 10 :: E) (y3 : m < D.length) : D.take (m + 1) = D.take m ++ [10] := by
  have hl : (D.take m).length = m := by rw [List.length_take]; omega
  have h10 : D[m]? = some 10 := by
    have e : D[m]? = (D.take m ++ 10 :: E)[m]? := congrArg (fun l : List UInt8 => l[m]?) y2
    rw [List.getElem?_append_right (by omega), hl, Nat.sub_self] at e
    exact e
  rw [List.take_add_one, h10]
  rfl
theorem ln_drop {t : ByteArray} {p q : Nat} {s : ByteArray} (h : lnP t p = some (s, q)) : t.data.toList.drop p = lnT s ++ t.data.toList.drop q := by
  unfold lnP at h
  by_cases hp : t.size ≤ p + lnM t p
  · rw [if_pos hp] at h; cases h
  rw [if_neg hp] at h
  have ho : okH (lnQ t p).1 = true := by
    cases ho : okH (lnQ t p).1 with
    | true => rfl
    | false => rw [if_neg (by rw [ho]; decide)] at h; cases h
  rw [if_pos ho] at h
  have h' := Option.some.inj h
  have eB : (t.extract p t.size).data.toList = t.data.toList.drop p := by
    rw [extract_data, List.take_of_length_le (by rw [List.length_drop]; simp)]
  have hM : lnM t p = (ended (t.data.toList.drop p)).toNat := by unfold lnM; rw [eB]
  have hi : ¬ Lib.indexByte (t.data.toList.drop p) 10 < 0 := fun c => by
    have : ended (t.data.toList.drop p) = (t.data.toList.drop p).length := if_pos c
    rw [this, List.length_drop] at hM
    have : t.data.toList.length = t.size := by simp
    omega
  have hm : lnM t p = (Lib.indexByte (t.data.toList.drop p) 10).toNat := by rw [hM]; unfold ended; rw [if_neg hi]
  obtain ⟨y1, y2, y3⟩ := indexByte_split (t.data.toList.drop p) 10 hi
  rw [← hm] at y1 y2 y3
  have eL0 : ∀ m, (t.extract p (p + m + 1)).data.toList = (t.data.toList.drop p).take (m + 1) := fun m => by rw [extract_data, show p + m + 1 - p = m + 1 by omega]
  have eL := eL0 (lnM t p)
  have eT := cut_feed y2 y3
  unfold lnQ at h'
  by_cases hw : 0 < wd t ⟨#[92, 10]⟩ (p + lnM t p + 1)
  · rw [if_pos hw] at h'
    obtain ⟨h1, h2⟩ := Prod.mk.inj h'
    have hs : s.data.toList = (t.data.toList.drop p).take (lnM t p) := by
      rw [← h1, extract_data, eL, List.drop_zero, Nat.sub_zero, List.take_take, Nat.min_eq_left (by omega)]
    obtain ⟨q1, e1⟩ := Int.eq_ofNat_of_zero_le (show 0 ≤ wd t ⟨#[92, 10]⟩ (p + lnM t p + 1) by omega)
    have hq : q1 = q := by
      rw [← h2]
      unfold wd at e1
      split at e1
      · have : (⟨#[92, 10]⟩ : ByteArray).size = 2 := rfl
        omega
      · omega
    have hd := wd_drop e1
    rw [ln_no (ends_no (by rw [hs]; exact y1)), hs, ← hq]
    conv => lhs; rw [y2]
    rw [List.drop_drop, show p + (lnM t p + 1) = p + lnM t p + 1 by omega, hd]
    simp
  · rw [if_neg hw] at h'
    obtain ⟨h1, h2⟩ := Prod.mk.inj h'
    have hs : s.data.toList = (t.data.toList.drop p).take (lnM t p) ++ [10] := by rw [← h1, eL, eT]
    rw [ln_yes (by rw [hs, ends_snoc]; rfl), hs, ← h2]
    conv => lhs; rw [y2]
    rw [List.drop_drop]
    simp [Nat.add_assoc]
theorem oldN_cons (s : ByteArray) (ss : List ByteArray) : oldN (s :: ss) = old1 (mark0 s) + oldN ss := by simp [oldN]
theorem newN_cons (s : ByteArray) (ss : List ByteArray) : newN (s :: ss) = new1 (mark0 s) + newN ss := by simp [newN]
theorem rdL_drop {t : ByteArray} : ∀ (f : Nat) (o n : Int) (p : Nat) (ss : List ByteArray) (r : Nat), rdL t f o n p = some (ss, r) → t.data.toList.drop p = linesT ss ++ t.data.toList.drop r ∧ o = oldN ss ∧ n = newN ss := by
  intro f
  induction f with
  | zero => intro o n p ss r h; cases h
  | succ f ih =>
    intro o n p ss r h
    by_cases h1 : 0 < o ∨ 0 < n
    · cases e : lnP t p with
      | none => rw [rdL_none h1 e] at h; cases h
      | some x =>
        obtain ⟨s, q⟩ := x
        rw [rdL_go h1 e] at h
        cases e2 : rdL t f (o - old1 (mark0 s)) (n - new1 (mark0 s)) q with
        | none => rw [e2] at h; cases h
        | some y =>
          obtain ⟨ts, r'⟩ := y
          rw [e2] at h
          have h' : (s :: ts, r') = (ss, r) := Option.some.inj h
          obtain ⟨rfl, rfl⟩ := Prod.mk.inj h'
          obtain ⟨c1, c2, c3⟩ := ih _ _ q ts r' e2
          refine ⟨?_, by rw [oldN_cons]; omega, by rw [newN_cons]; omega⟩
          rw [ln_drop e, c1]
          simp [linesT]
    · by_cases h2 : o < 0 ∨ n < 0
      · rw [rdL_bad h1 h2] at h; cases h
      · rw [rdL_end h1 h2] at h
        have h' : (([] : List ByteArray), p) = (ss, r) := Option.some.inj h
        obtain ⟨rfl, rfl⟩ := Prod.mk.inj h'
        refine ⟨rfl, ?_, ?_⟩
        · have : oldN ([] : List ByteArray) = 0 := rfl
          omega
        · have : newN ([] : List ByteArray) = 0 := rfl
          omega
theorem hk_drop {t : ByteArray} {p r : Nat} {h : Hk} (e : hkP t p = some (h, r)) : t.data.toList.drop p = hkT h ++ t.data.toList.drop r := by
  cases e1 : fst1 t p with
  | none => rw [hk_none e1] at e; cases e
  | some x =>
    obtain ⟨ns, q⟩ := x
    obtain ⟨x0, o, x1, n, rfl, k0, k1, k2, k3, hd⟩ := fst_drop e1
    rw [hk_some e1] at e
    cases e2 : rdL t (t.size + 1) o n q with
    | none => rw [e2] at e; cases e
    | some y =>
      obtain ⟨ts, r'⟩ := y
      rw [e2] at e
      obtain ⟨h1, h2⟩ := Prod.mk.inj (Option.some.inj e)
      obtain ⟨c1, c2, c3⟩ := rdL_drop _ _ _ q ts r' e2
      simp only [List.nil_append] at h1 h2
      subst h1
      subst h2
      rw [hd, c1]
      unfold hkT headT
      simp only []
      rw [← c2, ← c3, List.append_assoc]
theorem ppL_drop {t : ByteArray} : ∀ (f p : Nat), (ppL t f p).2 = true → t.data.toList.drop p = fpL (ppL t f p).1 := by
  intro f
  induction f with
  | zero => intro p h; cases h
  | succ f ih =>
    intro p h
    by_cases h1 : t.size ≤ p
    · rw [ppL_end h1]
      exact List.drop_of_length_le (by simp; omega)
    · cases e : hkP t p with
      | none => rw [ppL_bad h1 e] at h; cases h
      | some x =>
        obtain ⟨y, r⟩ := x
        rw [ppL_go h1 e] at h ⊢
        rw [hk_drop e, ih r h]
        simp [fpL]
/-- A patch that is read and written is what was read. -/
theorem pp_back {t : ByteArray} (h : ppR t = 0) : fpC (ppH t) = 0 ∧ fpT (ppH t) = t := by
  have hb : ¬ 8000 < t.size := fun c => by rw [(pp_many c).1] at h; cases h
  cases k : (pp t).2 with
  | false => rw [(pp_bad hb k).1] at h; cases h
  | true =>
    obtain ⟨e1, _, e3⟩ := pp_all hb k
    have hf0 : hf (pp t).1 = 0 := by rw [← e1]; exact h
    rw [if_pos hf0] at e3
    have hd : t.data.toList = fpL (pp t).1 := ppL_drop (t := t) (t.size + 1) 0 k
    rw [e3]
    obtain ⟨a1, a2⟩ := fp_ok hf0 (by rw [← hd]; simpa using hb)
    refine ⟨a1, ?_⟩
    rw [a2, ← hd]
end Go.Proofs.YtnkbjbbaoddfkaaGreatDoor.Pp
/- What is written of hunks is read back. Plain mathematics. No statement is proved here. -/
set_option linter.unusedVariables false
namespace Go.Proofs.YtnkbjbbaoddfkaaGreatDoor.Pp
open Go.ChangeShapes Go.WideShapes Go.ChangeAt Go.RowKit
open Go.Proofs.YtnkbjbbaoddfkaaGreatDoor.Fp

theorem drop_on {B W R : List UInt8} {p : Nat} (h : B.drop p = W ++ R) : B.drop (p + W.length) = R := by
  rw [← List.drop_drop, h, List.drop_left]
theorem wd_hit {t w : ByteArray} {p : Nat} {R : List UInt8} (h : t.data.toList.drop p = w.data.toList ++ R) : wd t w p = ((p + w.size : Nat) : Int) := by
  apply wd_yes
  apply bytes_inj2
  have e : w.data.toList.length = w.size := by simp
  rw [ByteArray.toList_eq, ByteArray.toList_eq, extract_data, h, show p + w.size - p = w.data.toList.length by omega, List.take_left]
theorem wd_miss {t : ByteArray} {p : Nat} {R : List UInt8} (h : t.data.toList.drop p = R) (hR : R.head? ≠ some 92) : ¬ 0 < wd t ⟨#[92, 10]⟩ p := by
  unfold wd
  split
  · rename_i e
    exfalso
    have e1 : (t.extract p (p + (⟨#[92, 10]⟩ : ByteArray).size)).data.toList = (t.data.toList.drop p).take 2 := by
      rw [extract_data, show p + (⟨#[92, 10]⟩ : ByteArray).size - p = 2 from by have : (⟨#[92, 10]⟩ : ByteArray).size = 2 := rfl; omega]
    rw [e, h] at e1
    cases R with
    | nil => cases e1
    | cons c R =>
      have e2 := congrArg List.head? e1
      simp at e2
      exact hR (by simp [e2])
  · omega
theorem dg_all (n : Nat) : ∀ c ∈ Lib.decDigits n, isDg c = true := fun c hc => by
  have := (Dc.val_dec n n (Nat.le_refl _)).2.1 c hc
  unfold isDg
  exact decide_eq_true this
theorem dgs_app : ∀ (d : List UInt8) (R : List UInt8), (∀ c ∈ d, isDg c = true) → (∀ c, R.head? = some c → isDg c = false) → dgs (d ++ R) = d := by
  intro d
  induction d with
  | nil =>
    intro R _ hR
    cases R with
    | nil => rfl
    | cons c R =>
      have := hR c rfl
      unfold dgs
      rw [List.nil_append, List.takeWhile_cons, this]
      rfl
  | cons c d ih =>
    intro R h hR
    have e := ih R (fun x hx => h x (List.mem_cons_of_mem _ hx)) hR
    unfold dgs at e ⊢
    rw [List.cons_append, List.takeWhile_cons, h c (List.mem_cons_self ..), e]
    rfl
theorem dec_len4 {n : Nat} (h : n < 10000) : (Lib.decDigits n).length ≤ 4 := by
  have one : ∀ m, m < 10 → (Lib.decDigits m).length = 1 := fun m hm => by rw [Lib.decDigits, dif_pos hm]; rfl
  have more : ∀ m, ¬ m < 10 → (Lib.decDigits m).length = (Lib.decDigits (m / 10)).length + 1 := fun m hm => by rw [Lib.decDigits, dif_neg hm, List.length_append]; rfl
  by_cases h1 : n < 10
  · rw [one n h1]; omega
  rw [more n h1]
  by_cases h2 : n / 10 < 10
  · rw [one _ h2]; omega
  rw [more _ h2]
  by_cases h3 : n / 10 / 10 < 10
  · rw [one _ h3]; omega
  rw [more _ h3, one _ (by omega)]
  exact Nat.le_refl _
theorem nm_hit {t : ByteArray} {p n : Nat} {R : List UInt8} (h : t.data.toList.drop p = (decB n).data.toList ++ R) (hn : n < 10000) (hR : ∀ c, R.head? = some c → isDg c = false) : nmV t p = (n : Int) ∧ nmE t p = ((p + (decB n).data.toList.length : Nat) : Int) := by
  have e0 : (decB n).data.toList = Lib.decDigits n := rfl
  rw [e0] at h ⊢
  have hd : dgs (t.data.toList.drop p) = Lib.decDigits n := by rw [h]; exact dgs_app _ _ (dg_all n) hR
  obtain ⟨v1, v2, v3⟩ := Dc.val_dec n n (Nat.le_refl _)
  have hv : dval (Lib.decDigits n) = n := v1
  have h4 : (Lib.decDigits n).length ≤ 4 := by
    have := dec_len4 hn
    exact this
  have hok : okN (t.data.toList.drop p) = true := (okN_iff _ (by rw [hd]; exact v3) (by rw [hd]; exact h4)).2 (by rw [hd, hv])
  unfold nmV nmE
  rw [if_pos hok, if_pos hok, hd, hv]
  exact ⟨rfl, rfl⟩
theorem stp_hit {t : ByteArray} {a k p n : Nat} {ns : List Int} {R : List UInt8} (h0 : fstK t a k = some (ns, p)) (h : t.data.toList.drop p = (mkW k).data.toList ++ ((decB n).data.toList ++ R)) (hn : n < 10000) (hR : ∀ c, R.head? = some c → isDg c = false) :
    ∃ q, fstK t a (k + 1) = some (ns ++ [(n : Int)], q) ∧ t.data.toList.drop q = R ∧ q = p + (mkW k).data.toList.length + (decB n).data.toList.length := by
  have w := wd_hit h
  have e : (mkW k).data.toList.length = (mkW k).size := by simp
  have d1 := drop_on h
  rw [e] at d1
  obtain ⟨v, m⟩ := nm_hit d1 hn hR
  have d2 := drop_on d1
  refine ⟨p + (mkW k).size + (decB n).data.toList.length, ?_, d2, by rw [e]⟩
  rw [fst_step h0 w m, v]
theorem fst_hit {t : ByteArray} {p x0 o x1 n : Nat} {R : List UInt8} (h : t.data.toList.drop p = (headB x0 o x1 n).data.toList ++ R) (h0 : x0 < 10000) (h1 : o < 10000) (h2 : x1 < 10000) (h3 : n < 10000) :
    fst1 t p = some ([(x0 : Int), (o : Int), (x1 : Int), (n : Int)], p + (headB x0 o x1 n).data.toList.length) := by
  have hl : (headB x0 o x1 n).data.toList.length = (mkW 0).data.toList.length + (decB x0).data.toList.length + (mkW 1).data.toList.length + (decB o).data.toList.length + (mkW 2).data.toList.length + (decB x1).data.toList.length + (mkW 3).data.toList.length + (decB n).data.toList.length + (mkW 4).data.toList.length := by
    rw [head_parts]
    simp only [List.length_append]
    rfl
  rw [head_parts] at h
  have hh : t.data.toList.drop p = (mkW 0).data.toList ++ ((decB x0).data.toList ++ ((mkW 1).data.toList ++ ((decB o).data.toList ++ ((mkW 2).data.toList ++ ((decB x1).data.toList ++ ((mkW 3).data.toList ++ ((decB n).data.toList ++ ((mkW 4).data.toList ++ R)))))))) := by
    rw [h]
    simp only [List.append_assoc]
    rfl
  obtain ⟨q0, e0, d0, f0⟩ := stp_hit (k := 0) (a := p) (ns := []) rfl hh h0 (fun c hc => by cases hc; rfl)
  obtain ⟨q1, e1, d1, f1⟩ := stp_hit (k := 1) e0 d0 h1 (fun c hc => by cases hc; rfl)
  obtain ⟨q2, e2, d2, f2⟩ := stp_hit (k := 2) e1 d1 h2 (fun c hc => by cases hc; rfl)
  obtain ⟨q3, e3, d3, f3⟩ := stp_hit (k := 3) e2 d2 h3 (fun c hc => by cases hc; rfl)
  have w := wd_hit d3
  have e : (mkW 4).data.toList.length = (mkW 4).size := by simp
  rw [fst_end e3 w]
  congr 2
  omega
theorem idx_at {D u R : List UInt8} (h : D = u ++ 10 :: R) (hu : ¬ (10 : UInt8) ∈ u) : Lib.indexByte D 10 = u.length := by rw [h]; exact indexByte_app u R 10 hu
theorem lnM_at {t : ByteArray} {p : Nat} {u R : List UInt8} (h : t.data.toList.drop p = u ++ 10 :: R) (hu : ¬ (10 : UInt8) ∈ u) : lnM t p = u.length ∧ p + u.length < t.size := by
  have eB : (t.extract p t.size).data.toList = t.data.toList.drop p := by
    rw [extract_data, List.take_of_length_le (by rw [List.length_drop]; simp)]
  have hi := idx_at h hu
  constructor
  · unfold lnM ended
    rw [eB, if_neg (by rw [hi]; omega), hi, Int.toNat_natCast]
  · have hl := congrArg List.length h
    rw [List.length_drop, List.length_append, List.length_cons] at hl
    have : t.data.toList.length = t.size := by simp
    omega
theorem not_mem_of {b : List UInt8} (hi : Lib.indexByte b 10 < 0) (e : (10 : UInt8) ∈ b) : False := by
  obtain ⟨u, v, hb, hu⟩ := List.eq_append_cons_of_mem e
  rw [idx_at hb hu] at hi
  omega
/-- A line's bytes: its line feed, where it has one, is its last byte. -/
theorem okH_split {s : ByteArray} (h : okH s = true) : (∃ u, s.data.toList = u ++ [10] ∧ ¬ (10 : UInt8) ∈ u) ∨ ¬ (10 : UInt8) ∈ s.data.toList := by
  have hp := okH_size h
  have hm := okH_mark h
  unfold okH at h
  rw [Bool.and_eq_true, Bool.and_eq_true] at h
  have hl := h.2.2
  have hs : s.data.toList = s.data.toList.head (dataPos hp) :: (s.extract 1 s.size).data.toList := by
    rw [extract_data, List.take_of_length_le (by rw [List.length_drop]; simp), List.drop_one, List.cons_head_tail]
  have hc : s.data.toList.head (dataPos hp) ≠ 10 := fun e => by
    have : mark0 s = 10 := by
      unfold mark0
      rw [hs, e]; rfl
    omega
  generalize s.data.toList.head (dataPos hp) = c at hs hc
  generalize (s.extract 1 s.size).data.toList = b at hs hl
  unfold okLine at hl
  by_cases hb : b = []
  · rw [if_pos hb] at hl; cases hl
  rw [if_neg hb] at hl
  by_cases hi : Lib.indexByte b 10 < 0
  · right
    intro hm
    rw [hs] at hm
    rcases List.mem_cons.1 hm with e | e
    · exact hc e.symm
    · exact not_mem_of hi e
  · left
    rw [if_neg hi] at hl
    have hl' := of_decide_eq_true hl
    obtain ⟨y1, y2, y3⟩ := indexByte_split b 10 hi
    have hm2 : (Lib.indexByte b 10).toNat = b.length - 1 := by omega
    rw [hm2] at y1 y2
    have hd : b.drop (b.length - 1 + 1) = [] := List.drop_of_length_le (by omega)
    rw [hd] at y2
    refine ⟨c :: b.take (b.length - 1), ?_, ?_⟩
    · rw [hs]
      conv => lhs; rw [y2]
      rfl
    · intro hm
      rcases List.mem_cons.1 hm with e | e
      · exact hc e.symm
      · exact y1 e
theorem ln_hit {t s : ByteArray} {p : Nat} {R : List UInt8} (hs : okH s = true) (h : t.data.toList.drop p = lnT s ++ R) (hR : R.head? ≠ some 92) : lnP t p = some (s, p + (lnT s).length) := by
  rcases okH_split hs with ⟨u, hu, h10⟩ | h10
  · have he : Fp.ends s.data.toList = true := by rw [hu, ends_snoc]; rfl
    rw [ln_yes he, hu] at h
    have h' : t.data.toList.drop p = u ++ 10 :: R := by rw [h]; simp
    obtain ⟨m1, m2⟩ := lnM_at h' h10
    have d1 : t.data.toList.drop (p + u.length + 1) = R := by
      have := drop_on h
      rw [List.length_append] at this
      exact this
    have hw := wd_miss d1 hR
    have hx : t.extract p (p + u.length + 1) = s := by
      apply bytes_inj2
      rw [ByteArray.toList_eq, ByteArray.toList_eq, extract_data, h, hu, show p + u.length + 1 - p = (u ++ [10]).length by simp; omega, List.take_left]
    have hQ : lnQ t p = (s, p + u.length + 1) := by unfold lnQ; rw [m1, if_neg hw, hx]
    unfold lnP
    rw [m1, if_neg (by omega), hQ, if_pos hs, ln_yes he, hu, List.length_append]
    rfl
  · have he := ends_no h10
    rw [ln_no he] at h
    have h' : t.data.toList.drop p = s.data.toList ++ 10 :: ([92, 10] ++ R) := by rw [h]; simp
    obtain ⟨m1, m2⟩ := lnM_at h' h10
    have d1 : t.data.toList.drop (p + s.data.toList.length + 1) = [92, 10] ++ R := by
      have e : t.data.toList.drop p = (s.data.toList ++ [10]) ++ ([92, 10] ++ R) := by rw [h]; simp
      have := drop_on e
      rw [List.length_append] at this
      exact this
    have hw : wd t ⟨#[92, 10]⟩ (p + s.data.toList.length + 1) = ((p + s.data.toList.length + 1 + 2 : Nat) : Int) := wd_hit (w := ⟨#[92, 10]⟩) d1
    have hx : (t.extract p (p + s.data.toList.length + 1)).extract 0 s.data.toList.length = s := by
      apply bytes_inj2
      rw [ByteArray.toList_eq, ByteArray.toList_eq, extract_data, extract_data, List.drop_zero, h', List.take_take, show min (s.data.toList.length - 0) (p + s.data.toList.length + 1 - p) = s.data.toList.length by omega, List.take_left]
    have hQ : lnQ t p = (s, p + s.data.toList.length + 3) := by unfold lnQ; rw [m1, if_pos (by rw [hw]; omega), hx]
    unfold lnP
    rw [m1, if_neg (by omega), hQ, if_pos hs, ln_no he, List.length_append]
    rfl
theorem lnT_pos {s : ByteArray} (hs : okH s = true) : 0 < (lnT s).length := by
  have := okH_size hs
  have e : s.data.toList.length = s.size := by simp
  unfold lnT
  rw [List.length_append]
  omega
theorem lnT_head {s : ByteArray} (hs : okH s = true) (R : List UInt8) : (lnT s ++ R).head? ≠ some 92 := by
  have hp := dataPos (okH_size hs)
  have hm := okH_mark hs
  intro e
  have e1 : (lnT s ++ R).head? = s.data.toList.head? := by
    unfold lnT
    cases h : s.data.toList with
    | nil => exact absurd h hp
    | cons c l => rfl
  rw [e1] at e
  cases h : s.data.toList with
  | nil => exact hp h
  | cons c l =>
    rw [h] at e
    have hc : c = 92 := by simpa using e
    have : mark0 s = 92 := by
      unfold mark0
      rw [h, hc]
      rfl
    omega
theorem lines_head {ss : List ByteArray} (hs : ∀ s ∈ ss, okH s = true) {R : List UInt8} (hR : R.head? ≠ some 92) : (linesT ss ++ R).head? ≠ some 92 := by
  cases ss with
  | nil => exact hR
  | cons s ss =>
    have e : linesT (s :: ss) ++ R = lnT s ++ (linesT ss ++ R) := by simp [linesT]
    rw [e]
    exact lnT_head (hs s (by simp)) _
theorem rdL_hit {t : ByteArray} : ∀ (ss : List ByteArray) (f p : Nat) (R : List UInt8), (∀ s ∈ ss, okH s = true) → ss.length < f → t.data.toList.drop p = linesT ss ++ R → R.head? ≠ some 92 → rdL t f (oldN ss) (newN ss) p = some (ss, p + (linesT ss).length) := by
  intro ss
  induction ss with
  | nil =>
    intro f p R _ hf _ _
    obtain ⟨f, rfl⟩ : ∃ g, f = g + 1 := ⟨f - 1, by simp at hf; omega⟩
    exact rdL_end (by show ¬ ((0 : Int) < 0 ∨ (0 : Int) < 0); omega) (by show ¬ ((0 : Int) < 0 ∨ (0 : Int) < 0); omega)
  | cons s ss ih =>
    intro f p R hs hf h hR
    obtain ⟨f, rfl⟩ : ∃ g, f = g + 1 := ⟨f - 1, by simp at hf; omega⟩
    have hk := hs s (by simp)
    have hss : ∀ x ∈ ss, okH x = true := fun x hx => hs x (by simp [hx])
    have e : t.data.toList.drop p = lnT s ++ (linesT ss ++ R) := by rw [h]; simp [linesT]
    have l := ln_hit hk e (lines_head hss hR)
    have d := drop_on e
    have b1 := oldN_bd ss
    have b2 := newN_bd ss
    have h1 : 0 < oldN (s :: ss) ∨ 0 < newN (s :: ss) := by
      rw [oldN_cons, newN_cons]
      rcases okH_mark hk with q | q | q <;> rw [q]
      · have : old1 32 = 1 := by decide
        omega
      · have : old1 45 = 1 := by decide
        omega
      · have : new1 43 = 1 := by decide
        have : old1 43 = 0 := by decide
        omega
    rw [rdL_go h1 l, oldN_cons, newN_cons, show old1 (mark0 s) + oldN ss - old1 (mark0 s) = oldN ss by omega, show new1 (mark0 s) + newN ss - new1 (mark0 s) = newN ss by omega, ih f _ R hss (by simp at hf; omega) d hR]
    have el : (linesT (s :: ss)).length = (lnT s).length + (linesT ss).length := by simp [linesT]
    rw [el]
    show some (s :: ss, _) = _
    congr 2
    omega
theorem lines_len : ∀ (ss : List ByteArray), (∀ s ∈ ss, okH s = true) → ss.length ≤ (linesT ss).length := by
  intro ss
  induction ss with
  | nil => intro _; exact Nat.le_refl _
  | cons s ss ih =>
    intro h
    have := lnT_pos (h s (by simp))
    have := ih (fun x hx => h x (by simp [hx]))
    have el : (linesT (s :: ss)).length = (lnT s).length + (linesT ss).length := by simp [linesT]
    rw [el, List.length_cons]
    omega
theorem hk_hit {t : ByteArray} {p : Nat} {h : Hk} {R : List UInt8} (hk : Hok h) (e : t.data.toList.drop p = hkT h ++ R) (hR : R.head? ≠ some 92) : hkP t p = some (h, p + (hkT h).length) := by
  obtain ⟨x0, x1, ss⟩ := h
  have hs : ∀ s ∈ ss, okH s = true := fun s hm => List.all_eq_true.1 hk.ok s hm
  have k0 := hk.a0
  have k1 := hk.a1
  have kn := hk.n
  simp only [] at k0 k1 kn
  have b1 := oldN_bd ss
  have b2 := newN_bd ss
  have e' : t.data.toList.drop p = (headB x0.toNat (oldN ss).toNat x1.toNat (newN ss).toNat).data.toList ++ (linesT ss ++ R) := by
    rw [e]
    unfold hkT headT
    rw [List.append_assoc]
  have hf := fst_hit e' (by omega) (by omega) (by omega) (by omega)
  rw [show ((x0.toNat : Nat) : Int) = x0 by omega, show (((oldN ss).toNat : Nat) : Int) = oldN ss by omega, show ((x1.toNat : Nat) : Int) = x1 by omega, show (((newN ss).toNat : Nat) : Int) = newN ss by omega] at hf
  have d := drop_on e'
  have hl : ss.length < t.size + 1 := by
    have h1 := lines_len ss hs
    have h2 := congrArg List.length d
    rw [List.length_drop, List.length_append] at h2
    have : t.data.toList.length = t.size := by simp
    omega
  have hr := rdL_hit ss (t.size + 1) _ R hs hl d hR
  rw [hk_some hf, hr]
  have el : (hkT (x0, x1, ss)).length = (headB x0.toNat (oldN ss).toNat x1.toNat (newN ss).toNat).data.toList.length + (linesT ss).length := by
    unfold hkT headT
    rw [List.length_append]
  rw [el]
  show some ((x0, x1, [] ++ ss), _) = _
  rw [List.nil_append]
  congr 2
  omega
theorem hkT_head (h : Hk) (R : List UInt8) : (hkT h ++ R).head? = some 64 := by
  unfold hkT headT
  rw [head_parts]
  rfl
theorem fp_head (L : List Hk) : (fpL L).head? ≠ some 92 := by
  cases L with
  | nil => intro c; cases c
  | cons h L =>
    have e : fpL (h :: L) = hkT h ++ fpL L := by simp [fpL]
    rw [e, hkT_head]
    decide
theorem ppL_hit {t : ByteArray} : ∀ (L : List Hk) (f p : Nat), (∀ h ∈ L, Hok h) → t.data.toList.drop p = fpL L → L.length < f → ppL t f p = (L, true) := by
  intro L
  induction L with
  | nil =>
    intro f p _ h hf
    obtain ⟨f, rfl⟩ : ∃ g, f = g + 1 := ⟨f - 1, by simp at hf; omega⟩
    apply ppL_end
    have := congrArg List.length h
    rw [List.length_drop] at this
    have e : t.data.toList.length = t.size := by simp
    have : (fpL ([] : List Hk)).length = 0 := rfl
    omega
  | cons x L ih =>
    intro f p hk h hf
    obtain ⟨f, rfl⟩ : ∃ g, f = g + 1 := ⟨f - 1, by simp at hf; omega⟩
    have e : t.data.toList.drop p = hkT x ++ fpL L := by rw [h]; simp [fpL]
    have hh := hk_hit (hk x (by simp)) e (fp_head L)
    have hp : ¬ t.size ≤ p := fun c => by
      have : t.data.toList.drop p = [] := List.drop_of_length_le (by simp; omega)
      rw [this] at e
      have := congrArg List.head? e
      rw [hkT_head] at this
      cases this
    rw [ppL_go hp hh, ih f _ (fun y hy => hk y (by simp [hy])) (drop_on e) (by simp at hf; omega)]
theorem fp_len : ∀ (L : List Hk), L.length ≤ (fpL L).length := by
  intro L
  induction L with
  | nil => exact Nat.le_refl _
  | cons x L ih =>
    have e : fpL (x :: L) = hkT x ++ fpL L := by simp [fpL]
    have : 0 < (hkT x).length := List.length_pos_iff.2 (head_pos x)
    rw [e, List.length_append, List.length_cons]
    omega
/-- Hunks that are written and read are what was written. -/
theorem fp_back {L : List Hk} (h : fpC L = 0) : ppR (fpT L) = 0 ∧ ppH (fpT L) = L := by
  have hf0 : hf L = 0 := by
    unfold fpC at h
    split at h
    · assumption
    · exact h
  have hl : ¬ 8000 < (fpL L).length := fun c => by rw [(fp_many hf0 c).1] at h; cases h
  have ht : (fpT L).data.toList = fpL L := by rw [(fp_ok hf0 hl).2]
  have hz : (fpT L).size = (fpL L).length := by rw [← ht]; simp
  have hp : pp (fpT L) = (L, true) := ppL_hit L _ 0 (hf_all hf0).2 ht (by have := fp_len L; omega)
  obtain ⟨e1, _, e3⟩ := pp_all (t := fpT L) (by omega) (by rw [hp])
  rw [hp] at e1 e3
  exact ⟨e1.trans hf0, e3.trans (if_pos hf0)⟩
end Go.Proofs.YtnkbjbbaoddfkaaGreatDoor.Pp
