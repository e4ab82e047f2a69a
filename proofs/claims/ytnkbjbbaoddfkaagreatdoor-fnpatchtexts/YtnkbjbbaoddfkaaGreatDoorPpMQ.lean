/- Numbers and words of a patch's text. Plain mathematics; spec.l3Word and spec.l3Number. No statement is proved here. -/
import Derived.Test.YtnkbjbbaoddfkaaGreatDoorRows
import Derived.Test.YtnkbjbbaoddfkaaGreatDoorLemQ
import Derived.Test.YtnkbjbbaoddfkaaGreatDoorLFLemQ
import Derived.WalkKit
import Derived.ProofKit
import Derived.Below
import Derived.WalkSpells
import Derived.Deep.CutRange
import Derived.Test.YtnkbjbbaoddfkaaGreatDoorDTabQ
import Derived.Test.YtnkbjbbaoddfkaaGreatDoorHkLQ
import Derived.Test.YtnkbjbbaoddfkaaGreatDoorHkCQ
import Derived.Test.YtnkbjbbaoddfkaaGreatDoorHkTQ
import Derived.Maps.AppendAt
set_option linter.unusedVariables false
namespace Go.Proofs.YtnkbjbbaoddfkaaGreatDoor.Pp
open Go.ChangeShapes Go.WideShapes Go.ChangeAt Go.RowKit

/-- Where a word at a place ends; -1: it is not there. -/
def wd (t w : ByteArray) (a : Nat) : Int := if t.extract a (a + w.size) = w then (a + w.size : Nat) else -1
theorem wd_yes {t w : ByteArray} {a : Nat} (h : t.extract a (a + w.size) = w) : wd t w a = ((a + w.size : Nat) : Int) := if_pos h
theorem wd_no {t w : ByteArray} {a : Nat} (h : ¬ t.extract a (a + w.size) = w) : wd t w a = -1 := if_neg h
theorem ext_size (t : ByteArray) (a b : Nat) : (t.extract a b).size = min b t.size - a := by simp
theorem wd_long {t w : ByteArray} {a : Nat} (hw : 0 < w.size) (h : t.size < a + w.size) : ¬ t.extract a (a + w.size) = w := fun e => by
  have := congrArg ByteArray.size e
  rw [ext_size] at this
  omega
set_option maxHeartbeats 1000000 in
theorem l3Word (t w : ByteArray) (a : Nat) (W : World) (ht : t.size ≤ 1048576) (hw : 0 < w.size) (hw2 : w.size ≤ 1000) (ha : a ≤ t.size) :
    Calls Tryz.prog 48 #[.string t, .int .i64 a, .string w] W fun e W' => e = .returned (.int .i64 (wd t w a)) ∧ W' = W := by
  have qa : decide ((a : Int) < 0) = false := decide_eq_false (by omega)
  have qb : ¬ (a : Int) < 0 := by omega
  by_cases hl : t.size < a + w.size
  · have HR : Hid (wd t w a = -1) := wd_no (wd_long hw hl)
    have q1 : ((t.size : Nat) : Int) < (a : Int) + (w.size : Int) := by omega
    go_enter Tryz.func48, Tryz.ntmps48
    go_wp2
    go_ret
    exact ⟨ret_int HR.out.symm, rfl⟩
  · have q1 : ¬ ((t.size : Nat) : Int) < (a : Int) + (w.size : Int) := by omega
    have q2 : (a : Int) + (w.size : Int) ≤ (t.size : Int) := by omega
    have q3 : ((a : Int) + (w.size : Int)).toNat = a + w.size := by omega
    by_cases he : t.extract a (a + w.size) = w
    · have HR : Hid (wd t w a = (a : Int) + (w.size : Int)) := by show _ = _; rw [wd_yes he]; push_cast; rfl
      have hb : ((t.extract a (a + w.size)).toList == w.toList) = true := beq_bytes_true he
      clear he
      go_enter Tryz.func48, Tryz.ntmps48
      go_wp2
      go_ret
      exact ⟨ret_int HR.out.symm, rfl⟩
    · have HR : Hid (wd t w a = -1) := wd_no he
      have hb : ((t.extract a (a + w.size)).toList == w.toList) = false := beq_bytes_false he
      clear he
      go_enter Tryz.func48, Tryz.ntmps48
      go_wp2
      go_ret
      exact ⟨ret_int HR.out.symm, rfl⟩
def isDg (c : UInt8) : Bool := decide (48 ≤ c.toNat ∧ c.toNat ≤ 57)
def dgs (l : List UInt8) : List UInt8 := l.takeWhile isDg
def dval (d : List UInt8) : Nat := d.foldl (fun a c => a * 10 + (c.toNat - 48)) 0
/-- A number may stand there. -/
def okN (l : List UInt8) : Bool := decide (1 ≤ (dgs l).length ∧ (dgs l).length ≤ 4 ∧ ¬ (1 < (dgs l).length ∧ l.head? = some 48))
def nmV (t : ByteArray) (a : Nat) : Int := if okN (t.data.toList.drop a) = true then dval (dgs (t.data.toList.drop a)) else 0
def nmE (t : ByteArray) (a : Nat) : Int := if okN (t.data.toList.drop a) = true then ((a + (dgs (t.data.toList.drop a)).length : Nat) : Int) else -1
theorem dgs_take : ∀ (l : List UInt8) (k : Nat), (∀ x ∈ l.take k, isDg x = true) → k ≤ l.length → (k = l.length ∨ ∃ c, l[k]? = some c ∧ isDg c = false) → dgs l = l.take k := by
  intro l
  induction l with
  | nil => intro k _ hk _; simp [dgs]
  | cons c l ih =>
    intro k h hk hs
    cases k with
    | zero =>
      rcases hs with e | ⟨x, e, hx⟩
      · simp at e
      · simp at e
        subst e
        simp [dgs, hx]
    | succ k =>
      have hc : isDg c = true := h c (by simp)
      have := ih k (fun x hx => h x (by simp [hx])) (by simpa using hk) (by
        rcases hs with e | ⟨x, e, hx⟩
        · left; simpa using e
        · right; exact ⟨x, by simpa using e, hx⟩)
      unfold dgs at this ⊢
      rw [List.takeWhile_cons, if_pos hc, this]
      simp
theorem dgs_five (l : List UInt8) (h : ∀ x ∈ l.take 5, isDg x = true) (hl : 5 ≤ l.length) : 5 ≤ (dgs l).length := by
  match l, hl with
  | a :: b :: c :: d :: e :: r, _ =>
    have h0 := h a (by simp)
    have h1 := h b (by simp)
    have h2 := h c (by simp)
    have h3 := h d (by simp)
    have h4 := h e (by simp)
    unfold dgs
    simp only [List.takeWhile_cons, h0, h1, h2, h3, h4, if_true, List.length_cons]
    omega
theorem dval_snoc (d : List UInt8) (c : UInt8) : dval (d ++ [c]) = dval d * 10 + (c.toNat - 48) := by unfold dval; rw [List.foldl_append]; rfl
theorem fold_bd : ∀ (d : List UInt8) (acc n : Nat), (∀ x ∈ d, isDg x = true) → acc < 10 ^ n → d.foldl (fun a c => a * 10 + (c.toNat - 48)) acc < 10 ^ (n + d.length) := by
  intro d
  induction d with
  | nil => intro acc n _ h; simpa using h
  | cons c d ih =>
    intro acc n h ha
    have h2 := of_decide_eq_true (h c (by simp))
    have h3 := ih (acc * 10 + (c.toNat - 48)) (n + 1) (fun x hx => h x (by simp [hx])) (by rw [Nat.pow_succ]; omega)
    rw [List.foldl_cons, List.length_cons]
    have e : n + (d.length + 1) = n + 1 + d.length := by omega
    rw [e]
    exact h3
theorem dval_bd (d : List UInt8) (h : ∀ x ∈ d, isDg x = true) : dval d < 10 ^ d.length := by
  have := fold_bd d 0 0 h (by decide)
  simpa [dval] using this
end Go.Proofs.YtnkbjbbaoddfkaaGreatDoor.Pp
/- spec.l3Number: a number at a place of a text. No statement is proved here. -/
set_option linter.unusedVariables false
namespace Go.Proofs.YtnkbjbbaoddfkaaGreatDoor.Pp
open Go.ChangeShapes Go.WideShapes Go.ChangeAt Go.RowKit

theorem at_drop (t : ByteArray) (a k : Nat) (h : a + k < t.size) : (t.data.toList.drop a)[k]? = some (t[a + k]'h) := by
  rw [List.getElem?_drop, List.getElem?_eq_getElem (by simpa using h)]
  rfl
theorem take_next (t : ByteArray) (a k : Nat) (h : a + k < t.size) : (t.data.toList.drop a).take (k + 1) = (t.data.toList.drop a).take k ++ [t[a + k]'h] := by
  have hk : k < (t.data.toList.drop a).length := by rw [List.length_drop]; simp; omega
  rw [List.take_succ_eq_append_getElem hk]
  have := at_drop t a k h
  rw [List.getElem?_eq_getElem hk] at this
  rw [Option.some.inj this]
/-- Where the digits end: k of them from a on. -/
structure Dg (t : ByteArray) (a k : Nat) : Prop where
  all : ∀ x ∈ (t.data.toList.drop a).take k, isDg x = true
  le : a + k ≤ t.size
  five : k ≤ 5
theorem Dg.len {t : ByteArray} {a k : Nat} (h : Dg t a k) : k ≤ (t.data.toList.drop a).length := by
  have := h.le
  rw [List.length_drop]
  simp
  omega
theorem Dg.stop {t : ByteArray} {a k : Nat} (h : Dg t a k) (hs : ∀ q : a + k < t.size, isDg (t[a + k]'q) = false) : dgs (t.data.toList.drop a) = (t.data.toList.drop a).take k := by
  refine dgs_take _ k h.all h.len ?_
  by_cases q : a + k < t.size
  · exact .inr ⟨_, at_drop t a k q, hs q⟩
  · left
    have := h.le
    rw [List.length_drop]
    simp
    omega
/-- What is told where the digits end. -/
theorem Dg.told {t : ByteArray} {a k : Nat} (h : Dg t a k) (hs : k < 5 → dgs (t.data.toList.drop a) = (t.data.toList.drop a).take k) :
    (k = 0 → nmV t a = 0 ∧ nmE t a = -1) ∧ (4 < k → nmV t a = 0 ∧ nmE t a = -1) ∧
    (0 < k → k ≤ 4 → ∀ q : a < t.size, (1 < k ∧ (t[a]'q).toNat = 48 → nmV t a = 0 ∧ nmE t a = -1) ∧ (¬ (1 < k ∧ (t[a]'q).toNat = 48) → nmV t a = dval ((t.data.toList.drop a).take k) ∧ nmE t a = ((a + k : Nat) : Int))) := by
  have hl := h.len
  have bad : okN (t.data.toList.drop a) = false → nmV t a = 0 ∧ nmE t a = -1 := fun e => ⟨if_neg (by rw [e]; decide), if_neg (by rw [e]; decide)⟩
  refine ⟨fun e => bad ?_, fun e => bad ?_, fun h0 h4 q => ⟨fun e => bad ?_, fun e => ?_⟩⟩
  · subst e
    have := hs (by omega)
    unfold okN
    rw [this]
    simp
  · have h5 : k = 5 := by have := h.five; omega
    subst h5
    have := dgs_five _ h.all hl
    unfold okN
    exact decide_eq_false (fun x => by omega)
  · have hd := hs (by omega)
    have hlen : (dgs (t.data.toList.drop a)).length = k := by rw [hd, List.length_take]; omega
    have hh : (t.data.toList.drop a).head? = some (t[a]'q) := by
      have := at_drop t a 0 (by omega)
      rw [List.head?_eq_getElem?]
      exact this
    unfold okN
    refine decide_eq_false (fun x => x.2.2 ⟨by omega, ?_⟩)
    rw [hh]
    congr 1
    apply UInt8.toNat_inj.1
    rw [e.2]; rfl
  · have hd := hs (by omega)
    have hlen : (dgs (t.data.toList.drop a)).length = k := by rw [hd, List.length_take]; omega
    have hh : (t.data.toList.drop a).head? = some (t[a]'q) := by
      have := at_drop t a 0 (by omega)
      rw [List.head?_eq_getElem?]
      exact this
    have ok : okN (t.data.toList.drop a) = true := by
      unfold okN
      refine decide_eq_true ⟨by omega, by omega, fun x => e ⟨by omega, ?_⟩⟩
      have := x.2
      rw [hh] at this
      have := Option.some.inj this
      rw [this]; rfl
    unfold nmV nmE
    rw [if_pos ok, if_pos ok, hlen, hd]
    exact ⟨rfl, rfl⟩
theorem ret_n2 {a b c d : Int} (h : a = c) (k : b = d) : Ending.returned (.tuple #[.int .i64 a, .int .i64 b]) = .returned (.tuple #[.int .i64 c, .int .i64 d]) := by rw [h, k]
set_option maxRecDepth 20000 in
set_option maxHeartbeats 4000000 in
theorem l3Number (t : ByteArray) (a : Nat) (W : World) (ht : t.size ≤ 1048576) (ha : a ≤ t.size) :
    Calls Tryz.prog 68 #[.string t, .int .i64 a] W fun e W' => e = .returned (.tuple #[.int .i64 (nmV t a), .int .i64 (nmE t a)]) ∧ W' = W := by
  go_enter Tryz.func68, Tryz.ntmps68
  go_wp2
  go_loopw [1, 6] (fun i n wr => ∃ k p : Nat, i = .int .i64 p ∧ Hid (p = a + k) ∧ Dg t a k ∧ n = .int .i64 (dval ((t.data.toList.drop a).take k)) ∧ W = wr) (fun i _ _ => t.size - (intOf i).toNat)
  case atStart => exact ⟨0, a, rfl, rfl, ⟨fun x hx => by simp at hx, ha, by omega⟩, rfl, rfl⟩
  case round =>
    obtain ⟨k, p, rfl, hp, hD, rfl, rfl⟩ := hrel
    have hv := dval_bd _ hD.all
    have hvl : ((t.data.toList.drop a).take k).length ≤ 5 := by rw [List.length_take]; have := hD.five; omega
    have hv5 : dval ((t.data.toList.drop a).take k) < 100000 := Nat.lt_of_lt_of_le hv (Nat.pow_le_pow_right (by decide) hvl)
    have hle := hD.le
    have h5 := hD.five
    have hple : p ≤ t.size := by have := hp.out; omega
    have qk : (p : Int) - (a : Int) = (k : Int) := by have := hp.out; omega
    obtain ⟨N, hN⟩ : ∃ N, dval ((t.data.toList.drop a).take k) = N := ⟨_, rfl⟩
    have HNe : Hid (dval ((t.data.toList.drop a).take k) = N) := hN
    rw [hN] at hv5 ⊢
    clear hN hv hvl
    obtain ⟨D, hDe⟩ : ∃ D : Bool, decide (∃ q : p < t.size, isDg (t[p]'q) = true ∧ k < 5) = D := ⟨_, rfl⟩
    have HDe : Hid (decide (∃ q : p < t.size, isDg (t[p]'q) = true ∧ k < 5) = D) := hDe
    clear hDe
    go_upto_region 3 with fail
    go_cut [30] from 9 to 31 (fun s wx => s = .bool D ∧ W = wx)
    case first =>
      by_cases q : p < t.size
      · have q1 : (p : Int) < (t.size : Int) := by omega
        obtain ⟨c, hc⟩ : ∃ c, (t[p]'q).toNat = c := ⟨_, rfl⟩
        have dg : isDg (t[p]'q) = decide (48 ≤ c ∧ c ≤ 57) := by unfold isDg; rw [hc]
        have hc2 : c < 256 := by rw [← hc]; exact (t[p]'q).toNat_lt
        by_cases c1 : 48 ≤ c
        · by_cases c2 : c ≤ 57
          · by_cases k5 : k < 5
            · have HR : Hid (D = true) := HDe.out.symm.trans (decide_eq_true ⟨q, by rw [dg]; exact decide_eq_true ⟨c1, c2⟩, k5⟩)
              have x1 : (48 : Int) ≤ (c : Int) := by omega
              have x2 : (c : Int) ≤ 57 := by omega
              have x3 : (k : Int) < 5 := by omega
              clear HDe hp hD dg HNe
              go_wp2
              go_meet
              exact ⟨by rw [HR.out], rfl⟩
            · have HR : Hid (D = false) := HDe.out.symm.trans (decide_eq_false (fun ⟨_, _, x⟩ => k5 x))
              have x1 : (48 : Int) ≤ (c : Int) := by omega
              have x2 : (c : Int) ≤ 57 := by omega
              have x3 : ¬ (k : Int) < 5 := by omega
              clear HDe hp hD dg HNe
              go_wp2
              go_meet
              exact ⟨by rw [HR.out], rfl⟩
          · have HR : Hid (D = false) := HDe.out.symm.trans (decide_eq_false (fun ⟨_, x, _⟩ => by rw [dg] at x; exact c2 (of_decide_eq_true x).2))
            have x1 : (48 : Int) ≤ (c : Int) := by omega
            have x2 : ¬ (c : Int) ≤ 57 := by omega
            clear HDe hp hD dg HNe
            go_wp2
            go_meet
            exact ⟨by rw [HR.out], rfl⟩
        · have HR : Hid (D = false) := HDe.out.symm.trans (decide_eq_false (fun ⟨_, x, _⟩ => by rw [dg] at x; exact c1 (of_decide_eq_true x).1))
          have x1 : ¬ (48 : Int) ≤ (c : Int) := by omega
          clear HDe hp hD dg HNe
          go_wp2
          go_meet
          exact ⟨by rw [HR.out], rfl⟩
      · have HR : Hid (D = false) := HDe.out.symm.trans (decide_eq_false (fun ⟨x, _⟩ => q x))
        have q1 : ¬ (p : Int) < (t.size : Int) := by omega
        clear HDe hp hD HNe
        go_wp2
        go_meet
        exact ⟨by rw [HR.out], rfl⟩
    case rest =>
    obtain ⟨rfl, rfl⟩ := hcut
    cases D with
    | true =>
      obtain ⟨q, hdg, k5⟩ := of_decide_eq_true HDe.out
      obtain ⟨c, hc⟩ : ∃ c, (t[p]'q).toNat = c := ⟨_, rfl⟩
      have hcd : 48 ≤ c ∧ c ≤ 57 := by
        have := of_decide_eq_true hdg
        rw [hc] at this
        exact this
      have eN := take_next t a k (by have := hp.out; omega)
      have ep : t[a + k]'(by have := hp.out; omega) = t[p]'q := by
        have := hp.out
        subst this
        rfl
      rw [ep] at eN
      have HV : Hid (dval ((t.data.toList.drop a).take (k + 1)) = N * 10 + (c - 48)) := by show _ = _; rw [eN, dval_snoc, HNe.out, hc]
      have HDn : Hid (Dg t a (k + 1)) := ⟨fun x hx => by
        rw [eN] at hx
        rcases List.mem_append.1 hx with hx | hx
        · exact hD.all x hx
        · rw [List.mem_singleton] at hx; subst hx; exact hdg, by have := hp.out; omega, by omega⟩
      have HPn : Hid (p + 1 = a + (k + 1)) := by have := hp.out; show _ = _; omega
      have x1 : (0 : Int) ≤ (c : Int) - 48 := by omega
      have x2 : (c : Int) - 48 < 256 := by omega
      have hwr : IntKind.u8.wrap ((c : Int) - 48) = (c : Int) - 48 := by rw [IntKind.wrap_u8]; omega
      clear HDe eN ep hdg HNe hp hD
      go_wp2
      go_roundw
      case rel => exact ⟨k + 1, p + 1, by go_num, HPn.out, HDn.out, by rw [HV.out]; congr 1; push_cast; omega, trivial⟩
      case measure => first | (simp [intOf]; omega) | simp [intOf]
    | false =>
      have hs : k < 5 → dgs (t.data.toList.drop a) = (t.data.toList.drop a).take k := fun k5 => hD.stop (fun q => by
        cases e : isDg (t[a + k]'q) with
        | false => rfl
        | true =>
          have hpq : p = a + k := hp.out
          subst hpq
          exact absurd (⟨q, e, k5⟩ : ∃ q : a + k < t.size, isDg (t[a + k]'q) = true ∧ k < 5) (of_decide_eq_false HDe.out))
      obtain ⟨T1, T2, T3⟩ := hD.told hs
      by_cases k0 : k = 0
      · have HR : Hid (nmV t a = 0 ∧ nmE t a = -1) := T1 k0
        have e : ((p : Int) == (a : Int)) = true := by have := hp.out; simp; omega
        clear T1 T2 T3 hs HDe HNe hD hp qk
        go_wp2
        refine bodyPost_ret (v := .tuple #[.int .i64 0, .int .i64 (-1)]) (by simp [results, Tryz.results68, go_sem]) rfl ?_
        exact ⟨ret_n2 HR.out.1.symm HR.out.2.symm, rfl⟩
      have e : ((p : Int) == (a : Int)) = false := by have := hp.out; simp; omega
      by_cases k4 : 4 < k
      · have HR : Hid (nmV t a = 0 ∧ nmE t a = -1) := T2 k4
        have x1 : (4 : Int) < (k : Int) := by omega
        clear T1 T2 T3 hs HDe HNe hD hp
        go_wp2
        refine bodyPost_ret (v := .tuple #[.int .i64 0, .int .i64 (-1)]) (by simp [results, Tryz.results68, go_sem]) rfl ?_
        exact ⟨ret_n2 HR.out.1.symm HR.out.2.symm, rfl⟩
      have x1 : ¬ (4 : Int) < (k : Int) := by omega
      have q : a < t.size := by omega
      obtain ⟨T4, T5⟩ := T3 (by omega) (by omega) q
      have q1 : (a : Int) < (t.size : Int) := by omega
      obtain ⟨c, hc⟩ : ∃ c, (t[a]'q).toNat = c := ⟨_, rfl⟩
      rw [hc] at T4 T5
      by_cases kk : 1 < k
      · have x2 : (1 : Int) < (k : Int) := by omega
        by_cases cz : c = 48
        · have HR : Hid (nmV t a = 0 ∧ nmE t a = -1) := T4 ⟨kk, cz⟩
          subst cz
          clear T1 T2 T3 T4 T5 hs HDe HNe hD hp
          go_wp2
          refine bodyPost_ret (v := .tuple #[.int .i64 0, .int .i64 (-1)]) (by simp [results, Tryz.results68, go_sem]) rfl ?_
          exact ⟨ret_n2 HR.out.1.symm HR.out.2.symm, rfl⟩
        · have HR : Hid (nmV t a = N ∧ nmE t a = p) := by
            have := T5 (fun x => cz x.2)
            rw [HNe.out] at this
            exact ⟨this.1, by rw [this.2, ← hp.out]⟩
          have x3 : ((c : Int) == 48) = false := by simp; omega
          clear T1 T2 T3 T4 T5 hs HDe HNe hD hp
          go_wp2
          refine bodyPost_ret (v := .tuple #[.int .i64 N, .int .i64 p]) (by simp [results, Tryz.results68, go_sem]) rfl ?_
          exact ⟨ret_n2 HR.out.1.symm HR.out.2.symm, rfl⟩
      · have x2 : ¬ (1 : Int) < (k : Int) := by omega
        have HR : Hid (nmV t a = N ∧ nmE t a = p) := by
          have := T5 (fun x => kk x.1)
          rw [HNe.out] at this
          exact ⟨this.1, by rw [this.2, ← hp.out]⟩
        clear T1 T2 T3 T4 T5 hs HDe HNe hD hp
        go_wp2
        refine bodyPost_ret (v := .tuple #[.int .i64 N, .int .i64 p]) (by simp [results, Tryz.results68, go_sem]) rfl ?_
        exact ⟨ret_n2 HR.out.1.symm HR.out.2.symm, rfl⟩
end Go.Proofs.YtnkbjbbaoddfkaaGreatDoor.Pp
/- spec.l3First: the numbers of a hunk's first line. No statement is proved here. -/
set_option linter.unusedVariables false
namespace Go.Proofs.YtnkbjbbaoddfkaaGreatDoor.Pp
open Go.ChangeShapes Go.WideShapes Go.ChangeAt Go.RowKit

/-- The words of the first line. -/
def mkW (k : Nat) : ByteArray := if k = 0 then ⟨#[64, 64, 32, 45]⟩ else if k = 1 then ⟨#[44]⟩ else if k = 2 then ⟨#[32, 43]⟩ else if k = 3 then ⟨#[44]⟩ else ⟨#[32, 64, 64, 10]⟩
theorem mkW_bd (k : Nat) : 0 < (mkW k).size ∧ (mkW k).size ≤ 4 := by
  unfold mkW
  split
  · decide
  · split
    · decide
    · split
      · decide
      · split <;> decide
/-- One word, and a number behind it. -/
def stp (t : ByteArray) (k : Nat) (s : List Int × Nat) : Option (List Int × Nat) := if wd t (mkW k) s.2 < 0 then none else if nmE t (wd t (mkW k) s.2).toNat < 0 then none else some (s.1 ++ [nmV t (wd t (mkW k) s.2).toNat], (nmE t (wd t (mkW k) s.2).toNat).toNat)
def fstK (t : ByteArray) (a : Nat) : Nat → Option (List Int × Nat)
  | 0 => some ([], a)
  | k + 1 => (fstK t a k).bind (stp t k)
/-- The four numbers, and where the line ends. -/
def fst1 (t : ByteArray) (a : Nat) : Option (List Int × Nat) := (fstK t a 4).bind fun s => if wd t (mkW 4) s.2 < 0 then none else some (s.1, (wd t (mkW 4) s.2).toNat)
theorem fst_none {t : ByteArray} {a : Nat} : ∀ (m k : Nat), fstK t a k = none → k + m = 4 → fst1 t a = none := by
  intro m
  induction m with
  | zero => intro k h e; have : k = 4 := by omega
            subst this; unfold fst1; rw [h]; rfl
  | succ m ih => intro k h e; exact ih (k + 1) (by rw [fstK, h]; rfl) (by omega)
theorem all_dgs : ∀ (l : List UInt8), ∀ x ∈ dgs l, isDg x = true := by
  intro l
  induction l with
  | nil => intro x hx; simp [dgs] at hx
  | cons c l ih =>
    intro x hx
    unfold dgs at hx ih
    rw [List.takeWhile_cons] at hx
    split at hx
    · rename_i hc
      rcases List.mem_cons.1 hx with rfl | hx
      · exact hc
      · exact ih x hx
    · cases hx
theorem wd_bd {t w : ByteArray} {a : Nat} (ha : a ≤ t.size) (h : ¬ wd t w a < 0) : ∃ q : Nat, wd t w a = q ∧ q ≤ t.size ∧ a + w.size = q := by
  unfold wd at h ⊢
  split
  · rename_i e
    refine ⟨a + w.size, rfl, ?_, rfl⟩
    have := congrArg ByteArray.size e
    rw [ext_size] at this
    omega
  · rename_i e
    rw [if_neg e] at h
    omega
theorem nm_bd {t : ByteArray} {a : Nat} (ha : a ≤ t.size) (h : ¬ nmE t a < 0) : ∃ q : Nat, nmE t a = q ∧ q ≤ t.size ∧ a < q ∧ 0 ≤ nmV t a ∧ nmV t a < 10000 := by
  unfold nmE at h ⊢
  split
  · rename_i e
    have hk := of_decide_eq_true e
    have hp : dgs (t.data.toList.drop a) <+: t.data.toList.drop a := List.takeWhile_prefix _
    have hl := hp.length_le
    rw [List.length_drop] at hl
    have hz : t.data.toList.length = t.size := by simp
    refine ⟨_, rfl, by omega, by omega, ?_, ?_⟩
    · unfold nmV; rw [if_pos e]; omega
    · unfold nmV; rw [if_pos e]
      have h1 := dval_bd (dgs (t.data.toList.drop a)) (fun x hx => by
        exact all_dgs _ x hx)
      have h2 : 10 ^ (dgs (t.data.toList.drop a)).length ≤ 10 ^ 4 := Nat.pow_le_pow_right (by decide) hk.2.1
      omega
  · rename_i e
    rw [if_neg e] at h
    omega
/-- What l3First tells. -/
def FiP (t : ByteArray) (a : Nat) (w : World) (e : Ending) (w' : World) : Prop :=
  (fst1 t a = none ∧ e = .returned (.tuple #[.slice none 0 0, .int .i64 (-1)]) ∧ Below w.heap.size w w') ∨
  (∃ ns q v, fst1 t a = some (ns, q) ∧ e = .returned (.tuple #[v, .int .i64 (q : Nat)]) ∧ w'.ownsRow w.heap.size 2 1 v ns.length (intCells ns) ∧ ns.length = 4 ∧ (∀ x ∈ ns, 0 ≤ x ∧ x < 10000) ∧ a < q ∧ q ≤ t.size ∧ Below w.heap.size w w')
theorem infoI64 : (Tryz.prog.info? 2).map (fun i => (i.zero, i.size, i.bytes)) = some (some (.int .i64 0), 1, 8) := by kernel_rfl
theorem shapeI {w : World} {base : Nat} {v : Value} {n : Nat} {xs : List Value} (h : w.ownsRow base 2 1 v n xs) : ∃ a c, v = .slice a n c := by
  rcases h.2 with ⟨rfl, rfl⟩ | ⟨g, cap, cur, rfl, _⟩
  · exact ⟨_, _, rfl⟩
  · exact ⟨_, _, rfl⟩
theorem ownMonoI {w : World} {base b : Nat} {v : Value} {n : Nat} {xs : List Value} (h : w.ownsRow base 2 1 v n xs) (hb : b ≤ base) : w.ownsRow b 2 1 v n xs := by
  refine ⟨h.1, ?_⟩
  rcases h.2 with hn | ⟨g, cap, cur, hv, hg, r⟩
  · exact .inl hn
  · exact .inr ⟨g, cap, cur, hv, Nat.le_trans hb hg, r⟩
set_option maxRecDepth 20000 in
set_option maxHeartbeats 4000000 in
theorem l3First (t : ByteArray) (a : Nat) (w : World) (ht : t.size ≤ 1048576) (ha : a ≤ t.size) :
    Calls Tryz.prog 46 #[.string t, .int .i64 a] w fun e w' => FiP t a w e w' := by
  obtain ⟨i0, hi, hz0, hz1, hz2⟩ := info_parts infoI64
  obtain ⟨W1, hW1⟩ : ∃ W, w.alloc (.cells #[.string ⟨#[64, 64, 32, 45]⟩, .string ⟨#[44]⟩, .string ⟨#[32, 43]⟩, .string ⟨#[44]⟩, .string ⟨#[32, 64, 64, 10]⟩] 9) = W := ⟨_, rfl⟩
  have b1 : Below w.heap.size w W1 := by rw [← hW1]; exact allocBelow _ _
  have R1 : Rs W1 w.heap.size [.string ⟨#[64, 64, 32, 45]⟩, .string ⟨#[44]⟩, .string ⟨#[32, 43]⟩, .string ⟨#[44]⟩, .string ⟨#[32, 64, 64, 10]⟩] := by rw [← hW1]; exact Rs.new _ _ _
  have z1 : w.heap.size < W1.heap.size := by rw [← hW1]; simp
  obtain ⟨W2, hW2⟩ : ∃ W, W1.alloc (.cells #[] 2) = W := ⟨_, rfl⟩
  have b2 : Below W1.heap.size W1 W2 := by rw [← hW2]; exact allocBelow _ _
  have o2 : W2.ownsRow W1.heap.size 2 1 (.slice (some ⟨W1.heap.size, 0, none⟩) 0 0) ([] : List Int).length (intCells []) := by rw [← hW2]; exact World.ownsRow_lit W1 #[] 0 (Nat.le_refl _) (Nat.zero_le _) rfl
  have z2 : W1.heap.size ≤ W2.heap.size := b2.size
  obtain ⟨g, hg⟩ : ∃ g, w.heap.size = g := ⟨_, rfl⟩
  rw [hg] at R1 z1
  obtain ⟨M, hM⟩ : ∃ M, W1.heap.size = M := ⟨_, rfl⟩
  rw [hM] at o2 z1
  have HM : Hid (W1.heap.size = M) := hM
  have RW : ∀ k, k < 5 → W1.cell? ⟨g, k, none⟩ = some (.string (mkW k)) := fun k hk => by
    match k, hk with
    | 0, _ => exact R1 0 _ rfl
    | 1, _ => exact R1 1 _ rfl
    | 2, _ => exact R1 2 _ rfl
    | 3, _ => exact R1 3 _ rfl
    | 4, _ => exact R1 4 _ rfl
  have HRW : Hid (∀ k, k < 5 → W1.cell? ⟨g, k, none⟩ = some (.string (mkW k))) := RW
  clear RW R1
  go_enter Tryz.func46, Tryz.ntmps46
  go_wp2
  go_loopw [1, 7, 8] (fun i v k' wr => ∃ (k p : Nat) (ns : List Int), k ≤ 4 ∧ k' = .int .i64 k ∧ i = .int .i64 p ∧ Hid (fstK t a k = some (ns, p)) ∧ Hid (ns.length = k) ∧ (∀ x ∈ ns, 0 ≤ x ∧ x < 10000) ∧ a ≤ p ∧ p ≤ t.size ∧ (0 < k → a < p) ∧ wr.ownsRow M 2 1 v ns.length (intCells ns) ∧ Below M W1 wr ∧ M ≤ wr.heap.size) (fun _ _ k' _ => 5 - (intOf k').toNat)
  case atStart => exact ⟨0, a, [], by omega, rfl, rfl, rfl, rfl, fun x hx => (by cases hx), Nat.le_refl _, ha, fun h => absurd h (by omega), o2, (by rw [← HM.out]; exact b2), by omega⟩
  case round =>
    obtain ⟨k, p, ns, hk, rfl, rfl, hF, hL, hB, hap, hpt, hlt0, o, bM, zM⟩ := hrel
    obtain ⟨va, vc, hve⟩ := shapeI o
    subst hve
    have qk : (k : Int) < 5 := by omega
    have hc := (bM.cell (p := ⟨g, k, none⟩) (show g < M by omega)).trans (HRW.out k (by omega))
    have BB : Below w.heap.size w wr := b1.trans (bM.mono (by rw [hg]; omega))
    obtain ⟨s1, s2⟩ := mkW_bd k
    have hW := fun V => l3Word t (mkW k) p V ht s1 (by omega) hpt
    have hwb := wd_bd (t := t) (w := mkW k) hpt
    have stp_none : wd t (mkW k) p < 0 → Hid (fst1 t a = none) := fun h => by
      by_cases k4 : k = 4
      · subst k4
        show _ = _
        unfold fst1
        rw [hF.out]
        simp only [Option.bind_some]
        rw [if_pos h]
      · exact fst_none (3 - k) (k + 1) (by rw [fstK, hF.out]; simp only [Option.bind_some]; unfold stp; simp only []; rw [if_pos h]) (by omega)
    have stp_none2 : ¬ wd t (mkW k) p < 0 → nmE t (wd t (mkW k) p).toNat < 0 → k < 4 → Hid (fst1 t a = none) := fun h h2 k4 =>
      fst_none (3 - k) (k + 1) (by rw [fstK, hF.out]; simp only [Option.bind_some]; unfold stp; simp only []; rw [if_neg h, if_pos h2]) (by omega)
    have stp_go : ¬ wd t (mkW k) p < 0 → ¬ nmE t (wd t (mkW k) p).toNat < 0 → Hid (fstK t a (k + 1) = some (ns ++ [nmV t (wd t (mkW k) p).toNat], (nmE t (wd t (mkW k) p).toNat).toNat)) := fun h h2 => by
      show _ = _
      rw [fstK, hF.out]
      simp only [Option.bind_some]
      unfold stp
      simp only []
      rw [if_neg h, if_neg h2]
    have fin : k = 4 → ¬ wd t (mkW k) p < 0 → Hid (fst1 t a = some (ns, (wd t (mkW k) p).toNat)) := fun k4 h => by
      subst k4
      show _ = _
      unfold fst1
      rw [hF.out]
      simp only [Option.bind_some]
      rw [if_neg h]
    obtain ⟨D, hD⟩ : ∃ D, wd t (mkW k) p = D := ⟨_, rfl⟩
    rw [hD] at hW hwb stp_none stp_none2 stp_go fin
    obtain ⟨wk, hwk⟩ : ∃ x, mkW k = x := ⟨_, rfl⟩
    rw [hwk] at hc hW hwb s1
    clear hD hF hwk s2
    go_wp2_with fail
    refine (hW _).mono ?_; rintro e wr ⟨rfl, rfl⟩
    clear hW hc
    by_cases hd : D < 0
    · have HR := stp_none hd
      clear stp_none stp_none2 stp_go fin hwb
      go_wp2
      refine bodyPost_ret (v := .tuple #[.slice none 0 0, .int .i64 (-1)]) (by simp [results, Tryz.results46, go_sem]) rfl ?_
      exact .inl ⟨HR.out, rfl, BB⟩
    obtain ⟨q, rfl, hqt, hpq⟩ := hwb (by omega)
    have hqp : p < q := by omega
    by_cases k4 : k = 4
    · have HR := fin k4 (by omega)
      subst k4
      have hd' : ¬ (q : Int) < 0 := hd
      have own' := ownMonoI o (show w.heap.size ≤ M by omega)
      have HLn := hL
      clear stp_none stp_none2 stp_go fin hd
      go_wp2
      refine bodyPost_ret (v := .tuple #[.slice va ns.length vc, .int .i64 q]) (by simp [results, Tryz.results46, go_sem]) rfl ?_
      exact .inr ⟨ns, q, _, HR.out, rfl, own', HLn.out, hB, by omega, hqt, BB⟩
    have k3 : k < 4 := by omega
    have qk4 : ((k : Int) == 4) = false := by simp; omega
    have hd' : ¬ (q : Int) < 0 := hd
    have hN := fun V => l3Number t q V ht hqt
    have hnb := nm_bd (t := t) hqt
    have n1 := fun h => stp_none2 (by omega) h k3
    have n2 := fun h => stp_go (by omega) h
    simp only [Int.toNat_natCast] at n1 n2
    obtain ⟨X, hX⟩ : ∃ X, nmV t q = X := ⟨_, rfl⟩
    obtain ⟨Y, hY⟩ : ∃ Y, nmE t q = Y := ⟨_, rfl⟩
    simp only [hX, hY] at hN hnb n1 n2
    clear hX hY stp_none stp_none2 stp_go fin hd
    go_wp2_with fail
    refine (hN _).mono ?_; rintro e wr ⟨rfl, rfl⟩
    clear hN
    by_cases hy : Y < 0
    · have HR := n1 hy
      clear n1 n2 hnb
      go_wp2
      refine bodyPost_ret (v := .tuple #[.slice none 0 0, .int .i64 (-1)]) (by simp [results, Tryz.results46, go_sem]) rfl ?_
      exact .inl ⟨HR.out, rfl, BB⟩
    obtain ⟨r, rfl, hrt, hqr, hx0, hx1⟩ := hnb (by omega)
    have HS := n2 (by omega)
    simp only [Int.toNat_natCast] at HS
    have hy' : ¬ (r : Int) < 0 := hy
    have hvb : ∀ j, (Value.slice va ns.length vc).ownBlock = some j → M ≤ j := fun j hj => (o.lt j hj).1
    have hnl : ns.length ≤ 4 := by have := hL.out; omega
    clear n1 n2 hy
    go_wp2_with (at_builtin; refine wpList_append_own_at _ rfl (.tmp 36) (.tmp 38) 37 rfl M 2 i0 (.int .i64 0) 1 8 Tryz.underlying37 hi hz0 hz1 hz2 rfl (by decide) _ _ _ rfl (o.alloc _) ⟨wr.heap.size, 0, none⟩ 1 1 [.int .i64 X] rfl rfl (cell_one_new _ _ _) (by simp [Value.oneCell']) (by unfold maxLen; omega) (by omega) (by simp; omega) ?_; intro v5 w5 o5 g5 _ k5)
    have O6 : Hid (w5.ownsRow M 2 1 v5 (ns ++ [X]).length (intCells (ns ++ [X]))) := by
      have := o5
      rw [List.length_append]
      unfold intCells
      rw [List.map_append]
      exact this
    have B6 : Hid (Below M W1 w5) := (bM.alloc zM _).grown g5 (by simp; omega) (fun j hj => hvb j hj)
    have Z6 : Hid (M ≤ w5.heap.size) := by have := g5.size; simp at this; show _ ≤ _; omega
    have HLn : Hid ((ns ++ [X]).length = k + 1) := by show _ = _; rw [List.length_append, hL.out]; rfl
    have HBn : Hid (∀ x ∈ ns ++ [X], 0 ≤ x ∧ x < 10000) := fun x hx => by
      rcases List.mem_append.1 hx with hx | hx
      · exact hB x hx
      · rw [List.mem_singleton] at hx; subst hx; exact ⟨hx0, hx1⟩
    clear o o5 g5 k5 bM zM BB hL hB
    go_wp2
    go_roundw
    case rel => exact ⟨k + 1, r, ns ++ [X], by omega, by go_num, rfl, HS, HLn, HBn.out, by omega, hrt, fun _ => (by omega), O6.out, B6.out, Z6.out⟩
    case measure => first | (simp [intOf]; omega) | simp [intOf]
end Go.Proofs.YtnkbjbbaoddfkaaGreatDoor.Pp
