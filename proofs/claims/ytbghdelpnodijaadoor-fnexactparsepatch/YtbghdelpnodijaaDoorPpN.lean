/- spec.l3Number: a number at a place of a text. No statement is proved here. -/
import Derived.Test.YtbghdelpnodijaaDoorRows
import Derived.Test.YtbghdelpnodijaaDoorLem
import Derived.Test.YtbghdelpnodijaaDoorStrs
import Derived.Test.YtbghdelpnodijaaDoorLFLem
import Derived.Test.YtbghdelpnodijaaDoorPpM
import Derived.WalkKit
import Derived.ProofKit
import Derived.Below
import Derived.WalkSpells
import Derived.Deep.CutRange
set_option linter.unusedVariables false
namespace Go.Proofs.YtbghdelpnodijaaDoor.Pp
open Go.ChangeShapes Go.WideShapes Go.ChangeAt Go.RowKit

theorem at_drop (t : ByteArray) (a k : Nat) (h : a + k < t.size) : (t.data.toList.drop a)[k]? = some (t[a + k]'h) := by
  rw [List.getElem?_drop, List.getElem?_eq_getElem (by simpa using h)]
  rfl
theorem take_next (t : ByteArray) (a k : Nat) (h : a + k < t.size) : (t.data.toList.drop a).take (k + 1) = (t.data.toList.drop a).take k ++ [t[a + k]'h] := by
  have hk : k < (t.data.toList.drop a).length := by rw [List.length_drop]; simp; omega
  rw [List.take_succ_eq_append_getElem hk]
  have := at_drop t a k h
  rw [List.getElem?_eq_getElem hk] at this
  rw [Option.some.inj this]
/-- Where the digits end: k of them from a on. -/
structure Dg (t : ByteArray) (a k : Nat) : Prop where
  all : ∀ x ∈ (t.data.toList.drop a).take k, isDg x = true
  le : a + k ≤ t.size
  five : k ≤ 5
theorem Dg.len {t : ByteArray} {a k : Nat} (h : Dg t a k) : k ≤ (t.data.toList.drop a).length := by
  have := h.le
  rw [List.length_drop]
  simp
  omega
theorem Dg.stop {t : ByteArray} {a k : Nat} (h : Dg t a k) (hs : ∀ q : a + k < t.size, isDg (t[a + k]'q) = false) : dgs (t.data.toList.drop a) = (t.data.toList.drop a).take k := by
  refine dgs_take _ k h.all h.len ?_
  by_cases q : a + k < t.size
  · exact .inr ⟨_, at_drop t a k q, hs q⟩
  · left
    have := h.le
    rw [List.length_drop]
    simp
    omega
/-- What is told where the digits end. -/
theorem Dg.told {t : ByteArray} {a k : Nat} (h : Dg t a k) (hs : k < 5 → dgs (t.data.toList.drop a) = (t.data.toList.drop a).take k) :
    (k = 0 → nmV t a = 0 ∧ nmE t a = -1) ∧ (4 < k → nmV t a = 0 ∧ nmE t a = -1) ∧
    (0 < k → k ≤ 4 → ∀ q : a < t.size, (1 < k ∧ (t[a]'q).toNat = 48 → nmV t a = 0 ∧ nmE t a = -1) ∧ (¬ (1 < k ∧ (t[a]'q).toNat = 48) → nmV t a = dval ((t.data.toList.drop a).take k) ∧ nmE t a = ((a + k : Nat) : Int))) := by
  have hl := h.len
  have bad : okN (t.data.toList.drop a) = false → nmV t a = 0 ∧ nmE t a = -1 := fun e => ⟨if_neg (by rw [e]; decide), if_neg (by rw [e]; decide)⟩
  refine ⟨fun e => bad ?_, fun e => bad ?_, fun h0 h4 q => ⟨fun e => bad ?_, fun e => ?_⟩⟩
  · subst e
    have := hs (by omega)
    unfold okN
    rw [this]
    simp
  · have h5 : k = 5 := by have := h.five; omega
    subst h5
    have := dgs_five _ h.all hl
    unfold okN
    exact decide_eq_false (fun x => by omega)
  · have hd := hs (by omega)
    have hlen : (dgs (t.data.toList.drop a)).length = k := by rw [hd, List.length_take]; omega
    have hh : (t.data.toList.drop a).head? = some (t[a]'q) := by
      have := at_drop t a 0 (by omega)
      rw [List.head?_eq_getElem?]
      exact this
    unfold okN
    refine decide_eq_false (fun x => x.2.2 ⟨by omega, ?_⟩)
    rw [hh]
    congr 1
    apply UInt8.toNat_inj.1
    rw [e.2]; rfl
  · have hd := hs (by omega)
    have hlen : (dgs (t.data.toList.drop a)).length = k := by rw [hd, List.length_take]; omega
    have hh : (t.data.toList.drop a).head? = some (t[a]'q) := by
      have := at_drop t a 0 (by omega)
      rw [List.head?_eq_getElem?]
      exact this
    have ok : okN (t.data.toList.drop a) = true := by
      unfold okN
      refine decide_eq_true ⟨by omega, by omega, fun x => e ⟨by omega, ?_⟩⟩
      have := x.2
      rw [hh] at this
      have := Option.some.inj this
      rw [this]; rfl
    unfold nmV nmE
    rw [if_pos ok, if_pos ok, hlen, hd]
    exact ⟨rfl, rfl⟩
theorem ret_n2 {a b c d : Int} (h : a = c) (k : b = d) : Ending.returned (.tuple #[.int .i64 a, .int .i64 b]) = .returned (.tuple #[.int .i64 c, .int .i64 d]) := by rw [h, k]
set_option maxRecDepth 20000 in
set_option maxHeartbeats 4000000 in
theorem l3Number (t : ByteArray) (a : Nat) (W : World) (ht : t.size ≤ 1048576) (ha : a ≤ t.size) :
    Calls Tryd.prog 61 #[.string t, .int .i64 a] W fun e W' => e = .returned (.tuple #[.int .i64 (nmV t a), .int .i64 (nmE t a)]) ∧ W' = W := by
  go_enter Tryd.func61, Tryd.ntmps61
  go_wp2
  go_loopw [1, 6] (fun i n wr => ∃ k p : Nat, i = .int .i64 p ∧ Hid (p = a + k) ∧ Dg t a k ∧ n = .int .i64 (dval ((t.data.toList.drop a).take k)) ∧ W = wr) (fun i _ _ => t.size - (intOf i).toNat)
  case atStart => exact ⟨0, a, rfl, rfl, ⟨fun x hx => by simp at hx, ha, by omega⟩, rfl, rfl⟩
  case round =>
    obtain ⟨k, p, rfl, hp, hD, rfl, rfl⟩ := hrel
    have hv := dval_bd _ hD.all
    have hvl : ((t.data.toList.drop a).take k).length ≤ 5 := by rw [List.length_take]; have := hD.five; omega
    have hv5 : dval ((t.data.toList.drop a).take k) < 100000 := Nat.lt_of_lt_of_le hv (Nat.pow_le_pow_right (by decide) hvl)
    have hle := hD.le
    have h5 := hD.five
    have hple : p ≤ t.size := by have := hp.out; omega
    have qk : (p : Int) - (a : Int) = (k : Int) := by have := hp.out; omega
    obtain ⟨N, hN⟩ : ∃ N, dval ((t.data.toList.drop a).take k) = N := ⟨_, rfl⟩
    have HNe : Hid (dval ((t.data.toList.drop a).take k) = N) := hN
    rw [hN] at hv5 ⊢
    clear hN hv hvl
    obtain ⟨D, hDe⟩ : ∃ D : Bool, decide (∃ q : p < t.size, isDg (t[p]'q) = true ∧ k < 5) = D := ⟨_, rfl⟩
    have HDe : Hid (decide (∃ q : p < t.size, isDg (t[p]'q) = true ∧ k < 5) = D) := hDe
    clear hDe
    go_upto_region 3 with fail
    go_cut [30] from 9 to 31 (fun s wx => s = .bool D ∧ W = wx)
    case first =>
      by_cases q : p < t.size
      · have q1 : (p : Int) < (t.size : Int) := by omega
        obtain ⟨c, hc⟩ : ∃ c, (t[p]'q).toNat = c := ⟨_, rfl⟩
        have dg : isDg (t[p]'q) = decide (48 ≤ c ∧ c ≤ 57) := by unfold isDg; rw [hc]
        have hc2 : c < 256 := by rw [← hc]; exact (t[p]'q).toNat_lt
        by_cases c1 : 48 ≤ c
        · by_cases c2 : c ≤ 57
          · by_cases k5 : k < 5
            · have HR : Hid (D = true) := HDe.out.symm.trans (decide_eq_true ⟨q, by rw [dg]; exact decide_eq_true ⟨c1, c2⟩, k5⟩)
              have x1 : (48 : Int) ≤ (c : Int) := by omega
              have x2 : (c : Int) ≤ 57 := by omega
              have x3 : (k : Int) < 5 := by omega
              clear HDe hp hD dg HNe
              go_wp2
              go_meet
              exact ⟨by rw [HR.out], rfl⟩
            · have HR : Hid (D = false) := HDe.out.symm.trans (decide_eq_false (fun ⟨_, _, x⟩ => k5 x))
              have x1 : (48 : Int) ≤ (c : Int) := by omega
              have x2 : (c : Int) ≤ 57 := by omega
              have x3 : ¬ (k : Int) < 5 := by omega
              clear HDe hp hD dg HNe
              go_wp2
              go_meet
              exact ⟨by rw [HR.out], rfl⟩
          · have HR : Hid (D = false) := HDe.out.symm.trans (decide_eq_false (fun ⟨_, x, _⟩ => by rw [dg] at x; exact c2 (of_decide_eq_true x).2))
            have x1 : (48 : Int) ≤ (c : Int) := by omega
            have x2 : ¬ (c : Int) ≤ 57 := by omega
            clear HDe hp hD dg HNe
            go_wp2
            go_meet
            exact ⟨by rw [HR.out], rfl⟩
        · have HR : Hid (D = false) := HDe.out.symm.trans (decide_eq_false (fun ⟨_, x, _⟩ => by rw [dg] at x; exact c1 (of_decide_eq_true x).1))
          have x1 : ¬ (48 : Int) ≤ (c : Int) := by omega
          clear HDe hp hD dg HNe
          go_wp2
          go_meet
          exact ⟨by rw [HR.out], rfl⟩
      · have HR : Hid (D = false) := HDe.out.symm.trans (decide_eq_false (fun ⟨x, _⟩ => q x))
        have q1 : ¬ (p : Int) < (t.size : Int) := by omega
        clear HDe hp hD HNe
        go_wp2
        go_meet
        exact ⟨by rw [HR.out], rfl⟩
    case rest =>
    obtain ⟨rfl, rfl⟩ := hcut
    cases D with
    | true =>
      obtain ⟨q, hdg, k5⟩ := of_decide_eq_true HDe.out
      obtain ⟨c, hc⟩ : ∃ c, (t[p]'q).toNat = c := ⟨_, rfl⟩
      have hcd : 48 ≤ c ∧ c ≤ 57 := by
        have := of_decide_eq_true hdg
        rw [hc] at this
        exact this
      have eN := take_next t a k (by have := hp.out; omega)
      have ep : t[a + k]'(by have := hp.out; omega) = t[p]'q := by
        have := hp.out
        subst this
        rfl
      rw [ep] at eN
      have HV : Hid (dval ((t.data.toList.drop a).take (k + 1)) = N * 10 + (c - 48)) := by show _ = _; rw [eN, dval_snoc, HNe.out, hc]
      have HDn : Hid (Dg t a (k + 1)) := ⟨fun x hx => by
        rw [eN] at hx
        rcases List.mem_append.1 hx with hx | hx
        · exact hD.all x hx
        · rw [List.mem_singleton] at hx; subst hx; exact hdg, by have := hp.out; omega, by omega⟩
      have HPn : Hid (p + 1 = a + (k + 1)) := by have := hp.out; show _ = _; omega
      have x1 : (0 : Int) ≤ (c : Int) - 48 := by omega
      have x2 : (c : Int) - 48 < 256 := by omega
      have hwr : IntKind.u8.wrap ((c : Int) - 48) = (c : Int) - 48 := by rw [IntKind.wrap_u8]; omega
      clear HDe eN ep hdg HNe hp hD
      go_wp2
      go_roundw
      case rel => exact ⟨k + 1, p + 1, by go_num, HPn.out, HDn.out, by rw [HV.out]; congr 1; push_cast; omega, trivial⟩
      case measure => first | (simp [intOf]; omega) | simp [intOf]
    | false =>
      have hs : k < 5 → dgs (t.data.toList.drop a) = (t.data.toList.drop a).take k := fun k5 => hD.stop (fun q => by
        cases e : isDg (t[a + k]'q) with
        | false => rfl
        | true =>
          have hpq : p = a + k := hp.out
          subst hpq
          exact absurd (⟨q, e, k5⟩ : ∃ q : a + k < t.size, isDg (t[a + k]'q) = true ∧ k < 5) (of_decide_eq_false HDe.out))
      obtain ⟨T1, T2, T3⟩ := hD.told hs
      by_cases k0 : k = 0
      · have HR : Hid (nmV t a = 0 ∧ nmE t a = -1) := T1 k0
        have e : ((p : Int) == (a : Int)) = true := by have := hp.out; simp; omega
        clear T1 T2 T3 hs HDe HNe hD hp qk
        go_wp2
        refine bodyPost_ret (v := .tuple #[.int .i64 0, .int .i64 (-1)]) (by simp [results, Tryd.results61, go_sem]) rfl ?_
        exact ⟨ret_n2 HR.out.1.symm HR.out.2.symm, rfl⟩
      have e : ((p : Int) == (a : Int)) = false := by have := hp.out; simp; omega
      by_cases k4 : 4 < k
      · have HR : Hid (nmV t a = 0 ∧ nmE t a = -1) := T2 k4
        have x1 : (4 : Int) < (k : Int) := by omega
        clear T1 T2 T3 hs HDe HNe hD hp
        go_wp2
        refine bodyPost_ret (v := .tuple #[.int .i64 0, .int .i64 (-1)]) (by simp [results, Tryd.results61, go_sem]) rfl ?_
        exact ⟨ret_n2 HR.out.1.symm HR.out.2.symm, rfl⟩
      have x1 : ¬ (4 : Int) < (k : Int) := by omega
      have q : a < t.size := by omega
      obtain ⟨T4, T5⟩ := T3 (by omega) (by omega) q
      have q1 : (a : Int) < (t.size : Int) := by omega
      obtain ⟨c, hc⟩ : ∃ c, (t[a]'q).toNat = c := ⟨_, rfl⟩
      rw [hc] at T4 T5
      by_cases kk : 1 < k
      · have x2 : (1 : Int) < (k : Int) := by omega
        by_cases cz : c = 48
        · have HR : Hid (nmV t a = 0 ∧ nmE t a = -1) := T4 ⟨kk, cz⟩
          subst cz
          clear T1 T2 T3 T4 T5 hs HDe HNe hD hp
          go_wp2
          refine bodyPost_ret (v := .tuple #[.int .i64 0, .int .i64 (-1)]) (by simp [results, Tryd.results61, go_sem]) rfl ?_
          exact ⟨ret_n2 HR.out.1.symm HR.out.2.symm, rfl⟩
        · have HR : Hid (nmV t a = N ∧ nmE t a = p) := by
            have := T5 (fun x => cz x.2)
            rw [HNe.out] at this
            exact ⟨this.1, by rw [this.2, ← hp.out]⟩
          have x3 : ((c : Int) == 48) = false := by simp; omega
          clear T1 T2 T3 T4 T5 hs HDe HNe hD hp
          go_wp2
          refine bodyPost_ret (v := .tuple #[.int .i64 N, .int .i64 p]) (by simp [results, Tryd.results61, go_sem]) rfl ?_
          exact ⟨ret_n2 HR.out.1.symm HR.out.2.symm, rfl⟩
      · have x2 : ¬ (1 : Int) < (k : Int) := by omega
        have HR : Hid (nmV t a = N ∧ nmE t a = p) := by
          have := T5 (fun x => kk x.1)
          rw [HNe.out] at this
          exact ⟨this.1, by rw [this.2, ← hp.out]⟩
        clear T1 T2 T3 T4 T5 hs HDe HNe hD hp
        go_wp2
        refine bodyPost_ret (v := .tuple #[.int .i64 N, .int .i64 p]) (by simp [results, Tryd.results61, go_sem]) rfl ?_
        exact ⟨ret_n2 HR.out.1.symm HR.out.2.symm, rfl⟩
end Go.Proofs.YtbghdelpnodijaaDoor.Pp
