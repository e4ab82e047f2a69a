/- The contract of the specification's ChangesFault. No statement is proved here. -/
import Derived.Test.YtidjcjeiigjmaahRows
import Derived.Test.YtidjcjeiigjmaahLem
import Derived.Test.YtidjcjeiigjmaahStrs
import Derived.Test.YtidjcjeiigjmaahLFLem
import Derived.Test.YtidjcjeiigjmaahLF
import Derived.Test.YtidjcjeiigjmaahCom
import Derived.Test.YtidjcjeiigjmaahAsked
import Derived.Test.YtidjcjeiigjmaahDTab
import Derived.Test.YtidjcjeiigjmaahFr
import Derived.Test.YtidjcjeiigjmaahChg
import Derived.Test.YtidjcjeiigjmaahEdC
import Derived.Test.YtidjcjeiigjmaahCFC
import Derived.Test.YtidjcjeiigjmaahCFI
import Derived.WalkKit
import Derived.ProofKit
import Derived.Below
import Derived.WalkSpells
import Derived.Deep.QuietTactic
import Derived.BigQuiet
namespace Go.Proofs.Ytidjcjeiigjmaah
open Go.ChangeShapes Go.WideShapes Go.ChangeAt Go.RowKit

/-- Where the specification's walk stands behind k changes. -/
def stA (l : List Chg) (k : Nat) : Int := if k = 0 then 0 else endA l k
def stB (l : List Chg) (k : Nat) : Int := if k = 0 then 0 else endB l k
theorem stA_succ (l : List Chg) (k : Nat) : stA l (k + 1) = endA l (k + 1) := by unfold stA; rw [if_neg (by omega)]
theorem stB_succ (l : List Chg) (k : Nat) : stB l (k + 1) = endB l (k + 1) := by unfold stB; rw [if_neg (by omega)]
/-- The program's test and the specification's. -/
theorem fol_iff (l : List Chg) (k : Nat) (x0 x1 x2 x3 : Int) (h0 : 0 ≤ x0) : folB (x0, x1, x2, x3) (endA l k) (endB l k) = true ↔
    (¬ (x1 = 0 ∧ x3 = 0) ∧ x0 - stA l k = x2 - stB l k ∧ ¬ x0 < stA l k ∧ (0 < k → ¬ x0 = stA l k)) := by
  unfold folB stA stB
  rw [decide_eq_true_eq]
  by_cases hk : k = 0
  · subst hk
    simp only [endA_zero, endB_zero, if_true]
    constructor
    · rintro ⟨a, b, c⟩; exact ⟨a, by omega, by omega, by omega⟩
    · rintro ⟨a, b, c, d⟩; exact ⟨a, by omega, by omega⟩
  · simp only [hk, if_false]
    constructor
    · rintro ⟨a, b, c⟩; exact ⟨a, by omega, by omega, fun _ => by omega⟩
    · rintro ⟨a, b, c, d⟩
      have := d (by omega)
      exact ⟨a, by omega, by omega⟩

set_option maxRecDepth 20000 in
set_option maxHeartbeats 20000000 in
theorem l2Fault (B : Nat) (a1 a2 a3 : Option Addr) (c1 c2 c3 : Nat) (xs ys : List ByteArray) (l : List Chg) (w : World) (h3 : CB B w a3 l) (m1 : xs.length ≤ 100) (m2 : ys.length ≤ 100) (n3 : l.length ≤ 1048576) :
    Calls Try.prog 55 #[.slice a1 xs.length c1, .slice a2 ys.length c2, .slice a3 l.length c3] w fun e w' => e = .returned (.int .i64 (cf xs.length ys.length l)) ∧ Below w.heap.size w w' := by
  go_enter Try.func55, Try.ntmps55
  go_wp2
  go_loopw [7, 8, 9] (fun va vb vk wr => ∃ k : Nat, k ≤ l.length ∧ vk = .int .i64 (k : Int) ∧ va = .int .i64 (stA l k) ∧ vb = .int .i64 (stB l k) ∧ cfF xs.length ys.length l (l.length - k) k = cf xs.length ys.length l ∧ (0 ≤ stA l k ∧ stA l k ≤ 100) ∧ (0 ≤ stB l k ∧ stB l k ≤ 100) ∧ Below w.heap.size w wr) (fun _ _ vk _ => l.length - (intOf vk).toNat)
  case atStart => exact ⟨0, Nat.zero_le _, rfl, rfl, rfl, rfl, by unfold stA; simp, by unfold stB; simp, Below.refl _ _⟩
  case round =>
    obtain ⟨k, hk, rfl, rfl, rfl, hL0, hea, heb, hbel⟩ := hrel
    have hL : Hid (cfF xs.length ys.length l (l.length - k) k = cf xs.length ys.length l) := hL0
    clear hL0
    have hsz := hbel.size
    by_cases hlt : k < l.length
    · have q : (k : Int) < (l.length : Int) := by omega
      have hst := cfF_step xs.length ys.length l k hlt
      obtain ⟨g, off, e, hg, d0, d1, d2, d3⟩ := h3.below hbel k hlt
      subst e
      have HRn := @code_range xs.length ys.length l k
      have HFm := @code_form xs.length ys.length l k
      have HOk := @code_ok xs.length ys.length l k
      have HNx := @end_next xs.length ys.length l k
      have HBd := @end_bd xs.length ys.length (l.getD k (0, 0, 0, 0))
      have HE1 : Hid (stA l (k + 1) = (l.getD k (0, 0, 0, 0)).1 + (l.getD k (0, 0, 0, 0)).2.1) := (stA_succ l k).trans (endA_succ l k)
      have HE2 : Hid (stB l (k + 1) = (l.getD k (0, 0, 0, 0)).2.2.1 + (l.getD k (0, 0, 0, 0)).2.2.2) := (stB_succ l k).trans (endB_succ l k)
      obtain ⟨C, hCe⟩ : ∃ C, l.getD k (0, 0, 0, 0) = C := ⟨_, rfl⟩
      obtain ⟨x0, x1, x2, x3⟩ := C
      have HFI := fol_iff l k x0 x1 x2 x3
      rw [hCe] at d0 d1 d2 d3 HRn HFm HOk HNx HBd HE1 HE2
      simp only [] at d0 d1 d2 d3 HBd HE1 HE2
      rw [← stA_succ, ← stB_succ] at HNx
      obtain ⟨ea, hEA⟩ : ∃ v, stA l k = v := ⟨_, rfl⟩
      obtain ⟨eb, hEB⟩ : ∃ v, stB l k = v := ⟨_, rfl⟩
      rw [hEA] at hea HFI ⊢
      rw [hEB] at heb HFI ⊢
      clear hCe hEA hEB
      obtain ⟨ea1, ea2⟩ := hea
      obtain ⟨eb1, eb2⟩ := heb
      have I1 := fun w => l1In x0 0 xs.length w
      have I2 := fun w => l1In x1 0 ((xs.length : Int) - x0) w
      have I3 := fun w => l1In x2 0 ys.length w
      have I4 := fun w => l1In x3 0 ((ys.length : Int) - x2) w
      have hInR : inR xs.length ys.length (x0, x1, x2, x3) = ((inB x0 0 xs.length && inB x1 0 ((xs.length : Int) - x0)) && (inB x2 0 ys.length && inB x3 0 ((ys.length : Int) - x2))) := by
        rw [← inSpan_eq, ← inSpan_eq]; rfl
      cases hi1 : inB x0 0 xs.length with
      | false =>
        rw [hi1] at I1 hInR
        have HC : Hid (cf xs.length ys.length l = 3) := by
          show _ = _
          rw [← hL.out, hst, HRn (by rw [hInR]; simp)]; rfl
        clear hL hst HRn HFm HOk HNx HBd HE1 HE2 hInR HFI
        go_wp2_with fail
        refine (I1 _).mono ?_; rintro e w' ⟨rfl, rfl⟩
        go_wp2_with fail
        go_ret
        exact ⟨ret_int HC.out.symm, hbel.alloc hsz _⟩
      | true =>
        rw [hi1] at I1 hInR
        obtain ⟨p01, p02⟩ := of_decide_eq_true hi1
        cases hi2 : inB x1 0 ((xs.length : Int) - x0) with
        | false =>
          rw [hi2] at I2 hInR
          have HC : Hid (cf xs.length ys.length l = 3) := by
            show _ = _
            rw [← hL.out, hst, HRn (by rw [hInR]; simp)]; rfl
          clear hL hst HRn HFm HOk HNx HBd HE1 HE2 hInR HFI
          go_wp2_with fail
          refine (I1 _).mono ?_; rintro e w' ⟨rfl, rfl⟩
          go_wp2_with fail
          refine (I2 _).mono ?_; rintro e w' ⟨rfl, rfl⟩
          go_wp2_with fail
          go_ret
          exact ⟨ret_int HC.out.symm, hbel.alloc hsz _⟩
        | true =>
          rw [hi2] at I2 hInR
          cases hi3 : inB x2 0 ys.length with
          | false =>
            rw [hi3] at I3 hInR
            have HC : Hid (cf xs.length ys.length l = 3) := by
              show _ = _
              rw [← hL.out, hst, HRn (by rw [hInR]; simp)]; rfl
            clear hL hst HRn HFm HOk HNx HBd HE1 HE2 hInR HFI
            go_wp2_with fail
            refine (I1 _).mono ?_; rintro e w' ⟨rfl, rfl⟩
            go_wp2_with fail
            refine (I2 _).mono ?_; rintro e w' ⟨rfl, rfl⟩
            go_wp2_with fail
            refine (I3 _).mono ?_; rintro e w' ⟨rfl, rfl⟩
            go_wp2_with fail
            go_ret
            exact ⟨ret_int HC.out.symm, hbel.alloc hsz _⟩
          | true =>
            rw [hi3] at I3 hInR
            obtain ⟨p21, p22⟩ := of_decide_eq_true hi3
            cases hi4 : inB x3 0 ((ys.length : Int) - x2) with
            | false =>
              rw [hi4] at I4 hInR
              have HC : Hid (cf xs.length ys.length l = 3) := by
                show _ = _
                rw [← hL.out, hst, HRn (by rw [hInR]; simp)]; rfl
              clear hL hst HRn HFm HOk HNx HBd HE1 HE2 hInR HFI
              go_wp2_with fail
              refine (I1 _).mono ?_; rintro e w' ⟨rfl, rfl⟩
              go_wp2_with fail
              refine (I2 _).mono ?_; rintro e w' ⟨rfl, rfl⟩
              go_wp2_with fail
              refine (I3 _).mono ?_; rintro e w' ⟨rfl, rfl⟩
              go_wp2_with fail
              refine (I4 _).mono ?_; rintro e w' ⟨rfl, rfl⟩
              go_wp2_with fail
              go_ret
              exact ⟨ret_int HC.out.symm, hbel.alloc hsz _⟩
            | true =>
              rw [hi4] at I4 hInR
              have hInT : inR xs.length ys.length (x0, x1, x2, x3) = true := hInR
              obtain ⟨q0, q1, q2, q3, q4, q5, q6, q7⟩ := HBd hInT
              have hnx := HNx hInT
              have HFI := HFI q0
              have s1 : -1000 ≤ x0 + x1 := by omega
              have s2 : x0 + x1 ≤ 1000 := by omega
              have s3 : -1000 ≤ x2 + x3 := by omega
              have s4 : x2 + x3 ≤ 1000 := by omega
              go_wp2_with fail
              refine (I1 _).mono ?_; rintro e w' ⟨rfl, rfl⟩
              go_wp2_with fail
              refine (I2 _).mono ?_; rintro e w' ⟨rfl, rfl⟩
              go_wp2_with fail
              refine (I3 _).mono ?_; rintro e w' ⟨rfl, rfl⟩
              go_wp2_with fail
              refine (I4 _).mono ?_; rintro e w' ⟨rfl, rfl⟩
              clear I1 I2 I3 I4
              by_cases hx1 : x1 = 0
              · have e1 : (x1 == 0) = true := by simp [hx1]
                by_cases hx3 : x3 = 0
                · have e3 : (x3 == 0) = true := by simp [hx3]
                  have HC : Hid (cf xs.length ys.length l = 1) := by
                    show _ = _
                    have hno : folB (x0, x1, x2, x3) (endA l k) (endB l k) = false := by
                      rw [Bool.eq_false_iff]
                      intro hh
                      have := HFI.1 hh
                      omega
                    rw [← hL.out, hst, HFm hInT hno]; rfl
                  clear hL hst HRn HFm HOk HNx HBd hInR hInT HFI hi1 hi2 hi3 hi4 HE1 HE2
                  clear hx1 hx3
                  go_wp2_with fail
                  go_ret
                  exact ⟨ret_int HC.out.symm, hbel.alloc hsz _⟩
                · have e3 : (x3 == 0) = false := by simp [hx3]
                  by_cases hd : x0 - ea = x2 - eb
                  · have hdB : (x0 - ea != x2 - eb) = false := by simp [hd]
                    by_cases hlA : x0 < ea
                    · have HC : Hid (cf xs.length ys.length l = 1) := by
                        show _ = _
                        have hno : folB (x0, x1, x2, x3) (endA l k) (endB l k) = false := by
                          rw [Bool.eq_false_iff]
                          intro hh
                          have := HFI.1 hh
                          omega
                        rw [← hL.out, hst, HFm hInT hno]; rfl
                      clear hL hst HRn HFm HOk HNx HBd hInR hInT HFI hi1 hi2 hi3 hi4 HE1 HE2
                      clear hd
                      go_wp2_with fail
                      go_ret
                      exact ⟨ret_int HC.out.symm, hbel.alloc hsz _⟩
                    · by_cases hk0 : k = 0
                      · have hkI : ¬ (0 : Int) < (k : Int) := by omega
                        have HL2 : Hid (cfF xs.length ys.length l (l.length - (k + 1)) (k + 1) = cf xs.length ys.length l) := by
                          show _ = _
                          rw [← hL.out, hst, HOk hInT (HFI.2 (by refine ⟨?_, ?_, ?_, ?_⟩ <;> omega))]; rfl
                        clear hL hst HRn HFm HOk HNx HBd hInR hInT HFI hi1 hi2 hi3 hi4
                        clear hd
                        go_wp2_with fail
                        go_roundw
                        case rel => exact ⟨k + 1, by omega, by first | rfl | go_num, by (have := HE1.out; congr 1; omega), by (have := HE2.out; congr 1; omega), HL2.out, by omega, by omega, hbel.alloc hsz _⟩
                        case measure => first | (simp [intOf]; omega) | simp [intOf]
                      · have hkI : (0 : Int) < (k : Int) := by omega
                        by_cases hxe : x0 = ea
                        · have hxB : (x0 == ea) = true := by simp [hxe]
                          have HC : Hid (cf xs.length ys.length l = 1) := by
                            show _ = _
                            have hno : folB (x0, x1, x2, x3) (endA l k) (endB l k) = false := by
                              rw [Bool.eq_false_iff]
                              intro hh
                              have := HFI.1 hh
                              omega
                            rw [← hL.out, hst, HFm hInT hno]; rfl
                          clear hL hst HRn HFm HOk HNx HBd hInR hInT HFI hi1 hi2 hi3 hi4 HE1 HE2
                          clear hd hxe
                          go_wp2_with fail
                          go_ret
                          exact ⟨ret_int HC.out.symm, hbel.alloc hsz _⟩
                        · have hxB : (x0 == ea) = false := by simp [hxe]
                          have HL2 : Hid (cfF xs.length ys.length l (l.length - (k + 1)) (k + 1) = cf xs.length ys.length l) := by
                            show _ = _
                            rw [← hL.out, hst, HOk hInT (HFI.2 (by refine ⟨?_, ?_, ?_, ?_⟩ <;> omega))]; rfl
                          clear hL hst HRn HFm HOk HNx HBd hInR hInT HFI hi1 hi2 hi3 hi4
                          clear hd hxe
                          go_wp2_with fail
                          go_roundw
                          case rel => exact ⟨k + 1, by omega, by first | rfl | go_num, by (have := HE1.out; congr 1; omega), by (have := HE2.out; congr 1; omega), HL2.out, by omega, by omega, hbel.alloc hsz _⟩
                          case measure => first | (simp [intOf]; omega) | simp [intOf]
                  · have hdB : (x0 - ea != x2 - eb) = true := by simp [hd]
                    have HC : Hid (cf xs.length ys.length l = 1) := by
                      show _ = _
                      have hno : folB (x0, x1, x2, x3) (endA l k) (endB l k) = false := by
                        rw [Bool.eq_false_iff]
                        intro hh
                        have := HFI.1 hh
                        omega
                      rw [← hL.out, hst, HFm hInT hno]; rfl
                    clear hL hst HRn HFm HOk HNx HBd hInR hInT HFI hi1 hi2 hi3 hi4 HE1 HE2
                    clear hd
                    go_wp2_with fail
                    go_ret
                    exact ⟨ret_int HC.out.symm, hbel.alloc hsz _⟩
              · have e1 : (x1 == 0) = false := by simp [hx1]
                by_cases hd : x0 - ea = x2 - eb
                · have hdB : (x0 - ea != x2 - eb) = false := by simp [hd]
                  by_cases hlA : x0 < ea
                  · have HC : Hid (cf xs.length ys.length l = 1) := by
                      show _ = _
                      have hno : folB (x0, x1, x2, x3) (endA l k) (endB l k) = false := by
                        rw [Bool.eq_false_iff]
                        intro hh
                        have := HFI.1 hh
                        omega
                      rw [← hL.out, hst, HFm hInT hno]; rfl
                    clear hL hst HRn HFm HOk HNx HBd hInR hInT HFI hi1 hi2 hi3 hi4 HE1 HE2
                    clear hd
                    go_wp2_with fail
                    go_ret
                    exact ⟨ret_int HC.out.symm, hbel.alloc hsz _⟩
                  · by_cases hk0 : k = 0
                    · have hkI : ¬ (0 : Int) < (k : Int) := by omega
                      have HL2 : Hid (cfF xs.length ys.length l (l.length - (k + 1)) (k + 1) = cf xs.length ys.length l) := by
                        show _ = _
                        rw [← hL.out, hst, HOk hInT (HFI.2 (by refine ⟨?_, ?_, ?_, ?_⟩ <;> omega))]; rfl
                      clear hL hst HRn HFm HOk HNx HBd hInR hInT HFI hi1 hi2 hi3 hi4
                      clear hd
                      go_wp2_with fail
                      go_roundw
                      case rel => exact ⟨k + 1, by omega, by first | rfl | go_num, by (have := HE1.out; congr 1; omega), by (have := HE2.out; congr 1; omega), HL2.out, by omega, by omega, hbel.alloc hsz _⟩
                      case measure => first | (simp [intOf]; omega) | simp [intOf]
                    · have hkI : (0 : Int) < (k : Int) := by omega
                      by_cases hxe : x0 = ea
                      · have hxB : (x0 == ea) = true := by simp [hxe]
                        have HC : Hid (cf xs.length ys.length l = 1) := by
                          show _ = _
                          have hno : folB (x0, x1, x2, x3) (endA l k) (endB l k) = false := by
                            rw [Bool.eq_false_iff]
                            intro hh
                            have := HFI.1 hh
                            omega
                          rw [← hL.out, hst, HFm hInT hno]; rfl
                        clear hL hst HRn HFm HOk HNx HBd hInR hInT HFI hi1 hi2 hi3 hi4 HE1 HE2
                        clear hd hxe
                        go_wp2_with fail
                        go_ret
                        exact ⟨ret_int HC.out.symm, hbel.alloc hsz _⟩
                      · have hxB : (x0 == ea) = false := by simp [hxe]
                        have HL2 : Hid (cfF xs.length ys.length l (l.length - (k + 1)) (k + 1) = cf xs.length ys.length l) := by
                          show _ = _
                          rw [← hL.out, hst, HOk hInT (HFI.2 (by refine ⟨?_, ?_, ?_, ?_⟩ <;> omega))]; rfl
                        clear hL hst HRn HFm HOk HNx HBd hInR hInT HFI hi1 hi2 hi3 hi4
                        clear hd hxe
                        go_wp2_with fail
                        go_roundw
                        case rel => exact ⟨k + 1, by omega, by first | rfl | go_num, by (have := HE1.out; congr 1; omega), by (have := HE2.out; congr 1; omega), HL2.out, by omega, by omega, hbel.alloc hsz _⟩
                        case measure => first | (simp [intOf]; omega) | simp [intOf]
                · have hdB : (x0 - ea != x2 - eb) = true := by simp [hd]
                  have HC : Hid (cf xs.length ys.length l = 1) := by
                    show _ = _
                    have hno : folB (x0, x1, x2, x3) (endA l k) (endB l k) = false := by
                      rw [Bool.eq_false_iff]
                      intro hh
                      have := HFI.1 hh
                      omega
                    rw [← hL.out, hst, HFm hInT hno]; rfl
                  clear hL hst HRn HFm HOk HNx HBd hInR hInT HFI hi1 hi2 hi3 hi4 HE1 HE2
                  clear hd
                  go_wp2_with fail
                  go_ret
                  exact ⟨ret_int HC.out.symm, hbel.alloc hsz _⟩
    · have q : ¬ (k : Int) < (l.length : Int) := by omega
      have HC : Hid (cf xs.length ys.length l = 0) := by
        show _ = _
        have := hL.out
        rw [show l.length - k = 0 by omega] at this
        rw [← this]; rfl
      clear hL hea heb
      go_wp2
      go_ret
      exact ⟨ret_int HC.out.symm, hbel⟩

set_option maxHeartbeats 1000000 in
theorem specChangesFault (B : Nat) (a1 a2 a3 : Option Addr) (c1 c2 c3 : Nat) (xs ys : List ByteArray) (l : List Chg) (w : World) (h1 : SS w a1 xs) (h2 : SS w a2 ys) (h3 : CB B w a3 l) (n1 : xs.length ≤ 1048576) (t1 : tot xs ≤ 1048576) (n2 : ys.length ≤ 1048576) (t2 : tot ys ≤ 1048576) (n3 : l.length ≤ 1048576) :
    Calls Try.prog 30 #[.slice a1 xs.length c1, .slice a2 ys.length c2, .slice a3 l.length c3] w fun e w' => e = .returned (.int .i64 (cfa xs ys l)) ∧ Below w.heap.size w w' := by
  have hA := fun w h1 h2 => specAsked a1 a2 c1 c2 xs ys w h1 h2 n1 t1 n2 t2
  by_cases h0 : asked xs ys = 0
  · obtain ⟨hx, hy⟩ := asked_zero h0
    have m1 := (lf_zero hx).1
    have m2 := (lf_zero hy).1
    have HV : Hid (cfa xs ys l = cf xs.length ys.length l) := cfa_ok h0
    have hF := fun w h => l2Fault B a1 a2 a3 c1 c2 c3 xs ys l w h m1 m2 n3
    obtain ⟨v, hv⟩ : ∃ v, cf xs.length ys.length l = v := ⟨_, rfl⟩
    rw [hv] at HV hF
    rw [h0] at hA
    clear h0 hx hy hv
    go_enter Try.func30, Try.ntmps30
    go_wp2_with fail
    refine (hA _ h1 h2).mono ?_; rintro e w ⟨rfl, rfl⟩
    go_wp2_with fail
    refine (hF _ h3).mono ?_; rintro e w1 ⟨rfl, b1⟩
    go_wp2_with fail
    go_ret
    exact ⟨ret_int HV.out.symm, b1⟩
  · have hb := ne_beq h0
    have HV : Hid (cfa xs ys l = asked xs ys) := cfa_no h0
    obtain ⟨v, hv⟩ : ∃ v, asked xs ys = v := ⟨_, rfl⟩
    rw [hv] at hA hb HV
    clear h0 hv
    go_enter Try.func30, Try.ntmps30
    go_wp2_with fail
    refine (hA _ h1 h2).mono ?_; rintro e w' ⟨rfl, rfl⟩
    go_wp2
    go_ret
    exact ⟨ret_int HV.out.symm, Below.refl _ _⟩
end Go.Proofs.Ytidjcjeiigjmaah
