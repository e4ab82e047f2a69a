/- The contracts of ChangesFault, the program's and the specification's. No statement is proved here. -/
import Derived.Test.YtbmokagmpdgidaaRows
import Derived.Test.YtbmokagmpdgidaaLem
import Derived.Test.YtbmokagmpdgidaaStrs
import Derived.Test.YtbmokagmpdgidaaLFLem
import Derived.Test.YtbmokagmpdgidaaLF
import Derived.Test.YtbmokagmpdgidaaCom
import Derived.Test.YtbmokagmpdgidaaAsked
import Derived.Test.YtbmokagmpdgidaaDTab
import Derived.Test.YtbmokagmpdgidaaFr
import Derived.Test.YtbmokagmpdgidaaChg
import Derived.Test.YtbmokagmpdgidaaEdC
import Derived.Test.YtbmokagmpdgidaaCFC
import Derived.WalkKit
import Derived.ProofKit
import Derived.Below
import Derived.WalkSpells
import Derived.Deep.QuietTactic
import Derived.BigQuiet
namespace Go.Proofs.Ytbmokagmpdgidaa
open Go.ChangeShapes Go.WideShapes Go.ChangeAt Go.RowKit

/-- Every number of a change is one of 64 bits. -/
def Rng (l : List Chg) : Prop := ∀ k, k < l.length → (l.getD k (0, 0, 0, 0)).2.1 ≤ 9223372036854775807 ∧ (l.getD k (0, 0, 0, 0)).2.2.2 ≤ 9223372036854775807
/-- The code that ChangesFault tells. -/
def cfa (xs ys : List ByteArray) (l : List Chg) : Int := if asked xs ys = 0 then cf xs.length ys.length l else asked xs ys
theorem cfa_ok {xs ys : List ByteArray} {l : List Chg} (h : asked xs ys = 0) : cfa xs ys l = cf xs.length ys.length l := if_pos h
theorem cfa_no {xs ys : List ByteArray} {l : List Chg} (h : ¬ asked xs ys = 0) : cfa xs ys l = asked xs ys := if_neg h
theorem inSpan_eq (x c : Int) (n : Nat) : inSpan x c n = (inB x 0 n && inB c 0 ((n : Int) - x)) := by
  unfold inSpan inB
  rw [Bool.eq_iff_iff]
  simp only [Bool.and_eq_true, decide_eq_true_eq]
  omega
theorem end_next {n m : Nat} {l : List Chg} {k : Nat} (h : inR n m (l.getD k (0, 0, 0, 0)) = true) : 0 ≤ endA l (k + 1) ∧ endA l (k + 1) ≤ n ∧ 0 ≤ endB l (k + 1) ∧ endB l (k + 1) ≤ m := by
  have := end_bd h
  rw [endA_succ, endB_succ]
  omega

set_option maxRecDepth 20000 in
set_option maxHeartbeats 4000000 in
theorem implChangesFault (B : Nat) (a1 a2 a3 : Option Addr) (c1 c2 c3 : Nat) (xs ys : List ByteArray) (l : List Chg) (w : World) (h1 : SS w a1 xs) (h2 : SS w a2 ys) (h3 : CB B w a3 l) (hr : Rng l) (n1 : xs.length ≤ 1048576) (n2 : ys.length ≤ 1048576) (n3 : l.length ≤ 1048576) :
    Calls Try.prog 28 #[.slice a1 xs.length c1, .slice a2 ys.length c2, .slice a3 l.length c3] w fun e w' => e = .returned (.int .i64 (cfa xs ys l)) ∧ Below w.heap.size w w' := by
  have hA := fun w h1 h2 => implAsked a1 a2 c1 c2 xs ys w h1 h2 n1 n2
  by_cases h0 : asked xs ys = 0
  · obtain ⟨hx, hy⟩ := asked_zero h0
    have m1 := (lf_zero hx).1
    have m2 := (lf_zero hy).1
    have HV : Hid (cfa xs ys l = cf xs.length ys.length l) := cfa_ok h0
    rw [h0] at hA
    clear h0 hx hy
    go_enter Try.func28, Try.ntmps28
    go_wp2_with fail
    refine (hA _ h1 h2).mono ?_; rintro e w ⟨rfl, rfl⟩
    clear hA h1 h2
    go_wp2
    go_loopw [8, 9, 20] (fun va vb vk wr => ∃ k : Nat, k ≤ l.length ∧ vk = .int .i64 (k : Int) ∧ va = .int .i64 (endA l k) ∧ vb = .int .i64 (endB l k) ∧ cfF xs.length ys.length l (l.length - k) k = cf xs.length ys.length l ∧ (-1 ≤ endA l k ∧ endA l k ≤ 100) ∧ (-1 ≤ endB l k ∧ endB l k ≤ 100) ∧ Below w.heap.size w wr) (fun _ _ vk _ => l.length - (intOf vk).toNat)
    case atStart => exact ⟨0, Nat.zero_le _, rfl, rfl, rfl, rfl, by rw [endA_zero]; omega, by rw [endB_zero]; omega, Below.refl _ _⟩
    case round =>
      obtain ⟨k, hk, rfl, rfl, rfl, hL0, hea, heb, hbel⟩ := hrel
      have hL : Hid (cfF xs.length ys.length l (l.length - k) k = cf xs.length ys.length l) := hL0
      clear hL0
      have hsz := hbel.size
      by_cases hlt : k < l.length
      · have q : (k : Int) < (l.length : Int) := by omega
        have hst := cfF_step xs.length ys.length l k hlt
        obtain ⟨g, off, e, hg, d0, d1, d2, d3⟩ := h3.below hbel k hlt
        subst e
        have hrk := hr k hlt
        have HRn := @code_range xs.length ys.length l k
        have HFm := @code_form xs.length ys.length l k
        have HOk := @code_ok xs.length ys.length l k
        have HNx := @end_next xs.length ys.length l k
        have HBd := @end_bd xs.length ys.length (l.getD k (0, 0, 0, 0))
        have HE1 : Hid (endA l (k + 1) = (l.getD k (0, 0, 0, 0)).1 + (l.getD k (0, 0, 0, 0)).2.1) := endA_succ l k
        have HE2 : Hid (endB l (k + 1) = (l.getD k (0, 0, 0, 0)).2.2.1 + (l.getD k (0, 0, 0, 0)).2.2.2) := endB_succ l k
        obtain ⟨C, hCe⟩ : ∃ C, l.getD k (0, 0, 0, 0) = C := ⟨_, rfl⟩
        obtain ⟨x0, x1, x2, x3⟩ := C
        rw [hCe] at d0 d1 d2 d3 hrk HRn HFm HOk HNx HBd HE1 HE2
        simp only [] at d0 d1 d2 d3 hrk HBd HE1 HE2
        obtain ⟨ea, hEA⟩ : ∃ v, endA l k = v := ⟨_, rfl⟩
        obtain ⟨eb, hEB⟩ : ∃ v, endB l k = v := ⟨_, rfl⟩
        rw [hEA] at hea HFm HOk ⊢
        rw [hEB] at heb HFm HOk ⊢
        clear hCe hEA hEB
        have hSA := fun w => spanIsIn x0 x1 a1 xs.length c1 w (by omega) (by omega)
        have hSB := fun w => spanIsIn x2 x3 a2 ys.length c2 w (by omega) (by omega)
        have hInR : inR xs.length ys.length (x0, x1, x2, x3) = (inSpan x0 x1 xs.length && inSpan x2 x3 ys.length) := rfl
        cases hsA : inSpan x0 x1 xs.length with
        | false =>
          rw [hsA] at hSA hInR
          have HC : Hid (cfa xs ys l = 3) := by
            show _ = _
            rw [HV.out, ← hL.out, hst, HRn hInR]; rfl
          clear hL hst HRn HFm HOk HNx HBd HE1 HE2 hrk hSB hInR hsA hea heb
          go_wp2_with fail
          refine (hSA _).mono ?_; rintro e w' ⟨rfl, rfl⟩
          go_wp2_with fail
          go_ret
          exact ⟨ret_int HC.out.symm, hbel.alloc hsz _⟩
        | true =>
          rw [hsA] at hSA hInR
          cases hsB : inSpan x2 x3 ys.length with
          | false =>
            rw [hsB] at hSB hInR
            have HC : Hid (cfa xs ys l = 3) := by
              show _ = _
              rw [HV.out, ← hL.out, hst, HRn hInR]; rfl
            clear hL hst HRn HFm HOk HNx HBd HE1 HE2 hrk hInR hsA hsB hea heb
            go_wp2_with fail
            refine (hSA _).mono ?_; rintro e w' ⟨rfl, rfl⟩
            go_wp2_with fail
            refine (hSB _).mono ?_; rintro e w' ⟨rfl, rfl⟩
            go_wp2_with fail
            go_ret
            exact ⟨ret_int HC.out.symm, hbel.alloc hsz _⟩
          | true =>
            rw [hsB] at hSB hInR
            have hbd := HBd hInR
            have hnx := HNx hInR
            have hFo := fun w => followsOn x0 x1 x2 x3 ea eb w (by omega) (by omega) (by omega) (by omega)
            have s1 : -1000 ≤ x0 + x1 := by omega
            have s2 : x0 + x1 ≤ 1000 := by omega
            have s3 : -1000 ≤ x2 + x3 := by omega
            have s4 : x2 + x3 ≤ 1000 := by omega
            cases hfo : folB (x0, x1, x2, x3) ea eb with
            | false =>
              rw [hfo] at hFo
              have HC : Hid (cfa xs ys l = 1) := by
                show _ = _
                rw [HV.out, ← hL.out, hst, HFm hInR hfo]; rfl
              clear hL hst HRn HFm HOk HNx HBd HE1 HE2 hrk hInR hsA hsB hea heb hbd hnx hfo s1 s2 s3 s4
              go_wp2_with fail
              refine (hSA _).mono ?_; rintro e w' ⟨rfl, rfl⟩
              go_wp2_with fail
              refine (hSB _).mono ?_; rintro e w' ⟨rfl, rfl⟩
              go_wp2_with fail
              refine (hFo _).mono ?_; rintro e w' ⟨rfl, bF⟩
              have BB := below_step (hbel.alloc hsz _) (by simp; omega) bF
              clear bF
              go_wp2_with fail
              go_ret
              exact ⟨ret_int HC.out.symm, BB⟩
            | true =>
              rw [hfo] at hFo
              have HL2 : Hid (cfF xs.length ys.length l (l.length - (k + 1)) (k + 1) = cf xs.length ys.length l) := by
                show _ = _
                rw [← hL.out, hst, HOk hInR hfo]; rfl
              clear hL hst HRn HFm HOk HNx HBd hrk hInR hsA hsB hea heb hfo
              go_wp2_with fail
              refine (hSA _).mono ?_; rintro e w' ⟨rfl, rfl⟩
              go_wp2_with fail
              refine (hSB _).mono ?_; rintro e w' ⟨rfl, rfl⟩
              go_wp2_with fail
              obtain ⟨W, hW⟩ : ∃ W, wr.alloc (.cells #[.int .i64 x0, .int .i64 x1, .int .i64 x2, .int .i64 x3] 50) = W := ⟨_, rfl⟩
              have hR : Rs W wr.heap.size [.int .i64 x0, .int .i64 x1, .int .i64 x2, .int .i64 x3] := by rw [← hW]; exact Rs.new _ _ _
              have bW : Below w.heap.size w W := by rw [← hW]; exact hbel.alloc hsz _
              have zW : wr.heap.size < W.heap.size := by rw [← hW]; simp
              rw [hW]
              clear hW
              refine (hFo _).mono ?_; rintro e w2 ⟨rfl, bF⟩
              have hF : Fr 0 0 W w2 := Fr.ofBelow bF
              have f0 := hF.cell (hR 0 _ rfl) (.inr (Nat.zero_le _))
              have f1 := hF.cell (hR 1 _ rfl) (.inr (Nat.zero_le _))
              have f2 := hF.cell (hR 2 _ rfl) (.inr (Nat.zero_le _))
              have f3 := hF.cell (hR 3 _ rfl) (.inr (Nat.zero_le _))
              have BB : Hid (Below w.heap.size w w2) := below_step bW (by omega) bF
              clear hF hR bF bW d0 d1 d2 d3 hbel hSA hSB hFo
              go_wp2_with fail
              go_quiet (fail)
              go_wp2
              go_roundw
              case rel => exact ⟨k + 1, by omega, by first | rfl | go_num, by rw [HE1.out], by rw [HE2.out], HL2.out, by omega, by omega, below_drewN' BB.out _⟩
              case measure => first | (simp [intOf]; omega) | simp [intOf]
      · have q : ¬ (k : Int) < (l.length : Int) := by omega
        have HC : Hid (cfa xs ys l = 0) := by
          show _ = _
          have := hL.out
          rw [show l.length - k = 0 by omega] at this
          rw [HV.out, ← this]; rfl
        clear hL hea heb
        go_wp2
        go_ret
        exact ⟨ret_int HC.out.symm, hbel⟩
  · have hb := ne_beq h0
    have HV : Hid (cfa xs ys l = asked xs ys) := cfa_no h0
    obtain ⟨v, hv⟩ : ∃ v, asked xs ys = v := ⟨_, rfl⟩
    rw [hv] at hA hb HV
    clear h0 hv
    go_enter Try.func28, Try.ntmps28
    go_wp2_with fail
    refine (hA _ h1 h2).mono ?_; rintro e w' ⟨rfl, rfl⟩
    go_wp2
    go_ret
    exact ⟨ret_int HV.out.symm, Below.refl _ _⟩
end Go.Proofs.Ytbmokagmpdgidaa
