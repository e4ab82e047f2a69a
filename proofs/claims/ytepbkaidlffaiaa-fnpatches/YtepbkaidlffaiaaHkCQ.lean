/- The contracts of SizesOf (the program's and the specification's) and of what they call. No statement is proved here. -/
import Derived.Test.YtepbkaidlffaiaaRows
import Derived.Test.YtepbkaidlffaiaaLemQ
import Derived.Test.YtepbkaidlffaiaaStrsQ
import Derived.Test.YtepbkaidlffaiaaIdxBQ
import Derived.Test.YtepbkaidlffaiaaLFLemQ
import Derived.Test.YtepbkaidlffaiaaLFQ
import Derived.Test.YtepbkaidlffaiaaHkLQ
import Derived.Test.YtepbkaidlffaiaaDTabQ
import Derived.Test.YtepbkaidlffaiaaFrQ
import Derived.WalkKit
import Derived.ProofKit
import Derived.Below
import Derived.WalkSpells
namespace Go.Proofs.Ytepbkaidlffaiaa
open Go.ChangeShapes Go.WideShapes Go.ChangeAt Go.RowKit

theorem ret_two {a b c d : Int} (h : a = c) (k : b = d) : Ending.returned (.tuple #[.int .i64 a, .int .i64 b]) = .returned (.tuple #[.int .i64 c, .int .i64 d]) := by rw [h, k]

theorem countsOf (b : Int) (w : World) :
    Calls Try.prog 89 #[.int .u8 b] w fun e w' => e = .returned (.tuple #[.int .i64 (old1 b), .int .i64 (new1 b)]) ∧ w' = w := by
  by_cases h1 : b = 32
  · subst h1
    go_enter Try.func89, Try.ntmps89
    go_wp2
    refine bodyPost_ret (v := .tuple #[.int .i64 1, .int .i64 1]) (by simp [results, Try.results89, go_sem]) rfl ?_
    exact ⟨rfl, rfl⟩
  · have q1 : (b == 32) = false := by simp [h1]
    by_cases h2 : b = 45
    · subst h2
      go_enter Try.func89, Try.ntmps89
      go_wp2
      refine bodyPost_ret (v := .tuple #[.int .i64 1, .int .i64 0]) (by simp [results, Try.results89, go_sem]) rfl ?_
      exact ⟨rfl, rfl⟩
    · have q2 : (b == 45) = false := by simp [h2]
      by_cases h3 : b = 43
      · subst h3
        go_enter Try.func89, Try.ntmps89
        go_wp2
        refine bodyPost_ret (v := .tuple #[.int .i64 0, .int .i64 1]) (by simp [results, Try.results89, go_sem]) rfl ?_
        exact ⟨rfl, rfl⟩
      · have q3 : (b == 43) = false := by simp [h3]
        have e1 : Hid (old1 b = 0) := by show _ = _; unfold old1; simp [h1, h2]
        have e2 : Hid (new1 b = 0) := by show _ = _; unfold new1; simp [h1, h3]
        clear h1 h2 h3
        go_enter Try.func89, Try.ntmps89
        go_wp2
        refine bodyPost_ret (v := .tuple #[.int .i64 0, .int .i64 0]) (by simp [results, Try.results89, go_sem]) rfl ?_
        exact ⟨ret_two e1.out.symm e2.out.symm, rfl⟩

theorem isMark (b : Int) (w : World) :
    Calls Try.prog 95 #[.int .u8 b] w fun e w' => e = .returned (.bool (isMk b)) ∧ w' = w := by
  have H := fun w => countsOf b w
  have e := isMk_sum b
  have b1 := old1_bd b
  have b2 := new1_bd b
  obtain ⟨x, hx⟩ : ∃ x, old1 b = x := ⟨_, rfl⟩
  obtain ⟨y, hy⟩ : ∃ y, new1 b = y := ⟨_, rfl⟩
  rw [hx] at H e b1
  rw [hy] at H e b2
  rw [e]
  clear e hx hy
  go_enter Try.func95, Try.ntmps95
  go_wp2_with fail
  refine (H _).mono ?_; rintro e w' ⟨rfl, rfl⟩
  go_wp2
  go_ret
  exact ⟨rfl, rfl⟩

set_option maxHeartbeats 800000 in
theorem isMarkedLine (s : ByteArray) (w : World) (hs : s.size ≤ 9223372036854775807) :
    Calls Try.prog 88 #[.string s] w fun e w' => e = .returned (.bool (okH s)) ∧ w' = w := by
  have he := empty_iff s
  by_cases h0 : s.size = 0
  · have h1 : s.toList.isEmpty = true := by rw [he]; exact decide_eq_true (List.eq_nil_of_length_eq_zero (by simpa using h0))
    have H : Hid (okH s = false) := by show _ = _; unfold okH; simp [h0]
    clear he h0
    go_enter Try.func88, Try.ntmps88
    go_wp2
    go_ret
    exact ⟨ret_bool H.out.symm, rfl⟩
  · have hp : 0 < s.size := by omega
    have h1 : s.toList.isEmpty = false := by rw [he]; exact decide_eq_false (fun e => h0 (by have := congrArg List.length e; simpa using this))
    have hM := fun w => isMark (mark0 s) w
    rw [mark0_eq s hp] at hM
    have hT := fun w => isLine (s.extract 1 s.size) true w (by rw [tail_size]; omega)
    have HO : okH s = (isMk (mark0 s) && okLine (s.extract 1 s.size).data.toList true) := by unfold okH; rw [decide_eq_true hp, Bool.true_and]
    rw [mark0_eq s hp] at HO
    obtain ⟨A, hA⟩ : ∃ A, isMk (s[0].toNat : Int) = A := ⟨_, rfl⟩
    obtain ⟨D, hD⟩ : ∃ D, okLine (s.extract 1 s.size).data.toList true = D := ⟨_, rfl⟩
    rw [hA] at hM HO
    rw [hD] at hT HO
    have H : Hid (okH s = (A && D)) := HO
    clear hA hD HO he h0
    cases A with
    | false =>
      go_enter Try.func88, Try.ntmps88
      go_wp2_with fail
      refine (hM _).mono ?_; rintro e w' ⟨rfl, rfl⟩
      go_wp2_with fail
      go_ret
      exact ⟨ret_bool H.out.symm, rfl⟩
    | true =>
      go_enter Try.func88, Try.ntmps88
      go_wp2_with fail
      refine (hM _).mono ?_; rintro e w' ⟨rfl, rfl⟩
      go_wp2_with fail
      refine (hT _).mono ?_; rintro e w' ⟨rfl, rfl⟩
      go_wp2_with fail
      go_ret
      exact ⟨ret_bool H.out.symm, rfl⟩

def lnC (s : ByteArray) : Int := if okH s = true then 0 else 1
theorem lnC_ok {s : ByteArray} (h : okH s = true) : lnC s = 0 := if_pos h
theorem lnC_no {s : ByteArray} (h : okH s = false) : lnC s = 1 := if_neg (by rw [h]; exact Bool.false_ne_true)

theorem boxBelow (w : World) (o : Obj) : Below w.heap.size w (w.alloc o) := (Below.refl _ _).alloc (Nat.le_refl _) _

end Go.Proofs.Ytepbkaidlffaiaa
