/- IsClean of both sides. No statement is proved here. -/
import Derived.Test.YticagabnaibmgaaRows
import Derived.Test.YticagabnaibmgaaLem
import Derived.Test.YticagabnaibmgaaStrs
import Derived.Test.YticagabnaibmgaaDTab
import Derived.Test.YticagabnaibmgaaOwn
import Derived.Test.YticagabnaibmgaaFr
import Derived.Test.YticagabnaibmgaaHkT
import Derived.Test.YticagabnaibmgaaEnL
import Derived.Test.YticagabnaibmgaaCrC
import Derived.WalkKit
import Derived.ProofKit
import Derived.Below
import Derived.WalkSpells
set_option linter.unusedVariables false
namespace Go.Proofs.Yticagabnaibmgaa.Cr
open Go.ChangeShapes Go.WideShapes Go.ChangeAt Go.RowKit


/-- No entry of a stage above 0. -/
def noneUp (l : List En.Ob) : Bool := l.all fun o => decide (¬ 0 < o.2.1)
def icB (k : Int) (l : List En.Ob) : Bool := decide (k = 0) && noneUp l
theorem up_hit {l : List En.Ob} {k : Nat} (hk : k < l.length) (h : 0 < (l.getD k En.onil).2.1) : noneUp l = false := by
  cases e : noneUp l with
  | false => rfl
  | true =>
    have := of_decide_eq_true (List.all_eq_true.1 e _ (En.ob_mem l k hk))
    exact absurd h this
theorem up_take {l : List En.Ob} {k : Nat} (hk : k < l.length) (h : noneUp (l.take k) = true) (h1 : ¬ 0 < (l.getD k En.onil).2.1) : noneUp (l.take (k + 1)) = true := by
  unfold noneUp at h ⊢
  rw [List.take_succ_eq_append_getElem hk, List.all_append, h]
  have e : l.getD k En.onil = l[k] := by simp [List.getD, hk]
  rw [e] at h1
  simp
  omega
theorem isClash (s t : ByteArray) (k m : Int) (w : World) :
    Calls Try.prog 56 #[.agg #[.string s, .int .i64 k, .int .i64 m, .string t]] w fun e w' => e = .returned (.bool (decide (0 < k))) ∧ Below w.heap.size w w' := by
  go_enter Try.func56, Try.ntmps56
  go_wp2
  go_ret
  exact ⟨rfl, allocBelow _ _⟩
set_option maxRecDepth 20000 in
set_option maxHeartbeats 1000000 in
theorem indexFunc (a : Option Addr) (c : Nat) (l : List En.Ob) (w : World) (h : En.OB w.heap.size w a l) (hn : l.length ≤ 1048576) :
    Calls Try.prog 89 #[.slice a l.length c, .func (.func 56) #[] #[]] w fun e w' => (∃ r : Int, e = .returned (.int .i64 r) ∧ decide (0 ≤ r) = !(noneUp l)) ∧ Below w.heap.size w w' := by
  have H0 : Hid (noneUp (l.take 0) = true) := rfl
  go_enter Try.func89, Try.ntmps89
  go_wp2
  go_loopw [5, 8] (fun _m i wr => ∃ k : Nat, k ≤ l.length ∧ i = .int .i64 k ∧ Below w.heap.size w wr ∧ Hid (noneUp (l.take k) = true)) (fun _ i _ => l.length - (intOf i).toNat)
  case atStart => exact ⟨0, Nat.zero_le _, rfl, Below.refl _ _, H0⟩
  case round =>
    obtain ⟨k, hk, rfl, hbel, h0⟩ := hrel
    clear H0
    have hsz := hbel.size
    by_cases hlt : k < l.length
    · have q : (k : Int) < (l.length : Int) := by omega
      obtain ⟨g, off, e, hg, c0, c1, c2, c3⟩ := h.below hbel k hlt
      subst e
      have hh := up_hit hlt
      have hm := up_take hlt h0.out
      obtain ⟨C, hC⟩ : ∃ C, l.getD k En.onil = C := ⟨_, rfl⟩
      obtain ⟨x, y, z, t⟩ := C
      rw [hC] at c0 c1 c2 c3 hh hm
      simp only [] at c0 c1 c2 c3 hh hm
      have hI := fun W => isClash x t y z W
      clear hC
      by_cases e : 0 < y
      · have HE : Hid (noneUp l = false) := hh e
        have q1 : decide (0 < y) = true := decide_eq_true e
        rw [q1] at hI
        clear hh hm h0 q1 e
        go_wp2_with fail
        refine (hI _).mono ?_; rintro e w2 ⟨rfl, b2⟩
        have HB : Hid (Below w.heap.size w w2) := below_step hbel hsz b2
        clear b2 hI c0 c1 c2 c3
        go_wp2
        go_ret
        refine ⟨⟨(k : Int), rfl, ?_⟩, HB.out⟩
        rw [HE.out]
        exact decide_eq_true (by omega)
      · have HN : Hid (noneUp (l.take (k + 1)) = true) := hm e
        have q1 : decide (0 < y) = false := decide_eq_false e
        rw [q1] at hI
        clear hh hm h0 q1 e
        go_wp2_with fail
        refine (hI _).mono ?_; rintro e w2 ⟨rfl, b2⟩
        have HB : Hid (Below w.heap.size w w2) := below_step hbel hsz b2
        clear b2 hI c0 c1 c2 c3
        go_wp2
        go_roundw
        case rel => exact ⟨k + 1, by omega, by go_num, HB.out, HN⟩
        case measure => first | (simp [intOf]; omega) | simp [intOf]
    · have q : ¬ (k : Int) < (l.length : Int) := by omega
      have HE : Hid (noneUp l = true) := by
        have := h0.out
        rw [List.take_of_length_le (by omega)] at this
        exact this
      clear h0
      go_wp2
      go_ret
      refine ⟨⟨-1, rfl, ?_⟩, hbel⟩
      rw [HE.out]
      rfl
theorem containsFunc (a : Option Addr) (c : Nat) (l : List En.Ob) (w : World) (h : En.OB w.heap.size w a l) (hn : l.length ≤ 1048576) :
    Calls Try.prog 57 #[.slice a l.length c, .func (.func 56) #[] #[]] w fun e w' => e = .returned (.bool (!(noneUp l))) ∧ Below w.heap.size w w' := by
  have hI := fun W h => indexFunc a c l W h hn
  obtain ⟨Z, hZ⟩ : ∃ Z, (!(noneUp l)) = Z := ⟨_, rfl⟩
  simp only [hZ] at hI ⊢
  clear hZ
  go_enter Try.func57, Try.ntmps57
  go_wp2_with fail
  refine (hI _ h).mono ?_; rintro e w1 ⟨⟨r, rfl, hr⟩, b1⟩
  have hr' : Hid (decide (0 ≤ r) = Z) := hr
  clear hr hI
  go_wp2
  go_ret
  exact ⟨congrArg (fun b => Ending.returned (Value.bool b)) hr'.out, b1⟩
set_option maxRecDepth 20000 in
set_option maxHeartbeats 1000000 in
theorem implIsClean (k0 k1 : Int) (a1 a2 a3 : Option Addr) (n1 n3 c1 c2 c3 : Nat) (l2 : List En.Ob) (w : World) (h : En.OB w.heap.size w a2 l2) (hn : l2.length ≤ 1048576) :
    Calls Try.prog 23 #[.agg #[.int .i64 k0, .int .i64 k1, .slice a1 n1 c1, .slice a2 l2.length c2, .slice a3 n3 c3]] w fun e w' => e = .returned (.bool (icB k0 l2)) ∧ Below w.heap.size w w' := by
  obtain ⟨W1, hW1⟩ : ∃ W, w.alloc (.cells #[.int .i64 k0, .int .i64 k1, .slice a1 n1 c1, .slice a2 l2.length c2, .slice a3 n3 c3] 59) = W := ⟨_, rfl⟩
  have b1 : Below w.heap.size w W1 := by rw [← hW1]; exact allocBelow _ _
  have r1 : Rs W1 w.heap.size [.int .i64 k0, .int .i64 k1, .slice a1 n1 c1, .slice a2 l2.length c2, .slice a3 n3 c3] := by rw [← hW1]; exact Rs.new _ _ _
  have k0' := r1 0 _ rfl
  have k3 := r1 3 _ rfl
  have H1 := (h.below b1).mono b1.size
  clear r1 h
  by_cases e : k0 = 0
  · have HE : Hid (icB k0 l2 = !(!(noneUp l2))) := by show _ = _; unfold icB; rw [decide_eq_true e]; simp
    rw [HE.out]
    subst e
    obtain ⟨Z, hZ⟩ : ∃ Z, (!(noneUp l2)) = Z := ⟨_, rfl⟩
    have hC := fun W h => containsFunc a2 c2 l2 W h hn
    rw [hZ] at hC ⊢
    clear hZ HE
    go_enter Try.func23, Try.ntmps23
    go_wp2_with fail
    refine (hC _ H1).mono ?_; rintro e w2 ⟨rfl, b2⟩
    have B2 := b1.trans (b2.mono b1.size)
    clear b2 b1 hC k0' k3 hW1
    cases Z with
    | true =>
      go_wp2_with fail
      go_ret
      exact ⟨rfl, B2⟩
    | false =>
      go_wp2_with fail
      go_ret
      exact ⟨rfl, B2⟩
  · have HE : Hid (icB k0 l2 = false) := by show _ = _; unfold icB; rw [decide_eq_false e]; rfl
    rw [HE.out]
    have q : (k0 == 0) = false := by simp [e]
    clear HE e
    go_enter Try.func23, Try.ntmps23
    go_wp2_with fail
    go_ret
    exact ⟨rfl, b1⟩
set_option maxRecDepth 20000 in
set_option maxHeartbeats 1000000 in
theorem specIsClean (k0 k1 : Int) (a1 a2 a3 : Option Addr) (n1 n3 c1 c2 c3 : Nat) (l2 : List En.Ob) (w : World) (h : En.OB w.heap.size w a2 l2) (hn : l2.length ≤ 1048576) :
    Calls Try.prog 21 #[.agg #[.int .i64 k0, .int .i64 k1, .slice a1 n1 c1, .slice a2 l2.length c2, .slice a3 n3 c3]] w fun e w' => e = .returned (.bool (icB k0 l2)) ∧ Below w.heap.size w w' := by
  obtain ⟨W1, hW1⟩ : ∃ W, w.alloc (.cells #[.int .i64 k0, .int .i64 k1, .slice a1 n1 c1, .slice a2 l2.length c2, .slice a3 n3 c3] 59) = W := ⟨_, rfl⟩
  have b1 : Below w.heap.size w W1 := by rw [← hW1]; exact allocBelow _ _
  have r1 : Rs W1 w.heap.size [.int .i64 k0, .int .i64 k1, .slice a1 n1 c1, .slice a2 l2.length c2, .slice a3 n3 c3] := by rw [← hW1]; exact Rs.new _ _ _
  have k0' := r1 0 _ rfl
  have k3 := r1 3 _ rfl
  have H1 := (h.below b1).mono b1.size
  clear r1 h
  by_cases e : k0 = 0
  · have HE : Hid (icB k0 l2 = noneUp l2) := by show _ = _; unfold icB; rw [decide_eq_true e]; simp
    rw [HE.out]
    subst e
    have H0 : Hid (noneUp (l2.take 0) = true) := rfl
    clear HE
    go_enter Try.func21, Try.ntmps21
    go_wp2
    go_loopw [3] (fun i wr => ∃ k : Nat, k ≤ l2.length ∧ i = .int .i64 k ∧ W1 = wr ∧ Hid (noneUp (l2.take k) = true)) (fun i _ => l2.length - (intOf i).toNat)
    case atStart => exact ⟨0, Nat.zero_le _, rfl, rfl, H0⟩
    case round =>
      obtain ⟨k, hk, rfl, rfl, h0⟩ := hrel
      clear H0
      by_cases hlt : k < l2.length
      · have q : (k : Int) < (l2.length : Int) := by omega
        obtain ⟨g, off, e, hg, x0, x1, x2, x3⟩ := H1 k hlt
        subst e
        have hh := up_hit hlt
        have hm := up_take hlt h0.out
        obtain ⟨C, hC⟩ : ∃ C, l2.getD k En.onil = C := ⟨_, rfl⟩
        obtain ⟨x, y, z, t⟩ := C
        rw [hC] at x0 x1 x2 x3 hh hm
        simp only [] at x0 x1 x2 x3 hh hm
        clear hC
        by_cases e : 0 < y
        · have HE : Hid (noneUp l2 = false) := hh e
          clear hh hm h0
          go_wp2
          go_ret
          exact ⟨congrArg (fun b => Ending.returned (Value.bool b)) HE.out.symm, b1⟩
        · have HN : Hid (noneUp (l2.take (k + 1)) = true) := hm e
          clear hh hm h0
          go_wp2
          go_roundw
          case rel => exact ⟨k + 1, by omega, by go_num, trivial, HN⟩
          case measure => first | (simp [intOf]; omega) | simp [intOf]
      · have q : ¬ (k : Int) < (l2.length : Int) := by omega
        have HE : Hid (noneUp l2 = true) := by
          have := h0.out
          rw [List.take_of_length_le (by omega)] at this
          exact this
        clear h0
        go_wp2
        go_ret
        exact ⟨congrArg (fun b => Ending.returned (Value.bool b)) HE.out.symm, b1⟩
  · have HE : Hid (icB k0 l2 = false) := by show _ = _; unfold icB; rw [decide_eq_false e]; rfl
    rw [HE.out]
    have q : (k0 != 0) = true := by simp [e]
    clear HE e
    go_enter Try.func21, Try.ntmps21
    go_wp2_with fail
    go_ret
    exact ⟨rfl, b1⟩
end Go.Proofs.Yticagabnaibmgaa.Cr
