/- The contracts of FollowPath and BackPath, of the specification and of the program. No statement is proved here. -/
import Derived.Test.YtgidcncmicmggaoRows
import Derived.Test.YtgidcncmicmggaoLem
import Derived.Test.YtgidcncmicmggaoStrs
import Derived.Test.YtgidcncmicmggaoDTab
import Derived.Test.YtgidcncmicmggaoOwn
import Derived.Test.YtgidcncmicmggaoFr
import Derived.Test.YtgidcncmicmggaoMvL
import Derived.Test.YtgidcncmicmggaoMvT
import Derived.Test.YtgidcncmicmggaoWvC
import Derived.WalkKit
import Derived.ProofKit
import Derived.Below
import Derived.WalkSpells
import Derived.Deep.QuietTactic
import Derived.BigQuiet
import Derived.Laws.Cover1
namespace Go.Proofs.Ytgidcncmicmggao.Mv
open Go.ChangeShapes Go.WideShapes Go.ChangeAt Go.RowKit
theorem ret_str {s t : ByteArray} (h : s = t) : Ending.returned (.string s) = .returned (.string t) := by rw [h]

/-- What FollowPath answers. -/
def foP : List Ob → ByteArray → ByteArray
  | [], p => p
  | o :: t, p => if o.1 = p then o.2.2 else foP t p
theorem foP_hit {l : List Ob} {k : Nat} {p : ByteArray} (hk : k < l.length) (h : (l.getD k onil).1 = p) : foP (l.drop k) p = (l.getD k onil).2.2 := by
  rw [ob_drop l k hk, foP, if_pos h]
theorem foP_miss {l : List Ob} {k : Nat} {p : ByteArray} (hk : k < l.length) (h : ¬ (l.getD k onil).1 = p) : foP (l.drop k) p = foP (l.drop (k + 1)) p := by
  rw [ob_drop l k hk, foP, if_neg h]
theorem foP_end {l : List Ob} {k : Nat} {p : ByteArray} (hk : l.length ≤ k) : foP (l.drop k) p = p := by
  rw [List.drop_of_length_le hk]; rfl
/-- What BackPath answers. -/
def baP : List Ob → ByteArray → ByteArray
  | [], p => p
  | o :: t, p => if o.2.2 = p then o.1 else baP t p
theorem baP_hit {l : List Ob} {k : Nat} {p : ByteArray} (hk : k < l.length) (h : (l.getD k onil).2.2 = p) : baP (l.drop k) p = (l.getD k onil).1 := by
  rw [ob_drop l k hk, baP, if_pos h]
theorem baP_miss {l : List Ob} {k : Nat} {p : ByteArray} (hk : k < l.length) (h : ¬ (l.getD k onil).2.2 = p) : baP (l.drop k) p = baP (l.drop (k + 1)) p := by
  rw [ob_drop l k hk, baP, if_neg h]
theorem baP_end {l : List Ob} {k : Nat} {p : ByteArray} (hk : l.length ≤ k) : baP (l.drop k) p = p := by
  rw [List.drop_of_length_le hk]; rfl
set_option maxRecDepth 20000 in
set_option maxHeartbeats 1000000 in
theorem specBackPath (a : Option Addr) (c : Nat) (l : List Ob) (p : ByteArray) (w : World) (h : OB w.heap.size w a l) (hn : l.length ≤ 1048576) :
    Calls Try.prog 6 #[.slice a l.length c, .string p] w fun e w' => e = .returned (.string (baP l p)) ∧ w' = w := by
  have H0 : Hid (baP (l.drop 0) p = baP l p) := rfl
  obtain ⟨R, hR⟩ : ∃ R, baP l p = R := ⟨_, rfl⟩
  rw [hR] at H0 ⊢
  clear hR
  go_enter Try.func6, Try.ntmps6
  go_wp2
  go_loopw [5] (fun i wr => ∃ k : Nat, k ≤ l.length ∧ i = .int .i64 k ∧ wr = w ∧ Hid (baP (l.drop k) p = R)) (fun i _ => l.length - (intOf i).toNat)
  case atStart => exact ⟨0, Nat.zero_le _, rfl, rfl, H0⟩
  case round =>
    obtain ⟨k, hk, rfl, rfl, h0⟩ := hrel
    clear H0
    by_cases hlt : k < l.length
    · have q : (k : Int) < (l.length : Int) := by omega
      obtain ⟨g, off, e, hg, d0, d1, d2⟩ := h k hlt
      subst e
      have hh := baP_hit (p := p) hlt
      have hm := baP_miss (p := p) hlt
      obtain ⟨C, hC⟩ : ∃ C, l.getD k onil = C := ⟨_, rfl⟩
      obtain ⟨x, z, y⟩ := C
      rw [hC] at d0 d1 d2 hh hm
      simp only [] at d0 d1 d2 hh hm
      clear hC
      by_cases e : y = p
      · have HE : Hid (x = R) := (hh e).symm.trans h0.out
        subst e
        have hb := beqSelf y
        clear d2 hh hm h0
        go_wp2
        go_ret
        exact ⟨ret_str HE.out, rfl⟩
      · have hb : (y.toList == p.toList) = false := beq_bytes_false e
        have HN : Hid (baP (l.drop (k + 1)) p = R) := (hm e).symm.trans h0.out
        clear d2 hh hm h0
        go_wp2
        go_roundw
        case rel => exact ⟨k + 1, by omega, by go_num, by trivial, HN⟩
        case measure => first | (simp [intOf]; omega) | simp [intOf]
    · have q : ¬ (k : Int) < (l.length : Int) := by omega
      have HE : Hid (p = R) := (baP_end (by omega)).symm.trans h0.out
      clear h0
      go_wp2
      go_ret
      exact ⟨ret_str HE.out, rfl⟩
set_option maxRecDepth 20000 in
set_option maxHeartbeats 1000000 in
theorem implBackPath (a : Option Addr) (c : Nat) (l : List Ob) (p : ByteArray) (w : World) (h : OB w.heap.size w a l) (hf : SmallO l) (hn : l.length ≤ 1048576) (hp : p.size ≤ 1048576) :
    Calls Try.prog 8 #[.slice a l.length c, .string p] w fun e w' => e = .returned (.string (baP l p)) ∧ Below w.heap.size w w' := by
  have H0 : Hid (baP (l.drop 0) p = baP l p) := rfl
  obtain ⟨R, hR⟩ : ∃ R, baP l p = R := ⟨_, rfl⟩
  rw [hR] at H0 ⊢
  clear hR
  go_enter Try.func8, Try.ntmps8
  go_wp2
  go_loopw [6, 9] (fun _m i wr => ∃ k : Nat, k ≤ l.length ∧ i = .int .i64 k ∧ Below w.heap.size w wr ∧ Hid (baP (l.drop k) p = R)) (fun _ i _ => l.length - (intOf i).toNat)
  case atStart => exact ⟨0, Nat.zero_le _, rfl, Below.refl _ _, H0⟩
  case round =>
    obtain ⟨k, hk, rfl, hbel, h0⟩ := hrel
    clear H0
    have hsz := hbel.size
    by_cases hlt : k < l.length
    · have q : (k : Int) < (l.length : Int) := by omega
      obtain ⟨g, off, e, hg, d0, d1, d2⟩ := h.below hbel k hlt
      subst e
      have hh := baP_hit (p := p) hlt
      have hm := baP_miss (p := p) hlt
      have hs := hf _ (ob_mem l k hlt)
      obtain ⟨C, hC⟩ : ∃ C, l.getD k onil = C := ⟨_, rfl⟩
      obtain ⟨x, z, y⟩ := C
      rw [hC] at d0 d1 d2 hh hm hs
      simp only [] at d0 d1 d2 hh hm hs
      clear hC
      by_cases e : y = p
      · have HE : Hid (x = R) := (hh e).symm.trans h0.out
        subst e
        have hb := beqSelf y
        have hC := fun w => cloneS x w (by omega)
        clear hh hm h0
        go_wp2_with fail
        refine (hC _).mono ?_; rintro e w2 ⟨rfl, b2⟩
        have HB := below_step hbel hsz ((allocBelow _ _).trans (b2.mono (by simp)))
        clear b2 hC d0 d1 d2
        go_wp2
        go_ret
        exact ⟨ret_str HE.out, HB⟩
      · have hb : (y.toList == p.toList) = false := beq_bytes_false e
        have HN : Hid (baP (l.drop (k + 1)) p = R) := (hm e).symm.trans h0.out
        clear hh hm h0
        go_wp2
        go_roundw
        case rel => exact ⟨k + 1, by omega, by go_num, below_step hbel hsz (allocBelow _ _), HN⟩
        case measure => first | (simp [intOf]; omega) | simp [intOf]
    · have q : ¬ (k : Int) < (l.length : Int) := by omega
      have HE : Hid (p = R) := (baP_end (by omega)).symm.trans h0.out
      have hC := fun w => cloneS p w (by omega)
      clear h0
      go_wp2_with fail
      refine (hC _).mono ?_; rintro e w2 ⟨rfl, b2⟩
      have HB := below_step hbel hsz b2
      clear b2 hC
      go_wp2
      go_ret
      exact ⟨ret_str HE.out, HB⟩
end Go.Proofs.Ytgidcncmicmggao.Mv
