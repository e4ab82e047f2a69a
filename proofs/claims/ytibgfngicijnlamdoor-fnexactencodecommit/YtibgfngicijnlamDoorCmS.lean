/- szCommit of the law. No statement is proved here. -/
import Derived.Test.YtibgfngicijnlamDoorRows
import Derived.Test.YtibgfngicijnlamDoorLem
import Derived.Test.YtibgfngicijnlamDoorStrs
import Derived.Test.YtibgfngicijnlamDoorDTab
import Derived.Test.YtibgfngicijnlamDoorHkT
import Derived.WalkKit
import Derived.ProofKit
import Derived.Below
import Derived.WalkSpells
namespace Go.Proofs.YtibgfngicijnlamDoor
open Go.ChangeShapes Go.WideShapes Go.ChangeAt Go.RowKit

/-- What is left of a bound behind a commit. -/
def leftC (l : Int) (t : ByteArray) (ss : List ByteArray) (no : ByteArray) : Int :=
  if l - t.size < 0 then -1 else if left (l - t.size) ss < 0 then -1 else if left (l - t.size) ss - no.size < 0 then -1 else left (l - t.size) ss - no.size
theorem left_le {l : Int} {ss : List ByteArray} (h : ¬ left l ss < 0) : left l ss ≤ l ∧ (ss.length : Int) ≤ l := by
  have ht := tot_nonneg ss
  unfold left at h ⊢
  split at h
  · simp at h
  · rename_i q
    rw [if_neg q]
    omega
theorem leftC_nums {l : Int} {t : ByteArray} {ss : List ByteArray} {no : ByteArray} (h : ¬ leftC l t ss no < 0) (hl : l ≤ 1048576) : ss.length ≤ 1048576 := by
  unfold leftC at h
  split at h
  · simp at h
  · split at h
    · simp at h
    · rename_i q
      have := (left_le q).2
      omega
set_option maxRecDepth 20000 in
set_option maxHeartbeats 1000000 in
theorem szCommit (t no : ByteArray) (tm : Int) (a : Option Addr) (cap : Nat) (ss : List ByteArray) (l : Int) (w : World) (hs : SS w a ss) (hn : ss.length ≤ 9223372036854775807) (hl0 : 0 ≤ l) (hl1 : l ≤ 1048576) (ht : t.size ≤ 9223372036854775807) (hno : no.size ≤ 9223372036854775807) :
    Calls Tryd.prog 6 #[.agg #[.string t, .slice a ss.length cap, .int .i64 tm, .string no], .int .i64 l] w fun e w' => e = .returned (.int .i64 (leftC l t ss no)) ∧ Below w.heap.size w w' := by
  have hB : ∀ o, Below w.heap.size w (w.alloc o) := fun o => (Below.refl _ _).alloc (Nat.le_refl _) _
  have w0 : IntKind.i64.wrap (l - (t.size : Int)) = l - t.size := by rw [IntKind.wrap_i64]; omega
  by_cases c0 : l - (t.size : Int) < 0
  · have HR : Hid (leftC l t ss no = -1) := if_pos c0
    go_enter Tryd.func6, Tryd.ntmps6
    go_wp2
    go_ret
    exact ⟨ret_int HR.out.symm, hB _⟩
  have H := fun W h => szStringS a cap ss (l - t.size) W h hn (by omega) (by omega)
  by_cases c1 : left (l - t.size) ss < 0
  · have HR : Hid (leftC l t ss no = -1) := by
      show _ = _
      unfold leftC
      rw [if_neg c0, if_pos c1]
    obtain ⟨M, hM⟩ : ∃ M, left (l - t.size) ss = M := ⟨_, rfl⟩
    rw [hM] at H c1
    clear hM
    go_enter Tryd.func6, Tryd.ntmps6
    go_wp2_with fail
    refine (H _ (hs.below (hB _))).mono ?_; rintro e w1 ⟨rfl, rfl⟩
    go_wp2
    go_ret
    exact ⟨ret_int HR.out.symm, hB _⟩
  have hle := left_le c1
  have HC : Hid (leftC l t ss no = if left (l - t.size) ss - no.size < 0 then -1 else left (l - t.size) ss - no.size) := by
    show _ = _
    unfold leftC
    rw [if_neg c0, if_neg c1]
  obtain ⟨M, hM⟩ : ∃ M, left (l - t.size) ss = M := ⟨_, rfl⟩
  rw [hM] at H c1 HC hle
  clear hM
  have w1 : IntKind.i64.wrap (M - (no.size : Int)) = M - no.size := by rw [IntKind.wrap_i64]; omega
  by_cases c2 : M - (no.size : Int) < 0
  · have HR : Hid (leftC l t ss no = -1) := HC.out.trans (if_pos c2)
    clear HC
    go_enter Tryd.func6, Tryd.ntmps6
    go_wp2_with fail
    refine (H _ (hs.below (hB _))).mono ?_; rintro e w1 ⟨rfl, rfl⟩
    go_wp2
    go_ret
    exact ⟨ret_int HR.out.symm, hB _⟩
  · have HR : Hid (leftC l t ss no = M - no.size) := HC.out.trans (if_neg c2)
    clear HC
    go_enter Tryd.func6, Tryd.ntmps6
    go_wp2_with fail
    refine (H _ (hs.below (hB _))).mono ?_; rintro e w1 ⟨rfl, rfl⟩
    go_wp2
    go_ret
    exact ⟨ret_int HR.out.symm, hB _⟩
end Go.Proofs.YtibgfngicijnlamDoor
