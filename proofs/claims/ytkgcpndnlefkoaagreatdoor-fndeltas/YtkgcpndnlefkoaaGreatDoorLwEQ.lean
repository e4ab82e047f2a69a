/- Lists of entries, of files held together by the law; a text that is not among others. No statement is proved here. -/
import Derived.Test.YtkgcpndnlefkoaaGreatDoorRows
import Derived.Test.YtkgcpndnlefkoaaGreatDoorLemQ
import Derived.Test.YtkgcpndnlefkoaaGreatDoorLFLemQ
import Derived.Test.YtkgcpndnlefkoaaGreatDoorDTabQ
import Derived.Test.YtkgcpndnlefkoaaGreatDoorInQ
import Derived.Test.YtkgcpndnlefkoaaGreatDoorEnLQ
import Derived.WalkKit
import Derived.ProofKit
import Derived.Below
import Derived.WalkSpells
import Derived.Deep.QuietTactic
import Derived.BigQuiet
import Derived.Deep.RegionWith
import Derived.Deep.RegionHeld
import Derived.Laws.Concat
import Derived.Laws.IdiomStrings
set_option linter.unusedVariables false
namespace Go.Proofs.YtkgcpndnlefkoaaGreatDoor
open Go.ChangeShapes Go.WideShapes Go.ChangeAt Go.RowKit
theorem run_selfF (x0 x2 : ByteArray) (x1 : Int) (w : World) : (Op.equalIn 10000 42 (.agg #[.string x0, .int .i64 x1, .string x2]) (.agg #[.string x0, .int .i64 x1, .string x2])).run Tryz.prog w = .ok true w := by
  have b0 : (x0.toList == x0.toList) = true := beq_bytes_true rfl
  have b2 : (x2.toList == x2.toList) = true := beq_bytes_true rfl
  go_simp
set_option maxRecDepth 20000 in
set_option maxHeartbeats 2000000 in
theorem lwFilesC (a1 a2 : Option Addr) (c1 c2 : Nat) (l : List Fl.Ob) (w : World) (h1 : Fl.OB w.heap.size w a1 l) (h2 : Fl.OB w.heap.size w a2 l) (hn : l.length ≤ 1048576) :
    Calls Tryz.prog 9 #[.slice a1 l.length c1, .slice a2 l.length c2] w fun e w' => e = .returned (.bool true) ∧ ∃ n, w' = w.drewN n := by
  have hne : ((l.length : Int) != (l.length : Int)) = false := by simp
  go_enter Tryz.func9, Tryz.ntmps9
  go_wp2
  go_loopw [5] (fun vi wr => ∃ k : Nat, k ≤ l.length ∧ vi = .int .i64 (k : Int) ∧ ∃ nq, wr = w.drewN nq) (fun vi _ => l.length - (intOf vi).toNat)
  case atStart => exact ⟨0, Nat.zero_le _, rfl, 0, rfl⟩
  case round =>
    obtain ⟨k, hk, rfl, nr, hwr⟩ := hrel
    have HW : Hid (wr = w.drewN nr) := hwr
    by_cases hlt : k < l.length
    · have q : (k : Int) < (l.length : Int) := by omega
      obtain ⟨b1, o1, rfl, _, p0, p1, p2⟩ := h1 k hlt
      obtain ⟨b2, o2, rfl, _, r0, r1, r2⟩ := h2 k hlt
      obtain ⟨C, hC⟩ : ∃ C, l.getD k Fl.onil = C := ⟨_, rfl⟩
      obtain ⟨x0, x1, x2⟩ := C
      rw [hC] at p0 p1 p2 r0 r1 r2
      simp only [] at p0 p1 p2 r0 r1 r2
      have hE := run_selfF x0 x2 x1
      have P0 := (congrArg (fun u => World.cell? u _) hwr).trans p0
      have R0 := (congrArg (fun u => World.cell? u _) hwr).trans r0
      have P1 := (congrArg (fun u => World.cell? u _) hwr).trans p1
      have R1 := (congrArg (fun u => World.cell? u _) hwr).trans r1
      have P2 := (congrArg (fun u => World.cell? u _) hwr).trans p2
      have R2 := (congrArg (fun u => World.cell? u _) hwr).trans r2
      clear hC hwr p0 p1 p2 r0 r1 r2 h1 h2
      go_wp2_with fail
      go_quiet (fail)
      all_goals
        go_wp2_with fail
        go_roundw
        case rel => exact ⟨k + 1, by omega, by go_num, _, by rw [HW.out, World.drewN_drewN]⟩
        case measure => simp [intOf]; omega
    · have q : ¬ (k : Int) < (l.length : Int) := by omega
      clear hwr
      go_wp2_with fail
      go_ret
      exact ⟨rfl, nr, HW.out⟩
end Go.Proofs.YtkgcpndnlefkoaaGreatDoor
/- Contracts of the laws' marks (markText, markStringS, heldStringS) over this seat's program. No statement is proved here. -/
namespace Go.Proofs.YtkgcpndnlefkoaaGreatDoor
open Go.ChangeShapes Go.WideShapes Go.ChangeAt Go.RowKit

theorem ret_string {a b : ByteArray} (h : a = b) : Ending.returned (.string a) = .returned (.string b) := by rw [h]
/-- The digits of n ahead of t, in at most f steps. -/
def dgsF : Nat → Nat → ByteArray → ByteArray
  | 0, _, t => t
  | f + 1, n, t => if n = 0 then t else dgsF f (n / 10) (⟨#[(48 + n % 10).toUInt8]⟩ ++ t)
theorem dgsF_zero (f : Nat) (t : ByteArray) : dgsF f 0 t = t := by
  cases f with
  | zero => rfl
  | succ f => rw [dgsF, if_pos rfl]
theorem dgsF_more : ∀ (f g n : Nat) (t : ByteArray), n ≤ f → n ≤ g → dgsF f n t = dgsF g n t := by
  intro f
  induction f with
  | zero =>
    intro g n t hf _
    have : n = 0 := by omega
    subst this
    rw [dgsF_zero, dgsF_zero]
  | succ f ih =>
    intro g n t hf hg
    by_cases h0 : n = 0
    · subst h0; rw [dgsF_zero, dgsF_zero]
    · cases g with
      | zero => omega
      | succ g =>
        rw [dgsF, dgsF, if_neg h0, if_neg h0]
        exact ih g (n / 10) _ (by omega) (by omega)
/-- The digits of n ahead of t. -/
def dgs (n : Nat) (t : ByteArray) : ByteArray := dgsF n n t
theorem dgs_zero (t : ByteArray) : dgs 0 t = t := rfl
theorem dgs_pos (n : Nat) (t : ByteArray) (h : ¬ n = 0) : dgs n t = dgs (n / 10) (⟨#[(48 + n % 10).toUInt8]⟩ ++ t) := by
  unfold dgs
  obtain ⟨m, rfl⟩ : ∃ m, n = m + 1 := ⟨n - 1, by omega⟩
  rw [dgsF, if_neg h]
  exact dgsF_more _ _ _ _ (by omega) (Nat.le_refl _)
/-- The mark of number n. -/
def mtxt (n : Nat) : ByteArray := ⟨#[109]⟩ ++ dgs n ⟨#[]⟩

theorem conv_one (wx : World) (c : Int) (m : Nat) (hcm : c = (m : Int)) (hm : m < 256) :
    (convert 22 9 (.slice (some ⟨wx.heap.size, 0, none⟩) 1 1)).run Tryz.prog (wx.alloc (.cells #[.int .u8 c] 5)) = .ok (.string ⟨#[m.toUInt8]⟩) (wx.alloc (.cells #[.int .u8 c] 5)) := by
  subst hcm
  have e : (m.toUInt8.toNat : Int) = (m : Int) := by
    have : m.toUInt8.toNat = m % 256 := by simp
    omega
  refine run_convert_bytes_back _ 22 9 5 ⟨wx.heap.size, 0, none⟩ 1 [m.toUInt8] Tryz.underlying22 Tryz.underlying5 Tryz.underlying9 ?_
  intro j hj
  have : j = 0 := by simp at hj; omega
  subst this
  show _ = some (Value.int .u8 (m.toUInt8.toNat : Int))
  rw [e]
  simp [Addr.add]

theorem grown_of_below {w w' : World} (h : Below w.heap.size w w') (row : Option Nat) : w.grownBy w' row := ⟨h.os, h.tape, h.output, h.size, fun k hk _ => h.block k hk⟩
theorem grown_trans {a b c : World} {row : Option Nat} (h : a.grownBy b row) (k : b.grownBy c row) : a.grownBy c row :=
  ⟨k.os.trans h.os, k.tape.trans h.tape, k.output.trans h.output, Nat.le_trans h.size k.size, fun i hi hne => (k.block i (Nat.lt_of_lt_of_le hi h.size) hne).trans (h.block i hi hne)⟩
theorem mtxt_size (n : Nat) (h : n ≤ 8388608) : (mtxt n).size ≤ 9223372036854775807 := by
  have key : ∀ m k (s : ByteArray), k ≤ m → (dgs k s).size ≤ s.size + k := by
    intro m
    induction m with
    | zero => intro k s hk; have : k = 0 := by omega
              subst this; rw [dgs_zero]; omega
    | succ m ih =>
      intro k s hk
      by_cases h0 : k = 0
      · subst h0; rw [dgs_zero]; omega
      · rw [dgs_pos k s h0]
        have := ih (k / 10) (⟨#[(48 + k % 10).toUInt8]⟩ ++ s) (by omega)
        have e : (⟨#[(48 + k % 10).toUInt8]⟩ ++ s : ByteArray).size = 1 + s.size := by rw [ByteArray.size_append]; rfl
        omega
  have := key n n ⟨#[]⟩ (Nat.le_refl _)
  have e : (⟨#[]⟩ : ByteArray).size = 0 := rfl
  have e2 : (⟨#[109]⟩ : ByteArray).size = 1 := rfl
  unfold mtxt
  rw [ByteArray.size_append]
  omega

/-- The marks from m on, n of them. -/
def marks (m n : Nat) : List ByteArray := (List.range n).map fun i => mtxt (m + i)
theorem marks_length (m n : Nat) : (marks m n).length = n := by simp [marks]
theorem marks_at (m n k : Nat) (h : k < n) : (marks m n).getD k ByteArray.empty = mtxt (m + k) := by
  rw [getD_at _ k (by rw [marks_length]; exact h)]; simp [marks]
theorem marks_snoc (m n : Nat) : marks m (n + 1) = marks m n ++ [mtxt (m + n)] := by simp [marks, List.range_succ]
theorem marks_small (m n : Nat) (h : m + n ≤ 4194304) : ∀ k, k < (marks m n).length → ((marks m n).getD k ByteArray.empty).size ≤ 9223372036854775807 := by
  intro k hk
  rw [marks_length] at hk
  rw [marks_at m n k hk]
  exact mtxt_size _ (by omega)
def mixed (xs : List Value) (m k : Nat) : List Value := (marks m k).map Value.string ++ xs.drop k
theorem mixed_set (xs : List Value) (m k : Nat) (h : k < xs.length) : (mixed xs m k).set k (.string (mtxt (m + k))) = mixed xs m (k + 1) := by
  unfold mixed
  rw [marks_snoc, List.map_append, List.append_assoc, List.set_append_right _ _ (by simp [marks_length])]
  congr 1
  simp only [List.length_map, marks_length, Nat.sub_self]
  rw [List.drop_eq_getElem_cons h]
  rfl

end Go.Proofs.YtkgcpndnlefkoaaGreatDoor
