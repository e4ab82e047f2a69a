/- Contracts of the laws' marks (markText, markStringS, heldStringS) over this seat's program. No statement is proved here. -/
import Derived.Test.YtaggjnaogmhfpaaDoorRows
import Derived.Test.YtaggjnaogmhfpaaDoorLemQ
import Derived.WalkKit
import Derived.ProofKit
import Derived.Below
import Derived.WalkSpells
import Derived.Laws.Concat
import Derived.Laws.IdiomStrings
import Derived.Deep.QuietTactic
import Derived.BigQuiet
namespace Go.Proofs.YtaggjnaogmhfpaaDoor
open Go.ChangeShapes Go.WideShapes Go.ChangeAt Go.RowKit

theorem ret_string {a b : ByteArray} (h : a = b) : Ending.returned (.string a) = .returned (.string b) := by rw [h]
/-- The digits of n ahead of t, in at most f steps. -/
def dgsF : Nat → Nat → ByteArray → ByteArray
  | 0, _, t => t
  | f + 1, n, t => if n = 0 then t else dgsF f (n / 10) (⟨#[(48 + n % 10).toUInt8]⟩ ++ t)
theorem dgsF_zero (f : Nat) (t : ByteArray) : dgsF f 0 t = t := by
  cases f with
  | zero => rfl
  | succ f => rw [dgsF, if_pos rfl]
theorem dgsF_more : ∀ (f g n : Nat) (t : ByteArray), n ≤ f → n ≤ g → dgsF f n t = dgsF g n t := by
  intro f
  induction f with
  | zero =>
    intro g n t hf _
    have : n = 0 := by omega
    subst this
    rw [dgsF_zero, dgsF_zero]
  | succ f ih =>
    intro g n t hf hg
    by_cases h0 : n = 0
    · subst h0; rw [dgsF_zero, dgsF_zero]
    · cases g with
      | zero => omega
      | succ g =>
        rw [dgsF, dgsF, if_neg h0, if_neg h0]
        exact ih g (n / 10) _ (by omega) (by omega)
/-- The digits of n ahead of t. -/
def dgs (n : Nat) (t : ByteArray) : ByteArray := dgsF n n t
theorem dgs_zero (t : ByteArray) : dgs 0 t = t := rfl
theorem dgs_pos (n : Nat) (t : ByteArray) (h : ¬ n = 0) : dgs n t = dgs (n / 10) (⟨#[(48 + n % 10).toUInt8]⟩ ++ t) := by
  unfold dgs
  obtain ⟨m, rfl⟩ : ∃ m, n = m + 1 := ⟨n - 1, by omega⟩
  rw [dgsF, if_neg h]
  exact dgsF_more _ _ _ _ (by omega) (Nat.le_refl _)
/-- The mark of number n. -/
def mtxt (n : Nat) : ByteArray := ⟨#[109]⟩ ++ dgs n ⟨#[]⟩

theorem conv_one (wx : World) (c : Int) (m : Nat) (hcm : c = (m : Int)) (hm : m < 256) :
    (convert 81 9 (.slice (some ⟨wx.heap.size, 0, none⟩) 1 1)).run Tryd.prog (wx.alloc (.cells #[.int .u8 c] 5)) = .ok (.string ⟨#[m.toUInt8]⟩) (wx.alloc (.cells #[.int .u8 c] 5)) := by
  subst hcm
  have e : (m.toUInt8.toNat : Int) = (m : Int) := by
    have : m.toUInt8.toNat = m % 256 := by simp
    omega
  refine run_convert_bytes_back _ 81 9 5 ⟨wx.heap.size, 0, none⟩ 1 [m.toUInt8] Tryd.underlying81 Tryd.underlying5 Tryd.underlying9 ?_
  intro j hj
  have : j = 0 := by simp at hj; omega
  subst this
  show _ = some (Value.int .u8 (m.toUInt8.toNat : Int))
  rw [e]
  simp [Addr.add]

set_option maxHeartbeats 1000000 in
theorem markText (n : Nat) (h1 : 1 ≤ n) (h2 : n ≤ 8388608) (w : World) :
    Calls Tryd.prog 34 #[.int .i64 n] w fun e w' => e = .returned (.string (mtxt n)) ∧ Below w.heap.size w w' := by
  go_enter Tryd.func34, Tryd.ntmps34
  go_wp2
  go_loopw [0, 3] (fun i t wr => ∃ (k : Nat) (s : ByteArray), i = .int .i64 k ∧ t = .string s ∧ s.size + k ≤ n ∧ Hid (dgs n ⟨#[]⟩ = dgs k s) ∧ Below w.heap.size w wr) (fun i _ _ => (intOf i).toNat)
  case atStart => exact ⟨n, ⟨#[]⟩, rfl, rfl, by simp [ByteArray.size], rfl, Below.refl _ _⟩
  case round =>
    obtain ⟨k, s, rfl, rfl, hsz, hd, hb⟩ := hrel
    by_cases h0 : k = 0
    · have h0' : ¬ (0 : Int) < (k : Int) := by omega
      have hd2 : Hid (dgs n ⟨#[]⟩ = s) := by show _ = s; rw [hd.out, h0, dgs_zero]
      clear h0 hd
      go_wp2
      go_ret
      exact ⟨ret_string (by unfold mtxt; rw [hd2.out]), hb⟩
    · have h0' : (0 : Int) < (k : Int) := by omega
      have hd2 : Hid (dgs n ⟨#[]⟩ = dgs (k / 10) (⟨#[(48 + k % 10).toUInt8]⟩ ++ s)) := by show _ = _; rw [hd.out, dgs_pos k s h0]
      have hcv := fun wx => conv_one wx (48 + (k : Int) % 10) (48 + k % 10) (by omega) (by omega)
      have hsz2 : (⟨#[(48 + k % 10).toUInt8]⟩ ++ s : ByteArray).size = 1 + s.size := by rw [ByteArray.size_append]; rfl
      obtain ⟨d, hde⟩ : ∃ d, (⟨#[(48 + k % 10).toUInt8]⟩ : ByteArray) = d := ⟨_, rfl⟩
      have hd1 : d.size = 1 := by rw [← hde]; rfl
      rw [hde] at hcv hd2 hsz2
      have HSZ : Hid ((d ++ s).size = 1 + s.size) := hsz2
      clear hd hde hsz2
      go_wp2
      go_roundw
      case rel =>
        refine ⟨k / 10, d ++ s, ?_, rfl, ?_, hd2, hb.alloc hb.size _⟩
        · go_num
        · rw [HSZ.out]; omega
      case measure => simp [intOf]; omega

theorem grown_of_below {w w' : World} (h : Below w.heap.size w w') (row : Option Nat) : w.grownBy w' row := ⟨h.os, h.tape, h.output, h.size, fun k hk _ => h.block k hk⟩
theorem grown_trans {a b c : World} {row : Option Nat} (h : a.grownBy b row) (k : b.grownBy c row) : a.grownBy c row :=
  ⟨k.os.trans h.os, k.tape.trans h.tape, k.output.trans h.output, Nat.le_trans h.size k.size, fun i hi hne => (k.block i (Nat.lt_of_lt_of_le hi h.size) hne).trans (h.block i hi hne)⟩
theorem mtxt_size (n : Nat) (h : n ≤ 8388608) : (mtxt n).size ≤ 9223372036854775807 := by
  have key : ∀ m k (s : ByteArray), k ≤ m → (dgs k s).size ≤ s.size + k := by
    intro m
    induction m with
    | zero => intro k s hk; have : k = 0 := by omega
              subst this; rw [dgs_zero]; omega
    | succ m ih =>
      intro k s hk
      by_cases h0 : k = 0
      · subst h0; rw [dgs_zero]; omega
      · rw [dgs_pos k s h0]
        have := ih (k / 10) (⟨#[(48 + k % 10).toUInt8]⟩ ++ s) (by omega)
        have e : (⟨#[(48 + k % 10).toUInt8]⟩ ++ s : ByteArray).size = 1 + s.size := by rw [ByteArray.size_append]; rfl
        omega
  have := key n n ⟨#[]⟩ (Nat.le_refl _)
  have e : (⟨#[]⟩ : ByteArray).size = 0 := rfl
  have e2 : (⟨#[109]⟩ : ByteArray).size = 1 := rfl
  unfold mtxt
  rw [ByteArray.size_append]
  omega

/-- The marks from m on, n of them. -/
def marks (m n : Nat) : List ByteArray := (List.range n).map fun i => mtxt (m + i)
theorem marks_length (m n : Nat) : (marks m n).length = n := by simp [marks]
theorem marks_at (m n k : Nat) (h : k < n) : (marks m n).getD k ByteArray.empty = mtxt (m + k) := by
  rw [getD_at _ k (by rw [marks_length]; exact h)]; simp [marks]
theorem marks_snoc (m n : Nat) : marks m (n + 1) = marks m n ++ [mtxt (m + n)] := by simp [marks, List.range_succ]
theorem marks_small (m n : Nat) (h : m + n ≤ 4194304) : ∀ k, k < (marks m n).length → ((marks m n).getD k ByteArray.empty).size ≤ 9223372036854775807 := by
  intro k hk
  rw [marks_length] at hk
  rw [marks_at m n k hk]
  exact mtxt_size _ (by omega)
def mixed (xs : List Value) (m k : Nat) : List Value := (marks m k).map Value.string ++ xs.drop k
theorem mixed_set (xs : List Value) (m k : Nat) (h : k < xs.length) : (mixed xs m k).set k (.string (mtxt (m + k))) = mixed xs m (k + 1) := by
  unfold mixed
  rw [marks_snoc, List.map_append, List.append_assoc, List.set_append_right _ _ (by simp [marks_length])]
  congr 1
  simp only [List.length_map, marks_length, Nat.sub_self]
  rw [List.drop_eq_getElem_cons h]
  rfl

end Go.Proofs.YtaggjnaogmhfpaaDoor
