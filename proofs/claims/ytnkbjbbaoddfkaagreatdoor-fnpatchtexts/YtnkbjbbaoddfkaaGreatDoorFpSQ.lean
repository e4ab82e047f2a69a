/- The contracts of spec.l3Digits, l3Head: decimal numbers and a hunk's first line. No statement is proved here. -/
import Derived.Test.YtnkbjbbaoddfkaaGreatDoorRows
import Derived.Test.YtnkbjbbaoddfkaaGreatDoorLemQ
import Derived.Test.YtnkbjbbaoddfkaaGreatDoorDTabQ
import Derived.Lib.ItoaNum
import Derived.WalkKit
import Derived.ProofKit
import Derived.Below
import Derived.WalkSpells
import Derived.Deep.RegionLaw
import Derived.Laws.Concat
import Derived.Laws.IdiomStrings
import Derived.Test.YtnkbjbbaoddfkaaGreatDoorLFLemQ
import Derived.Test.YtnkbjbbaoddfkaaGreatDoorHkLQ
import Derived.Test.YtnkbjbbaoddfkaaGreatDoorFiCQ
namespace Go.Proofs.YtnkbjbbaoddfkaaGreatDoor
open Go.ChangeShapes Go.WideShapes Go.ChangeAt Go.RowKit

/-- A number in decimal. -/
def decB (n : Nat) : ByteArray := ⟨(Lib.decDigits n).toArray⟩

theorem decB_one {n : Nat} (h : n < 10) : decB n = ⟨#[UInt8.ofNat (48 + n)]⟩ := by
  unfold decB; rw [Lib.decDigits, dif_pos h]
theorem decB_more {n : Nat} (h : ¬ n < 10) : decB n = decB (n / 10) ++ ⟨#[UInt8.ofNat (48 + n % 10)]⟩ := by
  unfold decB
  rw [Lib.decDigits, dif_neg h]
  apply bytes_inj2
  simp [ByteArray.toList_eq]
theorem decB_size : ∀ f n : Nat, n ≤ f → (decB n).size ≤ n + 1 := by
  intro f
  induction f with
  | zero =>
    intro n hn
    rw [decB_one (by omega)]
    have : (⟨#[UInt8.ofNat (48 + n)]⟩ : ByteArray).size = 1 := rfl
    omega
  | succ f ih =>
    intro n hn
    by_cases h : n < 10
    · rw [decB_one h]
      have : (⟨#[UInt8.ofNat (48 + n)]⟩ : ByteArray).size = 1 := rfl
      omega
    · rw [decB_more h, ByteArray.size_append]
      have h1 := ih (n / 10) (by omega)
      have : (⟨#[UInt8.ofNat (48 + n % 10)]⟩ : ByteArray).size = 1 := rfl
      omega
/-- A byte that is a digit, told as a text. -/
theorem conv1 (m : Nat) (hm : m < 10) (W : World) (b c : Nat) (hc : W.cell? ⟨b, 0, none⟩ = some (.int .u8 (48 + (m : Int)))) :
    (convert 22 9 (.slice (some ⟨b, 0, none⟩) 1 c)).run Tryz.prog W = .ok (.string ⟨#[UInt8.ofNat (48 + m)]⟩) W :=
  run_convert_bytes_back W 22 9 5 ⟨b, 0, none⟩ c [UInt8.ofNat (48 + m)] Tryz.underlying22 Tryz.underlying5 Tryz.underlying9 (fun j hj => by
    have e : j = 0 := by simpa using hj
    subst e
    have h2 : ((UInt8.ofNat (48 + m)).toNat : Int) = 48 + (m : Int) := by
      rw [UInt8.toNat_ofNat']; omega
    simp only [List.getElem_cons_zero, h2, add_plain]
    exact hc)

theorem newAt {w w1 : World} {v : Value} {t : TypeId} (b : Below ((w.alloc (.cells #[v] t)).drew).heap.size ((w.alloc (.cells #[v] t)).drew) w1) : w1.cell? ⟨w.heap.size, 0, none⟩ = some v := by
  have h : ((w.alloc (.cells #[v] t)).drew).cell? ⟨w.heap.size, 0, none⟩ = some v := by
    show (w.alloc (.cells #[v] t)).cell? ⟨w.heap.size, 0, none⟩ = some v
    simp
  exact (b.cell (p := ⟨w.heap.size, 0, none⟩) (by show w.heap.size < (w.alloc (.cells #[v] t)).heap.size; simp)).trans h
theorem belowNew {w w1 : World} {v : Value} {t : TypeId} (b : Below ((w.alloc (.cells #[v] t)).drew).heap.size ((w.alloc (.cells #[v] t)).drew) w1) : Below w.heap.size w w1 :=
  (below_drew (allocBelow w _)).trans (b.mono (by show w.heap.size ≤ (w.alloc (.cells #[v] t)).heap.size; simp))
set_option maxRecDepth 20000 in
set_option maxHeartbeats 1000000 in
theorem l3DigitsL : ∀ (f n : Nat), n ≤ f → n ≤ 10000000000 → ∀ w : World, Calls Tryz.prog 67 #[.int .i64 (n : Int)] w fun e w' => e = .returned (.string (decB n)) ∧ Below w.heap.size w w' := by
  have base : ∀ n : Nat, n < 10 → ∀ w : World, Calls Tryz.prog 67 #[.int .i64 (n : Int)] w fun e w' => e = .returned (.string (decB n)) ∧ Below w.heap.size w w' := by
    intro n h10 w
    have q : (n : Int) < 10 := by omega
    have hcv := conv1 n h10
    rw [decB_one h10]
    obtain ⟨D, hD⟩ : ∃ D : ByteArray, (⟨#[UInt8.ofNat (48 + n)]⟩ : ByteArray) = D := ⟨_, rfl⟩
    rw [hD] at hcv ⊢
    clear hD
    go_enter Tryz.func67, Tryz.ntmps67
    go_wp2
    go_ret
    exact ⟨rfl, allocBelow _ _⟩
  intro f
  induction f with
  | zero => intro n hn _ w; exact base n (by omega) w
  | succ f ih =>
    intro n hn hb w
    by_cases h10 : n < 10
    · exact base n h10 w
    · have q : ¬ (n : Int) < 10 := by omega
      have hq : (n : Int) / 10 = ((n / 10 : Nat) : Int) := by omega
      have hr : (n : Int) % 10 = ((n % 10 : Nat) : Int) := by omega
      have hcv := conv1 (n % 10) (by omega)
      have hI := ih (n / 10) (by omega) (by omega)
      rw [decB_more h10]
      obtain ⟨m, hm⟩ : ∃ m, n % 10 = m := ⟨_, rfl⟩
      obtain ⟨k, hk⟩ : ∃ k, n / 10 = k := ⟨_, rfl⟩
      rw [hm] at hr hcv ⊢
      rw [hk] at hq hI ⊢
      have hm10 : m < 10 := by omega
      have hq2 : (n : Int).tdiv 10 = (k : Int) := by rw [Int.tdiv_eq_ediv_of_nonneg (by omega)]; exact hq
      have hr2 : (n : Int).tmod 10 = (m : Int) := by rw [Int.tmod_eq_emod_of_nonneg (by omega)]; exact hr
      obtain ⟨D, hD⟩ : ∃ D : ByteArray, (⟨#[UInt8.ofNat (48 + m)]⟩ : ByteArray) = D := ⟨_, rfl⟩
      rw [hD] at hcv ⊢
      have hDs : D.size = 1 := by rw [← hD]; rfl
      obtain ⟨E, hE⟩ : ∃ E, decB k = E := ⟨_, rfl⟩
      have hEs := decB_size k k (Nat.le_refl _)
      rw [hE] at hI hEs ⊢
      have hcs : ¬ 9223372036854775807 < E.size + D.size := by omega
      have hcs2 : ¬ 9223372036854775807 < E.size + 1 := by omega
      have hk1 : k ≤ n := by omega
      have hw1 : IntKind.i64.wrap (k : Int) = (k : Int) := by rw [IntKind.wrap_i64]; omega
      have hw2 : IntKind.i64.wrap (m : Int) = (m : Int) := by rw [IntKind.wrap_i64]; omega
      have hw3 : IntKind.i64.wrap (48 + (m : Int)) = 48 + (m : Int) := by rw [IntKind.wrap_i64]; omega
      have hw4 : IntKind.u8.wrap (48 + (m : Int)) = 48 + (m : Int) := by rw [IntKind.wrap_u8]; omega
      clear hm hk hD hE
      go_enter Tryz.func67, Tryz.ntmps67
      go_wp2
      go_region_with (go_at_call 67; refine (hI _).mono ?_; rintro e w1 ⟨rfl, b1⟩; try have hcl := newAt b1)
      all_goals (go_wp2_with fail)
      all_goals go_ret
      all_goals first | exact ⟨rfl, belowNew b1⟩ | exact ⟨rfl, (below_drew (Below.refl _ w)).trans ((b1.alloc b1.size _).mono (Nat.le_refl _))⟩
theorem l3Digits (f n : Nat) (h : n ≤ f) (hb : n ≤ 1000000000) (w : World) : Calls Tryz.prog 67 #[.int .i64 (n : Int)] w fun e w' => e = .returned (.string (decB n)) ∧ Below w.heap.size w w' := l3DigitsL f n h (by omega) w
end Go.Proofs.YtnkbjbbaoddfkaaGreatDoor
/- The contract of spec.l3Head: a hunk's first line. No statement is proved here. -/
namespace Go.Proofs.YtnkbjbbaoddfkaaGreatDoor
open Go.ChangeShapes Go.WideShapes Go.ChangeAt Go.RowKit

/-- The first line of a hunk. -/
def headB (x0 a x1 b : Nat) : ByteArray := (((((((⟨#[64, 64, 32, 45]⟩ : ByteArray) ++ decB x0) ++ ⟨#[44]⟩) ++ decB a) ++ ⟨#[32, 43]⟩) ++ decB x1) ++ ⟨#[44]⟩) ++ decB b ++ ⟨#[32, 64, 64, 10]⟩

set_option maxRecDepth 20000 in
set_option maxHeartbeats 2000000 in
theorem l3Head (x0 x1 a b : Nat) (v : Value) (w : World) (h0 : x0 ≤ 1000) (h1 : x1 ≤ 1000) (ha : a ≤ 1000) (hb : b ≤ 1000) :
    Calls Tryz.prog 45 #[.agg #[.int .i64 (x0 : Int), .int .i64 (x1 : Int), v], .int .i64 (a : Int), .int .i64 (b : Int)] w fun e w' => e = .returned (.string (headB x0 a x1 b)) ∧ Below w.heap.size w w' := by
  have hd : ∀ n : Nat, n ≤ 1000 → ∀ w : World, Calls Tryz.prog 67 #[.int .i64 (n : Int)] w fun e w' => e = .returned (.string (decB n)) ∧ Below w.heap.size w w' := fun n hn w => l3Digits n n (Nat.le_refl _) (by omega) w
  have s0 := decB_size x0 x0 (Nat.le_refl _)
  have s1 := decB_size x1 x1 (Nat.le_refl _)
  have sa := decB_size a a (Nat.le_refl _)
  have sb := decB_size b b (Nat.le_refl _)
  unfold headB
  obtain ⟨E0, hE0⟩ : ∃ E, decB x0 = E := ⟨_, rfl⟩
  rw [hE0] at s0 ⊢
  obtain ⟨EA, hEA⟩ : ∃ E, decB a = E := ⟨_, rfl⟩
  rw [hEA] at sa ⊢
  obtain ⟨E1, hE1⟩ : ∃ E, decB x1 = E := ⟨_, rfl⟩
  rw [hE1] at s1 ⊢
  obtain ⟨EB, hEB⟩ : ∃ E, decB b = E := ⟨_, rfl⟩
  rw [hEB] at sb ⊢
  have kP1 : ¬ 9223372036854775807 < 4 + E0.size := by omega
  obtain ⟨P1, hP1⟩ : ∃ P, (⟨#[64, 64, 32, 45]⟩ : ByteArray) ++ E0 = P := ⟨_, rfl⟩
  have zP1 : P1.size ≤ 4 + E0.size := by rw [← hP1, ByteArray.size_append]; exact Nat.le_refl _
  rw [hP1]
  have kP2 : ¬ 9223372036854775807 < P1.size + 1 := by omega
  obtain ⟨P2, hP2⟩ : ∃ P, P1 ++ ⟨#[44]⟩ = P := ⟨_, rfl⟩
  have zP2 : P2.size ≤ P1.size + 1 := by rw [← hP2, ByteArray.size_append]; exact Nat.le_refl _
  rw [hP2]
  have kP3 : ¬ 9223372036854775807 < P2.size + EA.size := by omega
  obtain ⟨P3, hP3⟩ : ∃ P, P2 ++ EA = P := ⟨_, rfl⟩
  have zP3 : P3.size ≤ P2.size + EA.size := by rw [← hP3, ByteArray.size_append]; exact Nat.le_refl _
  rw [hP3]
  have kP4 : ¬ 9223372036854775807 < P3.size + 2 := by omega
  obtain ⟨P4, hP4⟩ : ∃ P, P3 ++ ⟨#[32, 43]⟩ = P := ⟨_, rfl⟩
  have zP4 : P4.size ≤ P3.size + 2 := by rw [← hP4, ByteArray.size_append]; exact Nat.le_refl _
  rw [hP4]
  have kP5 : ¬ 9223372036854775807 < P4.size + E1.size := by omega
  obtain ⟨P5, hP5⟩ : ∃ P, P4 ++ E1 = P := ⟨_, rfl⟩
  have zP5 : P5.size ≤ P4.size + E1.size := by rw [← hP5, ByteArray.size_append]; exact Nat.le_refl _
  rw [hP5]
  have kP6 : ¬ 9223372036854775807 < P5.size + 1 := by omega
  obtain ⟨P6, hP6⟩ : ∃ P, P5 ++ ⟨#[44]⟩ = P := ⟨_, rfl⟩
  have zP6 : P6.size ≤ P5.size + 1 := by rw [← hP6, ByteArray.size_append]; exact Nat.le_refl _
  rw [hP6]
  have kP7 : ¬ 9223372036854775807 < P6.size + EB.size := by omega
  obtain ⟨P7, hP7⟩ : ∃ P, P6 ++ EB = P := ⟨_, rfl⟩
  have zP7 : P7.size ≤ P6.size + EB.size := by rw [← hP7, ByteArray.size_append]; exact Nat.le_refl _
  rw [hP7]
  have kP8 : ¬ 9223372036854775807 < P7.size + 4 := by omega
  obtain ⟨P8, hP8⟩ : ∃ P, P7 ++ ⟨#[32, 64, 64, 10]⟩ = P := ⟨_, rfl⟩
  have zP8 : P8.size ≤ P7.size + 4 := by rw [← hP8, ByteArray.size_append]; exact Nat.le_refl _
  rw [hP8]
  have kc1 : ((w.alloc (.cells #[.int .i64 (x0 : Int), .int .i64 (x1 : Int), v] 35)).drew).cell? ⟨w.heap.size, 1, none⟩ = some (.int .i64 (x1 : Int)) := by show (w.alloc _).cell? _ = _; simp
  have klt : w.heap.size < ((w.alloc (.cells #[.int .i64 (x0 : Int), .int .i64 (x1 : Int), v] 35)).drew).heap.size := by show _ < (w.alloc _).heap.size; simp
  have kB : Below w.heap.size w ((w.alloc (.cells #[.int .i64 (x0 : Int), .int .i64 (x1 : Int), v] 35)).drew) := below_drew (allocBelow _ _)
  go_enter Tryz.func45, Tryz.ntmps45
  go_wp2
  go_region_with (go_at_call 67; refine (hd _ (by assumption) _).mono ?_; rintro e wn ⟨rfl, bn⟩; have kc1 := (bn.cell (p := ⟨w.heap.size, 1, none⟩) klt).trans kc1; have kB := below_step kB (Nat.le_of_lt klt) bn; have klt := Nat.lt_of_lt_of_le klt bn.size; clear bn)
  all_goals (go_wp2_with fail)
  all_goals go_ret
  all_goals exact ⟨rfl, kB⟩
end Go.Proofs.YtnkbjbbaoddfkaaGreatDoor
/- The text of a patch. Plain mathematics, and strings.HasSuffix at a line feed. No statement is proved here. -/
namespace Go.Proofs.YtnkbjbbaoddfkaaGreatDoor.Fp
open Go.ChangeShapes Go.WideShapes Go.ChangeAt Go.RowKit

/-- The last byte is a line feed. -/
def ends (l : List UInt8) : Bool := decide (l.getLast? = some 10)
/-- A line of a hunk, as it is written. -/
def lnT (s : ByteArray) : List UInt8 := s.data.toList ++ (if ends s.data.toList = true then [] else [10, 92, 10])
def linesT (ss : List ByteArray) : List UInt8 := ss.flatMap lnT
def headT (h : Hk) : ByteArray := headB h.1.toNat (oldN h.2.2).toNat h.2.1.toNat (newN h.2.2).toNat
def hkT (h : Hk) : List UInt8 := (headT h).data.toList ++ linesT h.2.2
def fpL (l : List Hk) : List UInt8 := l.flatMap hkT
def hnil : Hk := (0, 0, [])
/-- What FormatPatch tells. -/
def fpC (l : List Hk) : Int := if hf l = 0 then (if 8000 < (fpL l).length then 2 else 0) else hf l
def fpT (l : List Hk) : ByteArray := if fpC l = 0 then ⟨(fpL l).toArray⟩ else ⟨#[]⟩
theorem lines_take (ss : List ByteArray) (k : Nat) (h : k < ss.length) : linesT (ss.take (k + 1)) = linesT (ss.take k) ++ lnT (ss.getD k ByteArray.empty) := by
  unfold linesT
  rw [List.take_succ_eq_append_getElem h, List.flatMap_append, getD_at ss k h]
  simp
theorem fp_take (l : List Hk) (k : Nat) (h : k < l.length) : fpL (l.take (k + 1)) = fpL (l.take k) ++ hkT (l.getD k hnil) := by
  unfold fpL
  rw [List.take_succ_eq_append_getElem h, List.flatMap_append]
  simp [List.getD, h]
theorem ln_yes {s : ByteArray} (h : ends s.data.toList = true) : lnT s = s.data.toList := by unfold lnT; rw [if_pos h]; simp
theorem ln_no {s : ByteArray} (h : ends s.data.toList = false) : lnT s = s.data.toList ++ [10, 92, 10] := by unfold lnT; rw [if_neg (by rw [h]; decide)]
/-- What HunksFault asks of each hunk. -/
structure Hok (h : Hk) : Prop where
  n : h.2.2.length ≤ 200
  ok : h.2.2.all okH = true
  a0 : 0 ≤ h.1 ∧ h.1 ≤ 100
  a1 : 0 ≤ h.2.1 ∧ h.2.1 ≤ 100
theorem hkC_ok {i j : Int} {h : Hk} (e : hkC i j h = 0) : Hok h := by
  unfold hkC at e
  split at e
  · cases e
  · rename_i h1
    split at e
    · cases e
    · rename_i h2
      split at e
      · cases e
      · split at e
        · cases e
        · rename_i h4
          have h4 : (inB h.1 0 100 && inB h.2.1 0 100) = true := by
            cases q : (inB h.1 0 100 && inB h.2.1 0 100) with
            | true => rfl
            | false => exact absurd q h4
          rw [Bool.and_eq_true] at h4
          have q1 : 0 ≤ h.1 ∧ h.1 ≤ 100 := of_decide_eq_true h4.1
          have q2 : 0 ≤ h.2.1 ∧ h.2.1 ≤ 100 := of_decide_eq_true h4.2
          refine ⟨by omega, ?_, q1, q2⟩
          cases q : h.2.2.all okH with
          | true => rfl
          | false => exact absurd q h2
theorem hfF_all : ∀ (l : List Hk) (i j : Int), hfF l i j = 0 → ∀ h ∈ l, Hok h := by
  intro l
  induction l with
  | nil => intro i j _ h hh; cases hh
  | cons x l ih =>
    intro i j e h hh
    by_cases q : hkC i j x = 0
    · rw [hfF_go q] at e
      rcases List.mem_cons.1 hh with rfl | hh
      · exact hkC_ok q
      · exact ih _ _ e h hh
    · rw [hfF_stop rfl q] at e
      exact absurd e q
theorem hf_all {l : List Hk} (h : hf l = 0) : l.length ≤ 100 ∧ ∀ x ∈ l, Hok x := by
  unfold hf at h
  split at h
  · cases h
  · exact ⟨by omega, hfF_all l 0 0 h⟩
theorem fp_fault {l : List Hk} (h : ¬ hf l = 0) : fpC l = hf l ∧ fpT l = ⟨#[]⟩ := by
  have e : fpC l = hf l := if_neg h
  exact ⟨e, if_neg (by rw [e]; exact h)⟩
theorem fp_many {l : List Hk} (h : hf l = 0) (k : 8000 < (fpL l).length) : fpC l = 2 ∧ fpT l = ⟨#[]⟩ := by
  have e : fpC l = 2 := by unfold fpC; rw [if_pos h, if_pos k]
  exact ⟨e, if_neg (by rw [e]; decide)⟩
theorem fp_ok {l : List Hk} (h : hf l = 0) (k : ¬ 8000 < (fpL l).length) : fpC l = 0 ∧ fpT l = ⟨(fpL l).toArray⟩ := by
  have e : fpC l = 0 := by unfold fpC; rw [if_pos h, if_neg k]
  exact ⟨e, if_pos e⟩
theorem dec_it (n : Int) (h : 0 ≤ n) : decB n.toNat = itB n := by
  apply WideShapes.bytes_inj
  show Lib.decDigits n.toNat = Lib.itoa n
  unfold Lib.itoa
  rw [if_neg (by omega)]
theorem dec_pos (n : Nat) : (decB n).data.toList ≠ [] := by
  show Lib.decDigits n ≠ []
  rw [Lib.decDigits]
  split <;> simp
theorem head_parts (x0 a x1 b : Nat) : (headB x0 a x1 b).data.toList = [64, 64, 32, 45] ++ (decB x0).data.toList ++ [44] ++ (decB a).data.toList ++ [32, 43] ++ (decB x1).data.toList ++ [44] ++ (decB b).data.toList ++ [32, 64, 64, 10] := by
  unfold headB
  simp [ByteArray.data_append]
theorem head_pos (h : Hk) : hkT h ≠ [] := by
  unfold hkT headT
  rw [head_parts]
  simp
theorem dec_size (n : Nat) (h : n ≤ 1000) : (decB n).size ≤ 1001 := by have := decB_size n n (Nat.le_refl _); omega
theorem head_size (h : Hk) (hk : Hok h) (hb : (oldN h.2.2).toNat ≤ 200 ∧ (newN h.2.2).toNat ≤ 200) : (headT h).size ≤ 5000 := by
  have e : (headT h).size = (headT h).data.toList.length := by simp
  have d : ∀ n, (decB n).data.toList.length = (decB n).size := fun n => by simp
  rw [e]
  unfold headT
  rw [head_parts]
  simp only [List.length_append, List.length_cons, List.length_nil, d]
  have a0 := hk.a0
  have a1 := hk.a1
  have h1 := dec_size h.1.toNat (by omega)
  have h2 := dec_size (oldN h.2.2).toNat (by omega)
  have h3 := dec_size h.2.1.toNat (by omega)
  have h4 := dec_size (newN h.2.2).toNat (by omega)
  omega
theorem lnT_len (s : ByteArray) : (lnT s).length ≤ s.size + 3 := by
  unfold lnT
  split <;> simp
theorem last_split {l : List UInt8} (h : l ≠ []) : ∃ t x, l = t ++ [x] := ⟨l.dropLast, l.getLast h, (List.dropLast_concat_getLast h).symm⟩
theorem dataPos {s : ByteArray} (hp : 0 < s.size) : s.data.toList ≠ [] := fun h => by
  have h1 : s.data.toList.length = 0 := by rw [h]; rfl
  have h2 : s.data.toList.length = s.size := by simp
  omega
theorem ends_snoc (t : List UInt8) (x : UInt8) : ends (t ++ [x]) = decide (x = 10) := by
  unfold ends
  rw [List.getLast?_append]
  simp
theorem lastByte (s : ByteArray) (hp : 0 < s.size) : ((s.extract (s.size - 1) s.size).toList == [10]) = ends s.data.toList := by
  have e : (s.extract (s.size - 1) s.size).toList = s.data.toList.drop (s.data.toList.length - 1) := by
    rw [ByteArray.toList_eq, ByteArray.data_extract, Array.toList_extract]
    simp only [List.extract]
    rw [List.take_of_length_le (by simp)]
    simp
  rw [e]
  obtain ⟨t, x, hx⟩ := last_split (dataPos hp)
  rw [hx, ends_snoc, show (t ++ [x]).drop ((t ++ [x]).length - 1) = [x] by simp]
  by_cases h : x = 10
  · subst h; rfl
  · rw [decide_eq_false h]
    simp [h]
/-- The last byte of a line, as the specification reads it. -/
theorem lastIdx (s : ByteArray) (hp : 0 < s.size) : (((s[s.size - 1]'(by omega)).toNat : Int) != 10) = !(ends s.data.toList) := by
  obtain ⟨t, x, hx⟩ := last_split (dataPos hp)
  have h1 : s[s.size - 1]'(by omega) = x := by
    have h2 : s.data.toList.length = s.size := by simp
    have h3 : s.data.toList[s.size - 1]? = some x := by
      rw [← h2, hx]; simp
    have h4 : s.data.toList[s.size - 1]? = some (s[s.size - 1]'(by omega)) := by
      rw [List.getElem?_eq_getElem (by omega)]; rfl
    rw [h3] at h4
    exact (Option.some.inj h4).symm
  rw [h1, hx, ends_snoc]
  by_cases h : x = 10
  · subst h; rfl
  · rw [decide_eq_false h]
    have : ¬ (x.toNat : Int) = 10 := fun e => h (by
      apply UInt8.toNat_inj.1
      have : x.toNat = 10 := by omega
      rw [this]; rfl)
    simp [this]
set_option maxHeartbeats 1000000 in
theorem hasSuffix0 (s : ByteArray) (w : World) (hp : 0 < s.size) (hs : s.size ≤ 9223372036854775807) :
    Calls Tryz.prog 64 #[.string s, .string ⟨#[10]⟩] w fun e w' => e = .returned (.bool (ends s.data.toList)) ∧ w' = w := by
  have hE := lastByte s hp
  have q1 : (1 : Int) ≤ (s.size : Int) := by omega
  go_enter Tryz.func64, Tryz.ntmps64
  go_wp2
  go_ret
  exact ⟨rfl, rfl⟩
theorem hasSuffix (s : ByteArray) (w : World) (hp : 0 < s.size) (hs : s.size ≤ 9223372036854775807) :
    Calls Tryz.prog 42 #[.string s, .string ⟨#[10]⟩] w fun e w' => e = .returned (.bool (ends s.data.toList)) ∧ w' = w := by
  go_enter Tryz.func42, Tryz.ntmps42
  go_wp2_with fail
  refine (hasSuffix0 s _ hp hs).mono ?_; rintro e w ⟨rfl, rfl⟩
  go_wp2
  go_ret
  exact ⟨rfl, rfl⟩
end Go.Proofs.YtnkbjbbaoddfkaaGreatDoor.Fp
