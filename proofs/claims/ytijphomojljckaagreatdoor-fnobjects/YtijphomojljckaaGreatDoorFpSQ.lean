/- The contract of strconv.FormatInt at a commit's time, and its table. No statement is proved here. -/
import Derived.Test.YtijphomojljckaaGreatDoorRows
import Derived.Test.YtijphomojljckaaGreatDoorLemQ
import Derived.Test.YtijphomojljckaaGreatDoorShelfBQ
import Derived.Lib.LaidTab
import Derived.Lib.ItoaNum
import Derived.Below
import Derived.WalkKit
import Derived.ProofKit
import Derived.Test.YtijphomojljckaaGreatDoorComQ
import Derived.WalkSpells
import Derived.Deep.RegionLaw
import Derived.Laws.Concat
import Derived.Laws.IdiomStrings
namespace Go.Proofs.YtijphomojljckaaGreatDoor
open Go.RowKit Go.Sort

/-- The table of powers that strconv reads. -/
def TaG (w : World) : Prop := Lib.TabIs Tryz.prog w "internal/strconv.uint64pow10" .u64 Lib.pow10Tab
theorem gTa : Tryz.prog.globalNamed "internal/strconv.uint64pow10" = some 6 := by kernel_rfl
theorem TaG.below {B : Nat} {w w' : World} (h : TaG w) (hb : Below B w w') (hB : 6 < B) : TaG w' := by
  unfold TaG Lib.TabIs World.var? at *
  rw [gTa] at h ⊢
  simp only [Option.bind_some] at h ⊢
  rw [hb.block _ hB]
  exact h
/-- A number's text. -/
def itB (n : Int) : ByteArray := ⟨(Lib.itoa n).toArray⟩
theorem belGrow (w : World) (q : Nat) (os : Array Obj) : Below w.heap.size w (grow (w.drewN q) os) :=
  ⟨rfl, rfl, rfl, by show w.heap.size ≤ (w.heap ++ os).size; simp, fun k hk => by show (w.heap ++ os)[k]? = w.heap[k]?; simp [Array.getElem?_append, hk]⟩
theorem formatInt (n : Int) (h0 : 0 ≤ n) (h1 : n ≤ 1000000000) (w : World) (ht : TaG w) :
    Calls Tryz.prog 76 #[.int .i64 n, .int .i64 10] w fun e w' => e = .returned (.string (itB n)) ∧ Below w.heap.size w w' := by
  refine (Tryz.strconv_FormatInt_10 n (by omega) (by omega) w ht).mono ?_
  rintro e w' ⟨rfl, k, os, rfl⟩
  exact ⟨rfl, belGrow w k os⟩
theorem dec_len : ∀ (d n : Nat), n < 10 ^ (d + 1) → (Lib.decDigits n).length ≤ d + 1
  | 0, n, h => by rw [Lib.decDigits, dif_pos (by omega)]; simp
  | d + 1, n, h => by
    by_cases h9 : n < 10
    · rw [Lib.decDigits, dif_pos h9]; simp
    · rw [Lib.decDigits, dif_neg h9]
      have := dec_len d (n / 10) (by rw [Nat.pow_succ] at h; omega)
      simp
      omega
theorem it_size {n : Int} (h0 : 0 ≤ n) (h1 : n ≤ 1000000000) : (itB n).size ≤ 10 := by
  show (Lib.itoa n).toArray.size ≤ 10
  rw [Lib.itoa, if_neg (by omega)]
  have := dec_len 9 n.toNat (by omega)
  simpa using this
end Go.Proofs.YtijphomojljckaaGreatDoor
/- The contracts of spec.l3Digits, l3Head: decimal numbers and a hunk's first line. No statement is proved here. -/
namespace Go.Proofs.YtijphomojljckaaGreatDoor
open Go.ChangeShapes Go.WideShapes Go.ChangeAt Go.RowKit

/-- A number in decimal. -/
def decB (n : Nat) : ByteArray := ⟨(Lib.decDigits n).toArray⟩

theorem decB_one {n : Nat} (h : n < 10) : decB n = ⟨#[UInt8.ofNat (48 + n)]⟩ := by
  unfold decB; rw [Lib.decDigits, dif_pos h]
theorem decB_more {n : Nat} (h : ¬ n < 10) : decB n = decB (n / 10) ++ ⟨#[UInt8.ofNat (48 + n % 10)]⟩ := by
  unfold decB
  rw [Lib.decDigits, dif_neg h]
  apply bytes_inj2
  simp [ByteArray.toList_eq]
theorem decB_size : ∀ f n : Nat, n ≤ f → (decB n).size ≤ n + 1 := by
  intro f
  induction f with
  | zero =>
    intro n hn
    rw [decB_one (by omega)]
    have : (⟨#[UInt8.ofNat (48 + n)]⟩ : ByteArray).size = 1 := rfl
    omega
  | succ f ih =>
    intro n hn
    by_cases h : n < 10
    · rw [decB_one h]
      have : (⟨#[UInt8.ofNat (48 + n)]⟩ : ByteArray).size = 1 := rfl
      omega
    · rw [decB_more h, ByteArray.size_append]
      have h1 := ih (n / 10) (by omega)
      have : (⟨#[UInt8.ofNat (48 + n % 10)]⟩ : ByteArray).size = 1 := rfl
      omega
/-- A byte that is a digit, told as a text. -/
theorem conv1 (m : Nat) (hm : m < 10) (W : World) (b c : Nat) (hc : W.cell? ⟨b, 0, none⟩ = some (.int .u8 (48 + (m : Int)))) :
    (convert 22 9 (.slice (some ⟨b, 0, none⟩) 1 c)).run Tryz.prog W = .ok (.string ⟨#[UInt8.ofNat (48 + m)]⟩) W :=
  run_convert_bytes_back W 22 9 5 ⟨b, 0, none⟩ c [UInt8.ofNat (48 + m)] Tryz.underlying22 Tryz.underlying5 Tryz.underlying9 (fun j hj => by
    have e : j = 0 := by simpa using hj
    subst e
    have h2 : ((UInt8.ofNat (48 + m)).toNat : Int) = 48 + (m : Int) := by
      rw [UInt8.toNat_ofNat']; omega
    simp only [List.getElem_cons_zero, h2, add_plain]
    exact hc)

theorem newAt {w w1 : World} {v : Value} {t : TypeId} (b : Below ((w.alloc (.cells #[v] t)).drew).heap.size ((w.alloc (.cells #[v] t)).drew) w1) : w1.cell? ⟨w.heap.size, 0, none⟩ = some v := by
  have h : ((w.alloc (.cells #[v] t)).drew).cell? ⟨w.heap.size, 0, none⟩ = some v := by
    show (w.alloc (.cells #[v] t)).cell? ⟨w.heap.size, 0, none⟩ = some v
    simp
  exact (b.cell (p := ⟨w.heap.size, 0, none⟩) (by show w.heap.size < (w.alloc (.cells #[v] t)).heap.size; simp)).trans h
theorem belowNew {w w1 : World} {v : Value} {t : TypeId} (b : Below ((w.alloc (.cells #[v] t)).drew).heap.size ((w.alloc (.cells #[v] t)).drew) w1) : Below w.heap.size w w1 :=
  (below_drew (allocBelow w _)).trans (b.mono (by show w.heap.size ≤ (w.alloc (.cells #[v] t)).heap.size; simp))
set_option maxRecDepth 20000 in
set_option maxHeartbeats 1000000 in
theorem l3DigitsL : ∀ (f n : Nat), n ≤ f → n ≤ 10000000000 → ∀ w : World, Calls Tryz.prog 77 #[.int .i64 (n : Int)] w fun e w' => e = .returned (.string (decB n)) ∧ Below w.heap.size w w' := by
  have base : ∀ n : Nat, n < 10 → ∀ w : World, Calls Tryz.prog 77 #[.int .i64 (n : Int)] w fun e w' => e = .returned (.string (decB n)) ∧ Below w.heap.size w w' := by
    intro n h10 w
    have q : (n : Int) < 10 := by omega
    have hcv := conv1 n h10
    rw [decB_one h10]
    obtain ⟨D, hD⟩ : ∃ D : ByteArray, (⟨#[UInt8.ofNat (48 + n)]⟩ : ByteArray) = D := ⟨_, rfl⟩
    rw [hD] at hcv ⊢
    clear hD
    go_enter Tryz.func77, Tryz.ntmps77
    go_wp2
    go_ret
    exact ⟨rfl, allocBelow _ _⟩
  intro f
  induction f with
  | zero => intro n hn _ w; exact base n (by omega) w
  | succ f ih =>
    intro n hn hb w
    by_cases h10 : n < 10
    · exact base n h10 w
    · have q : ¬ (n : Int) < 10 := by omega
      have hq : (n : Int) / 10 = ((n / 10 : Nat) : Int) := by omega
      have hr : (n : Int) % 10 = ((n % 10 : Nat) : Int) := by omega
      have hcv := conv1 (n % 10) (by omega)
      have hI := ih (n / 10) (by omega) (by omega)
      rw [decB_more h10]
      obtain ⟨m, hm⟩ : ∃ m, n % 10 = m := ⟨_, rfl⟩
      obtain ⟨k, hk⟩ : ∃ k, n / 10 = k := ⟨_, rfl⟩
      rw [hm] at hr hcv ⊢
      rw [hk] at hq hI ⊢
      have hm10 : m < 10 := by omega
      have hq2 : (n : Int).tdiv 10 = (k : Int) := by rw [Int.tdiv_eq_ediv_of_nonneg (by omega)]; exact hq
      have hr2 : (n : Int).tmod 10 = (m : Int) := by rw [Int.tmod_eq_emod_of_nonneg (by omega)]; exact hr
      obtain ⟨D, hD⟩ : ∃ D : ByteArray, (⟨#[UInt8.ofNat (48 + m)]⟩ : ByteArray) = D := ⟨_, rfl⟩
      rw [hD] at hcv ⊢
      have hDs : D.size = 1 := by rw [← hD]; rfl
      obtain ⟨E, hE⟩ : ∃ E, decB k = E := ⟨_, rfl⟩
      have hEs := decB_size k k (Nat.le_refl _)
      rw [hE] at hI hEs ⊢
      have hcs : ¬ 9223372036854775807 < E.size + D.size := by omega
      have hcs2 : ¬ 9223372036854775807 < E.size + 1 := by omega
      have hk1 : k ≤ n := by omega
      have hw1 : IntKind.i64.wrap (k : Int) = (k : Int) := by rw [IntKind.wrap_i64]; omega
      have hw2 : IntKind.i64.wrap (m : Int) = (m : Int) := by rw [IntKind.wrap_i64]; omega
      have hw3 : IntKind.i64.wrap (48 + (m : Int)) = 48 + (m : Int) := by rw [IntKind.wrap_i64]; omega
      have hw4 : IntKind.u8.wrap (48 + (m : Int)) = 48 + (m : Int) := by rw [IntKind.wrap_u8]; omega
      clear hm hk hD hE
      go_enter Tryz.func77, Tryz.ntmps77
      go_wp2
      go_region_with (go_at_call 77; refine (hI _).mono ?_; rintro e w1 ⟨rfl, b1⟩; try have hcl := newAt b1)
      all_goals (go_wp2_with fail)
      all_goals go_ret
      all_goals first | exact ⟨rfl, belowNew b1⟩ | exact ⟨rfl, (below_drew (Below.refl _ w)).trans ((b1.alloc b1.size _).mono (Nat.le_refl _))⟩
theorem l3Digits (f n : Nat) (h : n ≤ f) (hb : n ≤ 1000000000) (w : World) : Calls Tryz.prog 77 #[.int .i64 (n : Int)] w fun e w' => e = .returned (.string (decB n)) ∧ Below w.heap.size w w' := l3DigitsL f n h (by omega) w
end Go.Proofs.YtijphomojljckaaGreatDoor
