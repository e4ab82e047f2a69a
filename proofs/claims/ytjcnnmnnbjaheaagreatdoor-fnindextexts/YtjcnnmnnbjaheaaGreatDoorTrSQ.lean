/- The contracts of l6Tree and the specification's TreeFault. No statement is proved here. -/
import Derived.Test.YtjcnnmnnbjaheaaGreatDoorRows
import Derived.Test.YtjcnnmnnbjaheaaGreatDoorLemQ
import Derived.Test.YtjcnnmnnbjaheaaGreatDoorDTabQ
import Derived.Test.YtjcnnmnnbjaheaaGreatDoorHkTQ
import Derived.Test.YtjcnnmnnbjaheaaGreatDoorIterQ
import Derived.Test.YtjcnnmnnbjaheaaGreatDoorIdLQ
import Derived.Test.YtjcnnmnnbjaheaaGreatDoorTeLQ
import Derived.Test.YtjcnnmnnbjaheaaGreatDoorWwCQ
import Derived.Test.YtjcnnmnnbjaheaaGreatDoorTrWQ
import Derived.WalkKit
import Derived.ProofKit
import Derived.Below
import Derived.WalkSpells
import Derived.Laws.Concat
import Derived.Deep.RegionWith
import Derived.Deep.RegionHeld3
import Derived.Deep.QuietTactic
import Derived.BigQuiet
import Derived.Lib.ItoaNum
import Derived.Deep.RegionLaw
import Derived.Laws.IdiomStrings
namespace Go.Proofs.YtjcnnmnnbjaheaaGreatDoor.Te
open Go.ChangeShapes Go.WideShapes Go.ChangeAt Go.RowKit

theorem word_cell (w : World) (t : TypeId) (vs : Array Value) (k : Nat) (v : Value) (h : vs.toList[k]? = some v) : (w.alloc (.cells vs t)).cell? ⟨w.heap.size, k, none⟩ = some v := Rs.new w vs t k v h

theorem l6WordsD (w : World) : Calls Tryz.prog 57 #[] w.drew fun e w' => e = .returned (.slice (some ⟨w.heap.size, 0, none⟩) 4 4) ∧ Below w.heap.size w w' ∧ w'.cell? ⟨w.heap.size, 1, none⟩ = some (.string ⟨#[102, 105, 108, 101]⟩) ∧ w'.cell? ⟨w.heap.size, 2, none⟩ = some (.string ⟨#[114, 117, 110]⟩) ∧ w'.cell? ⟨w.heap.size, 3, none⟩ = some (.string ⟨#[116, 114, 101, 101]⟩) := by
  refine (l6Words w.drew).mono ?_
  rintro e w1 ⟨rfl, rfl⟩
  exact ⟨rfl, (below_drew (Below.refl _ _)).trans (allocBelow w.drew _), word_cell w.drew _ _ 1 _ rfl, word_cell w.drew _ _ 2 _ rfl, word_cell w.drew _ _ 3 _ rfl⟩
theorem keep3 {w w1 : World} {g o : Nat} {v : Value} (b : Below w.heap.size w w1) (hg : g < w.heap.size) (h : w.cell? ⟨g, o, none⟩ = some v) : w1.cell? ⟨g, o, none⟩ = some v := (b.cell (p := ⟨g, o, none⟩) hg).trans h

theorem takeD {P : Program} {md : Region.Mode} {ops : Array Oper} {Q : Exit → Act → World → Prop} {S : World → Prop} {i d : Nat} {oi : Oper} {v : Value} {fuel : Nat} {listed listed' : Array Bool} {a : Act} {w : World} (hi : ops[i]? = some oi)
    (hs : Region.noSelect ops = true) (hf : Region.free md ops listed i = true) (hr : (Region.ready md ops listed).contains i = true)
    (hQ : ∀ c a w, Q (.panic c) (a.put oi.dst v) w → Q (.panic c) a w) (hy : YieldsIf P ops S oi v a) (hS : S w) (hd : oi.dst = some d) (hl : listed.setIfInBounds i true = listed')
    (h : wpAnyH P md ops Q S fuel listed' (a.put (some d) v) w) : wpAnyH P md ops Q S (fuel + 1) listed a w := by
  subst hl
  exact wpAnyH_take hi hs hf hr hQ hy hS (by rw [hd]; exact h)
theorem moreS {P : Program} {md : Region.Mode} {ops : Array Oper} {Q : Exit → Act → World → Prop} {S S' : World → Prop} (hSS : ∀ w, S' w → S w) : ∀ (fuel : Nat) (listed : Array Bool) (a : Act) (w : World), wpAnyH P md ops Q S' fuel listed a w → wpAnyH P md ops Q S fuel listed a w
  | 0, _, _, _, h => h
  | fuel + 1, _, _, _, h => ⟨h.1, fun i hi => wpOp_mono (fun a' w' h' => ⟨hSS _ h'.1, moreS hSS fuel _ a' w' h'.2⟩) (h.2 i hi)⟩

end Go.Proofs.YtjcnnmnnbjaheaaGreatDoor.Te
/- The contracts of spec.l3Digits, l3Head: decimal numbers and a hunk's first line. No statement is proved here. -/
namespace Go.Proofs.YtjcnnmnnbjaheaaGreatDoor
open Go.ChangeShapes Go.WideShapes Go.ChangeAt Go.RowKit

/-- A number in decimal. -/
def decB (n : Nat) : ByteArray := ⟨(Lib.decDigits n).toArray⟩

theorem decB_one {n : Nat} (h : n < 10) : decB n = ⟨#[UInt8.ofNat (48 + n)]⟩ := by
  unfold decB; rw [Lib.decDigits, dif_pos h]
theorem decB_more {n : Nat} (h : ¬ n < 10) : decB n = decB (n / 10) ++ ⟨#[UInt8.ofNat (48 + n % 10)]⟩ := by
  unfold decB
  rw [Lib.decDigits, dif_neg h]
  apply bytes_inj2
  simp [ByteArray.toList_eq]
theorem decB_size : ∀ f n : Nat, n ≤ f → (decB n).size ≤ n + 1 := by
  intro f
  induction f with
  | zero =>
    intro n hn
    rw [decB_one (by omega)]
    have : (⟨#[UInt8.ofNat (48 + n)]⟩ : ByteArray).size = 1 := rfl
    omega
  | succ f ih =>
    intro n hn
    by_cases h : n < 10
    · rw [decB_one h]
      have : (⟨#[UInt8.ofNat (48 + n)]⟩ : ByteArray).size = 1 := rfl
      omega
    · rw [decB_more h, ByteArray.size_append]
      have h1 := ih (n / 10) (by omega)
      have : (⟨#[UInt8.ofNat (48 + n % 10)]⟩ : ByteArray).size = 1 := rfl
      omega
/-- A byte that is a digit, told as a text. -/
theorem conv1 (m : Nat) (hm : m < 10) (W : World) (b c : Nat) (hc : W.cell? ⟨b, 0, none⟩ = some (.int .u8 (48 + (m : Int)))) :
    (convert 22 9 (.slice (some ⟨b, 0, none⟩) 1 c)).run Tryz.prog W = .ok (.string ⟨#[UInt8.ofNat (48 + m)]⟩) W :=
  run_convert_bytes_back W 22 9 5 ⟨b, 0, none⟩ c [UInt8.ofNat (48 + m)] Tryz.underlying22 Tryz.underlying5 Tryz.underlying9 (fun j hj => by
    have e : j = 0 := by simpa using hj
    subst e
    have h2 : ((UInt8.ofNat (48 + m)).toNat : Int) = 48 + (m : Int) := by
      rw [UInt8.toNat_ofNat']; omega
    simp only [List.getElem_cons_zero, h2, add_plain]
    exact hc)

theorem newAt {w w1 : World} {v : Value} {t : TypeId} (b : Below ((w.alloc (.cells #[v] t)).drew).heap.size ((w.alloc (.cells #[v] t)).drew) w1) : w1.cell? ⟨w.heap.size, 0, none⟩ = some v := by
  have h : ((w.alloc (.cells #[v] t)).drew).cell? ⟨w.heap.size, 0, none⟩ = some v := by
    show (w.alloc (.cells #[v] t)).cell? ⟨w.heap.size, 0, none⟩ = some v
    simp
  exact (b.cell (p := ⟨w.heap.size, 0, none⟩) (by show w.heap.size < (w.alloc (.cells #[v] t)).heap.size; simp)).trans h
theorem belowNew {w w1 : World} {v : Value} {t : TypeId} (b : Below ((w.alloc (.cells #[v] t)).drew).heap.size ((w.alloc (.cells #[v] t)).drew) w1) : Below w.heap.size w w1 :=
  (below_drew (allocBelow w _)).trans (b.mono (by show w.heap.size ≤ (w.alloc (.cells #[v] t)).heap.size; simp))
set_option maxRecDepth 20000 in
set_option maxHeartbeats 1000000 in
theorem l3DigitsL : ∀ (f n : Nat), n ≤ f → n ≤ 10000000000 → ∀ w : World, Calls Tryz.prog 59 #[.int .i64 (n : Int)] w fun e w' => e = .returned (.string (decB n)) ∧ Below w.heap.size w w' := by
  have base : ∀ n : Nat, n < 10 → ∀ w : World, Calls Tryz.prog 59 #[.int .i64 (n : Int)] w fun e w' => e = .returned (.string (decB n)) ∧ Below w.heap.size w w' := by
    intro n h10 w
    have q : (n : Int) < 10 := by omega
    have hcv := conv1 n h10
    rw [decB_one h10]
    obtain ⟨D, hD⟩ : ∃ D : ByteArray, (⟨#[UInt8.ofNat (48 + n)]⟩ : ByteArray) = D := ⟨_, rfl⟩
    rw [hD] at hcv ⊢
    clear hD
    go_enter Tryz.func59, Tryz.ntmps59
    go_wp2
    go_ret
    exact ⟨rfl, allocBelow _ _⟩
  intro f
  induction f with
  | zero => intro n hn _ w; exact base n (by omega) w
  | succ f ih =>
    intro n hn hb w
    by_cases h10 : n < 10
    · exact base n h10 w
    · have q : ¬ (n : Int) < 10 := by omega
      have hq : (n : Int) / 10 = ((n / 10 : Nat) : Int) := by omega
      have hr : (n : Int) % 10 = ((n % 10 : Nat) : Int) := by omega
      have hcv := conv1 (n % 10) (by omega)
      have hI := ih (n / 10) (by omega) (by omega)
      rw [decB_more h10]
      obtain ⟨m, hm⟩ : ∃ m, n % 10 = m := ⟨_, rfl⟩
      obtain ⟨k, hk⟩ : ∃ k, n / 10 = k := ⟨_, rfl⟩
      rw [hm] at hr hcv ⊢
      rw [hk] at hq hI ⊢
      have hm10 : m < 10 := by omega
      have hq2 : (n : Int).tdiv 10 = (k : Int) := by rw [Int.tdiv_eq_ediv_of_nonneg (by omega)]; exact hq
      have hr2 : (n : Int).tmod 10 = (m : Int) := by rw [Int.tmod_eq_emod_of_nonneg (by omega)]; exact hr
      obtain ⟨D, hD⟩ : ∃ D : ByteArray, (⟨#[UInt8.ofNat (48 + m)]⟩ : ByteArray) = D := ⟨_, rfl⟩
      rw [hD] at hcv ⊢
      have hDs : D.size = 1 := by rw [← hD]; rfl
      obtain ⟨E, hE⟩ : ∃ E, decB k = E := ⟨_, rfl⟩
      have hEs := decB_size k k (Nat.le_refl _)
      rw [hE] at hI hEs ⊢
      have hcs : ¬ 9223372036854775807 < E.size + D.size := by omega
      have hcs2 : ¬ 9223372036854775807 < E.size + 1 := by omega
      have hk1 : k ≤ n := by omega
      have hw1 : IntKind.i64.wrap (k : Int) = (k : Int) := by rw [IntKind.wrap_i64]; omega
      have hw2 : IntKind.i64.wrap (m : Int) = (m : Int) := by rw [IntKind.wrap_i64]; omega
      have hw3 : IntKind.i64.wrap (48 + (m : Int)) = 48 + (m : Int) := by rw [IntKind.wrap_i64]; omega
      have hw4 : IntKind.u8.wrap (48 + (m : Int)) = 48 + (m : Int) := by rw [IntKind.wrap_u8]; omega
      clear hm hk hD hE
      go_enter Tryz.func59, Tryz.ntmps59
      go_wp2
      go_region_with (go_at_call 59; refine (hI _).mono ?_; rintro e w1 ⟨rfl, b1⟩; try have hcl := newAt b1)
      all_goals (go_wp2_with fail)
      all_goals go_ret
      all_goals first | exact ⟨rfl, belowNew b1⟩ | exact ⟨rfl, (below_drew (Below.refl _ w)).trans ((b1.alloc b1.size _).mono (Nat.le_refl _))⟩
theorem l3Digits (f n : Nat) (h : n ≤ f) (hb : n ≤ 1000000000) (w : World) : Calls Tryz.prog 59 #[.int .i64 (n : Int)] w fun e w' => e = .returned (.string (decB n)) ∧ Below w.heap.size w w' := l3DigitsL f n h (by omega) w
end Go.Proofs.YtjcnnmnnbjaheaaGreatDoor
