/- The contracts of isNote and l6Note. No statement is proved here. -/
import Derived.Test.YtijphomojljckaaGreatDoorRows
import Derived.Test.YtijphomojljckaaGreatDoorLemQ
import Derived.Test.YtijphomojljckaaGreatDoorComQ
import Derived.WalkKit
import Derived.ProofKit
import Derived.Below
import Derived.WalkSpells
import Derived.Deep.QuietTactic
import Derived.BigQuiet
import Derived.Test.YtijphomojljckaaGreatDoorInQ
import Derived.Test.YtijphomojljckaaGreatDoorIdLQ
import Derived.Test.YtijphomojljckaaGreatDoorTeLQ
import Derived.Test.YtijphomojljckaaGreatDoorTrCQ
import Derived.Test.YtijphomojljckaaGreatDoorShelfBQ
import Derived.Lib.SlicesS
import Derived.Laws.Cover1
import Derived.Deep.CutRange
namespace Go.Proofs.YtijphomojljckaaGreatDoor
open Go.ChangeShapes Go.WideShapes Go.ChangeAt Go.RowKit

/-- A byte of a note; what a note is. -/
def ntB (c : UInt8) : Prop := 32 ≤ c.toNat ∧ c.toNat ≤ 126
def nt (s : ByteArray) : Bool := decide (s.size ≤ 60 ∧ ∀ k, (h : k < s.size) → 32 ≤ s[k].toNat ∧ s[k].toNat ≤ 126)
theorem nt_long {s : ByteArray} (h : 60 < s.size) : nt s = false := decide_eq_false (fun k => by have := k.1; omega)
theorem nt_byte {s : ByteArray} {k : Nat} (hk : k < s.size) (h : ¬ ntB s[k]) : nt s = false := decide_eq_false (fun q => h (q.2 k hk))
theorem nt_ok {s : ByteArray} (h1 : ¬ 60 < s.size) (h : ∀ k, (h : k < s.size) → ntB s[k]) : nt s = true := decide_eq_true ⟨by omega, h⟩
theorem nt_size {s : ByteArray} (h : nt s = true) : s.size ≤ 60 := (of_decide_eq_true h).1
theorem ret_bool' {b c : Bool} (h : b = c) : Ending.returned (.bool b) = .returned (.bool c) := by rw [h]
set_option maxHeartbeats 1000000 in
theorem l6Note (s : ByteArray) (w : World) :
    Calls Tryz.prog 31 #[.string s] w fun e w' => e = .returned (.bool (nt s)) ∧ w' = w := by
  by_cases h2 : 60 < s.size
  · have HR : Hid (nt s = false) := nt_long h2
    have q2 : (60 : Int) < (s.size : Int) := by omega
    clear h2
    go_enter Tryz.func31, Tryz.ntmps31
    go_wp2
    go_ret
    exact ⟨ret_bool' HR.out.symm, rfl⟩
  have q2 : ¬ (60 : Int) < (s.size : Int) := by omega
  have HB : ∀ k, (h : k < s.size) → ¬ ntB s[k] → Hid (nt s = false) := fun k hk h => nt_byte hk h
  have HG : (∀ k, (h : k < s.size) → ntB s[k]) → Hid (nt s = true) := fun h => nt_ok h2 h
  clear h2
  go_enter Tryz.func31, Tryz.ntmps31
  go_wp2
  go_loop [3] (fun i => ∃ k : Nat, k ≤ s.size ∧ i = .int .i64 k ∧ Hid (∀ j, (h : j < s.size) → j < k → ntB s[j])) (fun i => s.size - (intOf i).toNat)
  case atStart => exact ⟨0, by omega, rfl, fun j _ hj => by omega⟩
  case round =>
    obtain ⟨k, hk, rfl, hn⟩ := hrel
    by_cases hlt : k < s.size
    · have hkI : (k : Int) < (s.size : Int) := by omega
      have hb := HB k hlt
      have hgo : ntB s[k] → Hid (∀ j, (h : j < s.size) → j < k + 1 → ntB s[j]) := fun e j hj h1 => by
        by_cases ej : j = k
        · subst ej; exact e
        · exact hn.out j hj (by omega)
      clear HB HG hn
      by_cases e1 : (s[k].toNat : Int) < 32
      · have HR := hb (fun q => by have := q.1; omega)
        clear hb hgo
        go_wp2
        go_ret
        exact ⟨ret_bool' HR.out.symm, rfl⟩
      by_cases e2 : (126 : Int) < (s[k].toNat : Int)
      · have HR := hb (fun q => by have := q.2; omega)
        clear hb hgo
        go_wp2
        go_ret
        exact ⟨ret_bool' HR.out.symm, rfl⟩
      have HN := hgo ⟨by omega, by omega⟩
      clear hb hgo
      go_wp2
      go_round
      case rel => exact ⟨k + 1, by omega, by go_num, HN⟩
      case measure => simp [intOf]; omega
    · have hkI : ¬ (k : Int) < (s.size : Int) := by omega
      have HR := HG (fun j hj => hn.out j hj (by omega))
      clear HB HG hn
      go_wp2
      go_ret
      exact ⟨ret_bool' HR.out.symm, rfl⟩
set_option maxHeartbeats 1000000 in
theorem isNote (s : ByteArray) (w : World) :
    Calls Tryz.prog 75 #[.string s] w fun e w' => e = .returned (.bool (nt s)) ∧ w' = w := by
  by_cases h2 : 60 < s.size
  · have HR : Hid (nt s = false) := nt_long h2
    have q2 : (60 : Int) < (s.size : Int) := by omega
    clear h2
    go_enter Tryz.func75, Tryz.ntmps75
    go_wp2
    go_ret
    exact ⟨ret_bool' HR.out.symm, rfl⟩
  have q2 : ¬ (60 : Int) < (s.size : Int) := by omega
  have HB : ∀ k, (h : k < s.size) → ¬ ntB s[k] → Hid (nt s = false) := fun k hk h => nt_byte hk h
  have HG : (∀ k, (h : k < s.size) → ntB s[k]) → Hid (nt s = true) := fun h => nt_ok h2 h
  clear h2
  go_enter Tryz.func75, Tryz.ntmps75
  go_wp2
  go_loop [9] (fun i => ∃ k : Nat, k ≤ s.size ∧ i = .int .i64 k ∧ Hid (∀ j, (h : j < s.size) → j < k → ntB s[j])) (fun i => s.size - (intOf i).toNat)
  case atStart => exact ⟨0, by omega, rfl, fun j _ hj => by omega⟩
  case round =>
    obtain ⟨k, hk, rfl, hn⟩ := hrel
    by_cases hlt : k < s.size
    · have hkI : (k : Int) < (s.size : Int) := by omega
      have hb := HB k hlt
      have hgo : ntB s[k] → Hid (∀ j, (h : j < s.size) → j < k + 1 → ntB s[j]) := fun e j hj h1 => by
        by_cases ej : j = k
        · subst ej; exact e
        · exact hn.out j hj (by omega)
      clear HB HG hn
      by_cases e1 : (s[k].toNat : Int) < 32
      · have HR := hb (fun q => by have := q.1; omega)
        clear hb hgo
        go_wp2
        go_ret
        exact ⟨ret_bool' HR.out.symm, rfl⟩
      by_cases e2 : (126 : Int) < (s[k].toNat : Int)
      · have HR := hb (fun q => by have := q.2; omega)
        clear hb hgo
        go_wp2
        go_ret
        exact ⟨ret_bool' HR.out.symm, rfl⟩
      have HN := hgo ⟨by omega, by omega⟩
      clear hb hgo
      go_wp2
      go_round
      case rel => exact ⟨k + 1, by omega, by go_num, HN⟩
      case measure => simp [intOf]; omega
    · have hkI : ¬ (k : Int) < (s.size : Int) := by omega
      have HR := HG (fun j hj => hn.out j hj (by omega))
      clear HB HG hn
      go_wp2
      go_ret
      exact ⟨ret_bool' HR.out.symm, rfl⟩
end Go.Proofs.YtijphomojljckaaGreatDoor
/- The head of a commit: the contract of the program's headFault. No statement is proved here. -/
namespace Go.Proofs.YtijphomojljckaaGreatDoor
open Go.ChangeShapes Go.WideShapes Go.ChangeAt Go.RowKit

/-- The parent at a place is the id of a commit, and no parent ahead of it. -/
def PaOk (ps : List ByteArray) (k : Nat) : Prop := isOf 3 (ps.getD k ByteArray.empty) = true ∧ ∀ j, j < k → ¬ ps.getD j ByteArray.empty = ps.getD k ByteArray.empty
/-- The fault of a commit's head; of a commit. -/
def hd (t : ByteArray) (ps : List ByteArray) : Int :=
  if isOf 2 t = true then (if 3 < ps.length then 2 else if (∀ k, k < ps.length → isOf 3 (ps.getD k ByteArray.empty) = true ∧ ∀ j, j < k → ¬ ps.getD j ByteArray.empty = ps.getD k ByteArray.empty) then 0 else 1) else 1
theorem hd_tree {t : ByteArray} {ps : List ByteArray} (h : isOf 2 t = false) : hd t ps = 1 := if_neg (by rw [h]; decide)
theorem hd_many {t : ByteArray} {ps : List ByteArray} (h : isOf 2 t = true) (h3 : 3 < ps.length) : hd t ps = 2 := by unfold hd; rw [if_pos h, if_pos h3]
theorem hd_bad {t : ByteArray} {ps : List ByteArray} (h : isOf 2 t = true) (h3 : ¬ 3 < ps.length) {k : Nat} (hk : k < ps.length) (hb : ¬ PaOk ps k) : hd t ps = 1 := by
  unfold hd
  rw [if_pos h, if_neg h3, if_neg (fun q => hb (q k hk))]
theorem hd_ok {t : ByteArray} {ps : List ByteArray} (h : isOf 2 t = true) (h3 : ¬ 3 < ps.length) (ha : ∀ k, k < ps.length → PaOk ps k) : hd t ps = 0 := by
  unfold hd
  rw [if_pos h, if_neg h3]
  exact if_pos (fun k hk => ha k hk)
def cmF (t : ByteArray) (ps : List ByteArray) (tm : Int) (n : ByteArray) : Int := if hd t ps = 0 then (if inB tm 0 1000000000 = true then (if nt n = true then 0 else 5) else 3) else hd t ps
theorem memTake {ps : List ByteArray} {k : Nat} {x : ByteArray} (hk : k ≤ ps.length) : x ∈ ps.take k ↔ ∃ j, j < k ∧ ps.getD j ByteArray.empty = x := by
  rw [List.mem_iff_getElem]
  constructor
  · rintro ⟨j, hj, e⟩
    have hj' : j < k := by simp at hj; omega
    refine ⟨j, hj', ?_⟩
    rw [getD_at ps j (by omega), ← e]
    simp
  · rintro ⟨j, hj, e⟩
    refine ⟨j, by simp; omega, ?_⟩
    rw [getD_at ps j (by omega)] at e
    rw [← e]
    simp
theorem containsF {ps : List ByteArray} {k : Nat} (hk : k ≤ ps.length) (h : isOf 3 (ps.getD k ByteArray.empty) = true) (hc : Lib.containsS (ps.take k) (ps.getD k ByteArray.empty) = false) : PaOk ps k :=
  ⟨h, fun j hj e => by
    have : Lib.containsS (ps.take k) (ps.getD k ByteArray.empty) = true := (Lib.containsS_iff _ _).2 ((memTake hk).2 ⟨j, hj, e⟩)
    rw [this] at hc; cases hc⟩
theorem containsT {ps : List ByteArray} {k : Nat} (hk : k ≤ ps.length) (hc : Lib.containsS (ps.take k) (ps.getD k ByteArray.empty) = true) : ¬ PaOk ps k := fun q => by
  obtain ⟨j, hj, e⟩ := (memTake hk).1 ((Lib.containsS_iff _ _).1 hc)
  exact q.2 j hj e

set_option maxRecDepth 20000 in
set_option maxHeartbeats 2000000 in
theorem headFault (t : ByteArray) (a : Option Addr) (c : Nat) (ps : List ByteArray) (w : World) (h : SS w a ps) (hc : ps.length ≤ c) (hn : ps.length ≤ 1048576) :
    Calls Tryz.prog 74 #[.string t, .slice a ps.length c] w fun e w' => e = .returned (.int .i64 (hd t ps)) ∧ ∃ n, w' = w.drewN n := by
  have hO2 := fun w => isIdOf 2 (by omega) t w
  cases hb : isOf 2 t with
  | false =>
    have HR : Hid (hd t ps = 1) := hd_tree hb
    rw [hb] at hO2
    clear hb
    go_enter Tryz.func74, Tryz.ntmps74
    go_wp2_with fail
    refine (hO2 _).mono ?_; rintro e w1 ⟨rfl, n, hw1⟩
    clear hO2
    go_wp2
    go_ret
    exact ⟨ret_int HR.out.symm, n, by first | rfl | exact hw1⟩
  | true =>
    rw [hb] at hO2
    by_cases h3 : 3 < ps.length
    · have HR : Hid (hd t ps = 2) := hd_many hb h3
      have q3 : (3 : Int) < (ps.length : Int) := by omega
      clear hb h3
      go_enter Tryz.func74, Tryz.ntmps74
      go_wp2_with fail
      refine (hO2 _).mono ?_; rintro e w1 ⟨rfl, n, hw1⟩
      clear hO2
      go_wp2
      go_ret
      exact ⟨ret_int HR.out.symm, n, by first | rfl | exact hw1⟩
    have q3 : ¬ (3 : Int) < (ps.length : Int) := by omega
    have HB : ∀ k, k < ps.length → ¬ PaOk ps k → Hid (hd t ps = 1) := fun k hk q => hd_bad hb h3 hk q
    have HG : (∀ k, k < ps.length → PaOk ps k) → Hid (hd t ps = 0) := fun q => hd_ok hb h3 q
    clear hb h3
    go_enter Tryz.func74, Tryz.ntmps74
    go_wp2_with fail
    refine (hO2 _).mono ?_; rintro e w1 ⟨rfl, n1, hw1⟩
    clear hO2
    go_wp2
    go_loopw [15] (fun i wr => ∃ k : Nat, k ≤ ps.length ∧ i = .int .i64 k ∧ Hid (∀ j, j < k → PaOk ps j) ∧ ∃ n, wr = w.drewN n) (fun i _ => ps.length - (intOf i).toNat)
    case atStart => exact ⟨0, Nat.zero_le _, rfl, fun j hj => absurd hj (Nat.not_lt_zero _), n1, by first | rfl | exact hw1⟩
    case round =>
      clear hw1
      obtain ⟨k, hk, rfl, hA, n, rfl⟩ := hrel
      by_cases hlt : k < ps.length
      · have qk : (k : Int) < (ps.length : Int) := by omega
        obtain ⟨g, off, e, hg, d0⟩ := h.2 k hlt
        subst e
        have hcells : ∀ j, j < ps.length → w.cell? ⟨g, off + j, none⟩ = some (.string (ps.getD j ByteArray.empty)) := fun j hj => by
          obtain ⟨g', off', e', _, f0⟩ := h.2 j hj
          simp only [Option.some.injEq, Addr.mk.injEq, and_true] at e'
          obtain ⟨rfl, rfl⟩ := e'
          exact f0
        have hb := HB k hlt
        have hgo : PaOk ps k → Hid (∀ j, j < k + 1 → PaOk ps j) := fun e j hj => by
          by_cases ej : j = k
          · rw [ej]; exact e
          · exact hA.out j (by omega)
        have hCF := containsF hk
        have hCT := containsT hk
        have hNo : isOf 3 (ps.getD k ByteArray.empty) = false → ¬ PaOk ps k := fun q r => by rw [r.1] at q; cases q
        have hC : ∀ m, Calls Tryz.prog 92 #[.slice (some ⟨g, off, none⟩) k c, .string (ps.getD k ByteArray.empty)] (w.drewN m) fun e w' => e = .returned (.bool (Lib.containsS (ps.take k) (ps.getD k ByteArray.empty))) ∧ w' = w.drewN m := fun m => Tryz.slices_Contains_string g off k c ps _ (w.drewN m) hk (by omega) hcells
        obtain ⟨x, hx⟩ : ∃ x, ps.getD k ByteArray.empty = x := ⟨_, rfl⟩
        rw [hx] at d0 hCF hCT hNo
        simp only [hx] at hC
        have hO := fun w => isIdOf 3 (by omega) x w
        obtain ⟨O, hOe⟩ : ∃ O, Lib.containsS (ps.take k) x = O := ⟨_, rfl⟩
        rw [hOe] at hCF hCT
        simp only [hOe] at hC
        have q0 : (0 : Int) ≤ (k : Int) := by omega
        have qc : (k : Int) ≤ (c : Int) := by omega
        clear hA HB HG hx hOe hcells h
        cases hi : isOf 3 x with
        | false =>
          have HR := hb (hNo hi)
          rw [hi] at hO
          clear hb hgo hCF hCT hNo hC hi
          go_wp2_with fail
          refine (hO _).mono ?_; rintro e w2 ⟨rfl, m, rfl⟩
          go_wp2
          go_ret
          exact ⟨ret_int HR.out.symm, _, by first | rfl | exact World.drewN_drewN _ _ _⟩
        | true =>
          rw [hi] at hO
          cases O with
          | true =>
            have HR := hb (hCT rfl)
            clear hb hgo hCF hCT hNo hi
            go_wp2_with fail
            refine (hO _).mono ?_; rintro e w2 ⟨rfl, m, rfl⟩
            rw [World.drewN_drewN]
            go_wp2_with fail
            refine (hC _).mono ?_; rintro e w3 ⟨rfl, rfl⟩
            go_wp2
            go_ret
            exact ⟨ret_int HR.out.symm, _, by first | rfl | exact World.drewN_drewN _ _ _⟩
          | false =>
            have HN := hgo (hCF hi rfl)
            clear hb hgo hCF hCT hNo hi
            go_wp2_with fail
            refine (hO _).mono ?_; rintro e w2 ⟨rfl, m, rfl⟩
            rw [World.drewN_drewN]
            go_wp2_with fail
            refine (hC _).mono ?_; rintro e w3 ⟨rfl, rfl⟩
            go_wp2
            go_roundw
            case rel => exact ⟨k + 1, by omega, by go_num, HN, _, rfl⟩
            case measure => first | (simp [intOf]; omega) | simp [intOf]
      · have qk : ¬ (k : Int) < (ps.length : Int) := by omega
        have HR := HG (fun j hj => hA.out j (by omega))
        clear HB HG hA
        go_wp2
        go_ret
        exact ⟨ret_int HR.out.symm, _, by first | rfl | exact World.drewN_drewN _ _ _⟩
end Go.Proofs.YtijphomojljckaaGreatDoor
