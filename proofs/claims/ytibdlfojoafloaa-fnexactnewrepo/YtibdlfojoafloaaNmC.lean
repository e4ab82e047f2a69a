/- The contracts of NameFault (the program's and the specification's). No statement is proved here. -/
import Derived.Test.YtibdlfojoafloaaRows
import Derived.Test.YtibdlfojoafloaaLem
import Derived.Test.YtibdlfojoafloaaIdL
import Derived.WalkKit
import Derived.ProofKit
import Derived.Below
namespace Go.Proofs.Ytibdlfojoafloaa
open Go.ChangeShapes Go.WideShapes Go.ChangeAt Go.RowKit

/-- A byte that a name may have. -/
def nmI (n : Int) : Bool := decide (97 ≤ n ∧ n ≤ 122 ∨ 48 ≤ n ∧ n ≤ 57 ∨ n = 46 ∨ n = 95 ∨ n = 45)
def nmB (c : UInt8) : Bool := nmI (c.toNat : Int)
theorem nm_beqT {a b : Int} (h : a = b) : (a == b) = true := by simp [h]
theorem nm_beqF {a b : Int} (h : ¬ a = b) : (a == b) = false := by simp [h]
set_option maxHeartbeats 1000000 in
theorem l6NameByte (n : Int) (w : World) :
    Calls Try.prog 68 #[.int .u8 n] w fun e w' => e = .returned (.bool (nmI n)) ∧ w' = w := by
  have hD : n ≤ 44 ∨ n = 45 ∨ n = 46 ∨ n = 47 ∨ (48 ≤ n ∧ n ≤ 57) ∨ (58 ≤ n ∧ n ≤ 94) ∨ n = 95 ∨ n = 96 ∨ (97 ≤ n ∧ n ≤ 122) ∨ 123 ≤ n := by omega
  obtain ⟨R, hR⟩ : ∃ R, nmI n = R := ⟨_, rfl⟩
  rcases hD with h | h | h | h | h | h | h | h | h | h
  · have HR : Hid (false = nmI n) := by
      show _ = _; symm; unfold nmI; apply decide_eq_false; omega
    have a1 : n < 97 := by omega
    have a3 : ¬ 97 ≤ n := by omega
    have b1 : n < 48 := by omega
    have b3 : ¬ 48 ≤ n := by omega
    have c1 : ¬ 122 < n := by omega
    have c3 : n ≤ 122 := by omega
    have d1 : ¬ 57 < n := by omega
    have d3 : n ≤ 57 := by omega
    have e1 : (n == 46) = false := nm_beqF (by omega)
    have f1 : (n == 95) = false := nm_beqF (by omega)
    have g1 : (n == 45) = false := nm_beqF (by omega)
    clear h hR
    go_enter Try.func68, Try.ntmps68
    go_wp2
    go_ret
    exact ⟨ret_bool HR.out, rfl⟩
  · have HR : Hid (true = nmI n) := by
      show _ = _; symm; unfold nmI; apply decide_eq_true; omega
    have a1 : n < 97 := by omega
    have a3 : ¬ 97 ≤ n := by omega
    have b1 : n < 48 := by omega
    have b3 : ¬ 48 ≤ n := by omega
    have c1 : ¬ 122 < n := by omega
    have c3 : n ≤ 122 := by omega
    have d1 : ¬ 57 < n := by omega
    have d3 : n ≤ 57 := by omega
    have e1 : (n == 46) = false := nm_beqF (by omega)
    have f1 : (n == 95) = false := nm_beqF (by omega)
    have g1 : (n == 45) = true := nm_beqT (by omega)
    clear h hR
    go_enter Try.func68, Try.ntmps68
    go_wp2
    go_ret
    exact ⟨ret_bool HR.out, rfl⟩
  · have HR : Hid (true = nmI n) := by
      show _ = _; symm; unfold nmI; apply decide_eq_true; omega
    have a1 : n < 97 := by omega
    have a3 : ¬ 97 ≤ n := by omega
    have b1 : n < 48 := by omega
    have b3 : ¬ 48 ≤ n := by omega
    have c1 : ¬ 122 < n := by omega
    have c3 : n ≤ 122 := by omega
    have d1 : ¬ 57 < n := by omega
    have d3 : n ≤ 57 := by omega
    have e1 : (n == 46) = true := nm_beqT (by omega)
    have f1 : (n == 95) = false := nm_beqF (by omega)
    have g1 : (n == 45) = false := nm_beqF (by omega)
    clear h hR
    go_enter Try.func68, Try.ntmps68
    go_wp2
    go_ret
    exact ⟨ret_bool HR.out, rfl⟩
  · have HR : Hid (false = nmI n) := by
      show _ = _; symm; unfold nmI; apply decide_eq_false; omega
    have a1 : n < 97 := by omega
    have a3 : ¬ 97 ≤ n := by omega
    have b1 : n < 48 := by omega
    have b3 : ¬ 48 ≤ n := by omega
    have c1 : ¬ 122 < n := by omega
    have c3 : n ≤ 122 := by omega
    have d1 : ¬ 57 < n := by omega
    have d3 : n ≤ 57 := by omega
    have e1 : (n == 46) = false := nm_beqF (by omega)
    have f1 : (n == 95) = false := nm_beqF (by omega)
    have g1 : (n == 45) = false := nm_beqF (by omega)
    clear h hR
    go_enter Try.func68, Try.ntmps68
    go_wp2
    go_ret
    exact ⟨ret_bool HR.out, rfl⟩
  · have HR : Hid (true = nmI n) := by
      show _ = _; symm; unfold nmI; apply decide_eq_true; omega
    have a1 : n < 97 := by omega
    have a3 : ¬ 97 ≤ n := by omega
    have b1 : ¬ n < 48 := by omega
    have b3 : 48 ≤ n := by omega
    have c1 : ¬ 122 < n := by omega
    have c3 : n ≤ 122 := by omega
    have d1 : ¬ 57 < n := by omega
    have d3 : n ≤ 57 := by omega
    have e1 : (n == 46) = false := nm_beqF (by omega)
    have f1 : (n == 95) = false := nm_beqF (by omega)
    have g1 : (n == 45) = false := nm_beqF (by omega)
    clear h hR
    go_enter Try.func68, Try.ntmps68
    go_wp2
    go_ret
    exact ⟨ret_bool HR.out, rfl⟩
  · have HR : Hid (false = nmI n) := by
      show _ = _; symm; unfold nmI; apply decide_eq_false; omega
    have a1 : n < 97 := by omega
    have a3 : ¬ 97 ≤ n := by omega
    have b1 : ¬ n < 48 := by omega
    have b3 : 48 ≤ n := by omega
    have c1 : ¬ 122 < n := by omega
    have c3 : n ≤ 122 := by omega
    have d1 : 57 < n := by omega
    have d3 : ¬ n ≤ 57 := by omega
    have e1 : (n == 46) = false := nm_beqF (by omega)
    have f1 : (n == 95) = false := nm_beqF (by omega)
    have g1 : (n == 45) = false := nm_beqF (by omega)
    clear h hR
    go_enter Try.func68, Try.ntmps68
    go_wp2
    go_ret
    exact ⟨ret_bool HR.out, rfl⟩
  · have HR : Hid (true = nmI n) := by
      show _ = _; symm; unfold nmI; apply decide_eq_true; omega
    have a1 : n < 97 := by omega
    have a3 : ¬ 97 ≤ n := by omega
    have b1 : ¬ n < 48 := by omega
    have b3 : 48 ≤ n := by omega
    have c1 : ¬ 122 < n := by omega
    have c3 : n ≤ 122 := by omega
    have d1 : 57 < n := by omega
    have d3 : ¬ n ≤ 57 := by omega
    have e1 : (n == 46) = false := nm_beqF (by omega)
    have f1 : (n == 95) = true := nm_beqT (by omega)
    have g1 : (n == 45) = false := nm_beqF (by omega)
    clear h hR
    go_enter Try.func68, Try.ntmps68
    go_wp2
    go_ret
    exact ⟨ret_bool HR.out, rfl⟩
  · have HR : Hid (false = nmI n) := by
      show _ = _; symm; unfold nmI; apply decide_eq_false; omega
    have a1 : n < 97 := by omega
    have a3 : ¬ 97 ≤ n := by omega
    have b1 : ¬ n < 48 := by omega
    have b3 : 48 ≤ n := by omega
    have c1 : ¬ 122 < n := by omega
    have c3 : n ≤ 122 := by omega
    have d1 : 57 < n := by omega
    have d3 : ¬ n ≤ 57 := by omega
    have e1 : (n == 46) = false := nm_beqF (by omega)
    have f1 : (n == 95) = false := nm_beqF (by omega)
    have g1 : (n == 45) = false := nm_beqF (by omega)
    clear h hR
    go_enter Try.func68, Try.ntmps68
    go_wp2
    go_ret
    exact ⟨ret_bool HR.out, rfl⟩
  · have HR : Hid (true = nmI n) := by
      show _ = _; symm; unfold nmI; apply decide_eq_true; omega
    have a1 : ¬ n < 97 := by omega
    have a3 : 97 ≤ n := by omega
    have b1 : ¬ n < 48 := by omega
    have b3 : 48 ≤ n := by omega
    have c1 : ¬ 122 < n := by omega
    have c3 : n ≤ 122 := by omega
    have d1 : 57 < n := by omega
    have d3 : ¬ n ≤ 57 := by omega
    have e1 : (n == 46) = false := nm_beqF (by omega)
    have f1 : (n == 95) = false := nm_beqF (by omega)
    have g1 : (n == 45) = false := nm_beqF (by omega)
    clear h hR
    go_enter Try.func68, Try.ntmps68
    go_wp2
    go_ret
    exact ⟨ret_bool HR.out, rfl⟩
  · have HR : Hid (false = nmI n) := by
      show _ = _; symm; unfold nmI; apply decide_eq_false; omega
    have a1 : ¬ n < 97 := by omega
    have a3 : 97 ≤ n := by omega
    have b1 : ¬ n < 48 := by omega
    have b3 : 48 ≤ n := by omega
    have c1 : 122 < n := by omega
    have c3 : ¬ n ≤ 122 := by omega
    have d1 : 57 < n := by omega
    have d3 : ¬ n ≤ 57 := by omega
    have e1 : (n == 46) = false := nm_beqF (by omega)
    have f1 : (n == 95) = false := nm_beqF (by omega)
    have g1 : (n == 45) = false := nm_beqF (by omega)
    clear h hR
    go_enter Try.func68, Try.ntmps68
    go_wp2
    go_ret
    exact ⟨ret_bool HR.out, rfl⟩
set_option maxHeartbeats 1000000 in
theorem isNameByte (n : Int) (w : World) :
    Calls Try.prog 69 #[.int .u8 n] w fun e w' => e = .returned (.bool (nmI n)) ∧ w' = w := by
  have hD : n ≤ 44 ∨ n = 45 ∨ n = 46 ∨ n = 47 ∨ (48 ≤ n ∧ n ≤ 57) ∨ (58 ≤ n ∧ n ≤ 94) ∨ n = 95 ∨ n = 96 ∨ (97 ≤ n ∧ n ≤ 122) ∨ 123 ≤ n := by omega
  obtain ⟨R, hR⟩ : ∃ R, nmI n = R := ⟨_, rfl⟩
  rcases hD with h | h | h | h | h | h | h | h | h | h
  · have HR : Hid (false = nmI n) := by
      show _ = _; symm; unfold nmI; apply decide_eq_false; omega
    have a1 : n < 97 := by omega
    have a3 : ¬ 97 ≤ n := by omega
    have b1 : n < 48 := by omega
    have b3 : ¬ 48 ≤ n := by omega
    have c1 : ¬ 122 < n := by omega
    have c3 : n ≤ 122 := by omega
    have d1 : ¬ 57 < n := by omega
    have d3 : n ≤ 57 := by omega
    have e1 : (n == 46) = false := nm_beqF (by omega)
    have f1 : (n == 95) = false := nm_beqF (by omega)
    have g1 : (n == 45) = false := nm_beqF (by omega)
    clear h hR
    go_enter Try.func69, Try.ntmps69
    go_wp2
    go_ret
    exact ⟨ret_bool HR.out, rfl⟩
  · have HR : Hid (true = nmI n) := by
      show _ = _; symm; unfold nmI; apply decide_eq_true; omega
    have a1 : n < 97 := by omega
    have a3 : ¬ 97 ≤ n := by omega
    have b1 : n < 48 := by omega
    have b3 : ¬ 48 ≤ n := by omega
    have c1 : ¬ 122 < n := by omega
    have c3 : n ≤ 122 := by omega
    have d1 : ¬ 57 < n := by omega
    have d3 : n ≤ 57 := by omega
    have e1 : (n == 46) = false := nm_beqF (by omega)
    have f1 : (n == 95) = false := nm_beqF (by omega)
    have g1 : (n == 45) = true := nm_beqT (by omega)
    clear h hR
    go_enter Try.func69, Try.ntmps69
    go_wp2
    go_ret
    exact ⟨ret_bool HR.out, rfl⟩
  · have HR : Hid (true = nmI n) := by
      show _ = _; symm; unfold nmI; apply decide_eq_true; omega
    have a1 : n < 97 := by omega
    have a3 : ¬ 97 ≤ n := by omega
    have b1 : n < 48 := by omega
    have b3 : ¬ 48 ≤ n := by omega
    have c1 : ¬ 122 < n := by omega
    have c3 : n ≤ 122 := by omega
    have d1 : ¬ 57 < n := by omega
    have d3 : n ≤ 57 := by omega
    have e1 : (n == 46) = true := nm_beqT (by omega)
    have f1 : (n == 95) = false := nm_beqF (by omega)
    have g1 : (n == 45) = false := nm_beqF (by omega)
    clear h hR
    go_enter Try.func69, Try.ntmps69
    go_wp2
    go_ret
    exact ⟨ret_bool HR.out, rfl⟩
  · have HR : Hid (false = nmI n) := by
      show _ = _; symm; unfold nmI; apply decide_eq_false; omega
    have a1 : n < 97 := by omega
    have a3 : ¬ 97 ≤ n := by omega
    have b1 : n < 48 := by omega
    have b3 : ¬ 48 ≤ n := by omega
    have c1 : ¬ 122 < n := by omega
    have c3 : n ≤ 122 := by omega
    have d1 : ¬ 57 < n := by omega
    have d3 : n ≤ 57 := by omega
    have e1 : (n == 46) = false := nm_beqF (by omega)
    have f1 : (n == 95) = false := nm_beqF (by omega)
    have g1 : (n == 45) = false := nm_beqF (by omega)
    clear h hR
    go_enter Try.func69, Try.ntmps69
    go_wp2
    go_ret
    exact ⟨ret_bool HR.out, rfl⟩
  · have HR : Hid (true = nmI n) := by
      show _ = _; symm; unfold nmI; apply decide_eq_true; omega
    have a1 : n < 97 := by omega
    have a3 : ¬ 97 ≤ n := by omega
    have b1 : ¬ n < 48 := by omega
    have b3 : 48 ≤ n := by omega
    have c1 : ¬ 122 < n := by omega
    have c3 : n ≤ 122 := by omega
    have d1 : ¬ 57 < n := by omega
    have d3 : n ≤ 57 := by omega
    have e1 : (n == 46) = false := nm_beqF (by omega)
    have f1 : (n == 95) = false := nm_beqF (by omega)
    have g1 : (n == 45) = false := nm_beqF (by omega)
    clear h hR
    go_enter Try.func69, Try.ntmps69
    go_wp2
    go_ret
    exact ⟨ret_bool HR.out, rfl⟩
  · have HR : Hid (false = nmI n) := by
      show _ = _; symm; unfold nmI; apply decide_eq_false; omega
    have a1 : n < 97 := by omega
    have a3 : ¬ 97 ≤ n := by omega
    have b1 : ¬ n < 48 := by omega
    have b3 : 48 ≤ n := by omega
    have c1 : ¬ 122 < n := by omega
    have c3 : n ≤ 122 := by omega
    have d1 : 57 < n := by omega
    have d3 : ¬ n ≤ 57 := by omega
    have e1 : (n == 46) = false := nm_beqF (by omega)
    have f1 : (n == 95) = false := nm_beqF (by omega)
    have g1 : (n == 45) = false := nm_beqF (by omega)
    clear h hR
    go_enter Try.func69, Try.ntmps69
    go_wp2
    go_ret
    exact ⟨ret_bool HR.out, rfl⟩
  · have HR : Hid (true = nmI n) := by
      show _ = _; symm; unfold nmI; apply decide_eq_true; omega
    have a1 : n < 97 := by omega
    have a3 : ¬ 97 ≤ n := by omega
    have b1 : ¬ n < 48 := by omega
    have b3 : 48 ≤ n := by omega
    have c1 : ¬ 122 < n := by omega
    have c3 : n ≤ 122 := by omega
    have d1 : 57 < n := by omega
    have d3 : ¬ n ≤ 57 := by omega
    have e1 : (n == 46) = false := nm_beqF (by omega)
    have f1 : (n == 95) = true := nm_beqT (by omega)
    have g1 : (n == 45) = false := nm_beqF (by omega)
    clear h hR
    go_enter Try.func69, Try.ntmps69
    go_wp2
    go_ret
    exact ⟨ret_bool HR.out, rfl⟩
  · have HR : Hid (false = nmI n) := by
      show _ = _; symm; unfold nmI; apply decide_eq_false; omega
    have a1 : n < 97 := by omega
    have a3 : ¬ 97 ≤ n := by omega
    have b1 : ¬ n < 48 := by omega
    have b3 : 48 ≤ n := by omega
    have c1 : ¬ 122 < n := by omega
    have c3 : n ≤ 122 := by omega
    have d1 : 57 < n := by omega
    have d3 : ¬ n ≤ 57 := by omega
    have e1 : (n == 46) = false := nm_beqF (by omega)
    have f1 : (n == 95) = false := nm_beqF (by omega)
    have g1 : (n == 45) = false := nm_beqF (by omega)
    clear h hR
    go_enter Try.func69, Try.ntmps69
    go_wp2
    go_ret
    exact ⟨ret_bool HR.out, rfl⟩
  · have HR : Hid (true = nmI n) := by
      show _ = _; symm; unfold nmI; apply decide_eq_true; omega
    have a1 : ¬ n < 97 := by omega
    have a3 : 97 ≤ n := by omega
    have b1 : ¬ n < 48 := by omega
    have b3 : 48 ≤ n := by omega
    have c1 : ¬ 122 < n := by omega
    have c3 : n ≤ 122 := by omega
    have d1 : 57 < n := by omega
    have d3 : ¬ n ≤ 57 := by omega
    have e1 : (n == 46) = false := nm_beqF (by omega)
    have f1 : (n == 95) = false := nm_beqF (by omega)
    have g1 : (n == 45) = false := nm_beqF (by omega)
    clear h hR
    go_enter Try.func69, Try.ntmps69
    go_wp2
    go_ret
    exact ⟨ret_bool HR.out, rfl⟩
  · have HR : Hid (false = nmI n) := by
      show _ = _; symm; unfold nmI; apply decide_eq_false; omega
    have a1 : ¬ n < 97 := by omega
    have a3 : 97 ≤ n := by omega
    have b1 : ¬ n < 48 := by omega
    have b3 : 48 ≤ n := by omega
    have c1 : 122 < n := by omega
    have c3 : ¬ n ≤ 122 := by omega
    have d1 : 57 < n := by omega
    have d3 : ¬ n ≤ 57 := by omega
    have e1 : (n == 46) = false := nm_beqF (by omega)
    have f1 : (n == 95) = false := nm_beqF (by omega)
    have g1 : (n == 45) = false := nm_beqF (by omega)
    clear h hR
    go_enter Try.func69, Try.ntmps69
    go_wp2
    go_ret
    exact ⟨ret_bool HR.out, rfl⟩

/-- The fault of a name. -/
def nf (s : ByteArray) : Int := if 1 ≤ s.size ∧ s.size ≤ 12 ∧ s ≠ ⟨#[46]⟩ ∧ s ≠ ⟨#[46, 46]⟩ ∧ (∀ k, (h : k < s.size) → nmB s[k] = true) then 0 else 1
theorem nf_short {s : ByteArray} (h : s.size < 1) : nf s = 1 := if_neg (by omega)
theorem nf_long {s : ByteArray} (h : 12 < s.size) : nf s = 1 := if_neg (by omega)
theorem nf_dot {s : ByteArray} (h : s = ⟨#[46]⟩) : nf s = 1 := if_neg (fun k => k.2.2.1 h)
theorem nf_dots {s : ByteArray} (h : s = ⟨#[46, 46]⟩) : nf s = 1 := if_neg (fun k => k.2.2.2.1 h)
theorem nf_byte {s : ByteArray} {k : Nat} (hk : k < s.size) (h : nmB s[k] = false) : nf s = 1 := if_neg (fun q => by rw [q.2.2.2.2 k hk] at h; cases h)
theorem nf_ok {s : ByteArray} (h1 : ¬ s.size < 1) (h2 : ¬ 12 < s.size) (h3 : ¬ s = ⟨#[46]⟩) (h4 : ¬ s = ⟨#[46, 46]⟩) (h5 : ∀ k, (h : k < s.size) → nmB s[k] = true) : nf s = 0 := if_pos ⟨by omega, by omega, h3, h4, h5⟩
theorem nf_or (s : ByteArray) : nf s = 0 ∨ nf s = 1 := by
  unfold nf
  split
  · exact .inl rfl
  · exact .inr rfl

theorem nm_eqF {s : ByteArray} {l : List UInt8} (h : ¬ s = ⟨l.toArray⟩) : (s.toList == l) = false := by
  cases e : (s.toList == l) with
  | false => rfl
  | true =>
    have e2 : s.toList = l := by simpa using e
    refine absurd ?_ h
    rw [ByteArray.toList_eq] at e2
    obtain ⟨⟨x⟩⟩ := s
    have e3 : x = l := e2
    rw [e3]
theorem nm_eqT {s : ByteArray} {l : List UInt8} (h : s = ⟨l.toArray⟩) : (s.toList == l) = true := by
  have e : s.toList = l := by rw [h, ByteArray.toList_eq]
  rw [e]; simp
set_option maxHeartbeats 1000000 in
theorem specNameFault (s : ByteArray) (w : World) :
    Calls Try.prog 49 #[.string s] w fun e w' => e = .returned (.int .i64 (nf s)) ∧ w' = w := by
  by_cases h1 : s.size < 1
  · have HR : Hid (nf s = 1) := nf_short h1
    have q1 : (s.size : Int) < 1 := by omega
    clear h1
    go_enter Try.func49, Try.ntmps49
    go_wp2
    go_ret
    exact ⟨ret_int HR.out.symm, rfl⟩
  have q1 : ¬ (s.size : Int) < 1 := by omega
  by_cases h2 : 12 < s.size
  · have HR : Hid (nf s = 1) := nf_long h2
    have q2 : (12 : Int) < (s.size : Int) := by omega
    clear h1 h2
    go_enter Try.func49, Try.ntmps49
    go_wp2
    go_ret
    exact ⟨ret_int HR.out.symm, rfl⟩
  have q2 : ¬ (12 : Int) < (s.size : Int) := by omega
  by_cases h3 : s = ⟨#[46]⟩
  · have HR : Hid (nf s = 1) := nf_dot h3
    have q3 : (s.toList == [46]) = true := nm_eqT h3
    clear h1 h2 h3
    go_enter Try.func49, Try.ntmps49
    go_wp2
    go_ret
    exact ⟨ret_int HR.out.symm, rfl⟩
  have q3 : (s.toList == [46]) = false := nm_eqF h3
  by_cases h4 : s = ⟨#[46, 46]⟩
  · have HR : Hid (nf s = 1) := nf_dots h4
    have q4 : (s.toList == [46, 46]) = true := nm_eqT h4
    clear h1 h2 h3 h4
    go_enter Try.func49, Try.ntmps49
    go_wp2
    go_ret
    exact ⟨ret_int HR.out.symm, rfl⟩
  have q4 : (s.toList == [46, 46]) = false := nm_eqF h4
  have HB : ∀ k, (h : k < s.size) → nmB s[k] = false → Hid (nf s = 1) := fun k hk h => nf_byte hk h
  have HG : (∀ k, (h : k < s.size) → nmB s[k] = true) → Hid (nf s = 0) := fun h => nf_ok h1 h2 h3 h4 h
  clear h1 h2 h3 h4
  go_enter Try.func49, Try.ntmps49
  go_wp2
  go_loop [3] (fun i => ∃ k : Nat, k ≤ s.size ∧ i = .int .i64 k ∧ Hid (∀ j, (h : j < s.size) → j < k → nmB s[j] = true)) (fun i => s.size - (intOf i).toNat)
  case atStart => exact ⟨0, by omega, rfl, fun j _ hj => by omega⟩
  case round =>
    obtain ⟨k, hk, rfl, hn⟩ := hrel
    by_cases hlt : k < s.size
    · have hkI : (k : Int) < (s.size : Int) := by omega
      have hC := fun w => l6NameByte (s[k].toNat : Int) w
      have hb := HB k hlt
      have hgo : nmB s[k] = true → Hid (∀ j, (h : j < s.size) → j < k + 1 → nmB s[j] = true) := fun e j hj h1 => by
        by_cases ej : j = k
        · subst ej; exact e
        · exact hn.out j hj (by omega)
      clear HB HG hn
      unfold nmB at hb hgo
      cases e : nmI (s[k].toNat : Int) with
      | false =>
        have HR := hb e
        rw [e] at hC
        clear e hb hgo
        go_wp2_with (go_at_call 68; refine (hC _).mono ?_; rintro e w' ⟨rfl, rfl⟩)
        go_ret
        exact ⟨ret_int HR.out.symm, rfl⟩
      | true =>
        have HN := hgo e
        rw [e] at hC
        clear e hb hgo
        go_wp2_with (go_at_call 68; refine (hC _).mono ?_; rintro e w' ⟨rfl, rfl⟩)
        go_round
        case rel => exact ⟨k + 1, by omega, by go_num, HN⟩
        case measure => simp [intOf]; omega
    · have hkI : ¬ (k : Int) < (s.size : Int) := by omega
      have HR := HG (fun j hj => hn.out j hj (by omega))
      clear HB HG hn
      go_wp2
      go_ret
      exact ⟨ret_int HR.out.symm, rfl⟩

set_option maxHeartbeats 1000000 in
theorem implNameFault (s : ByteArray) (w : World) :
    Calls Try.prog 51 #[.string s] w fun e w' => e = .returned (.int .i64 (nf s)) ∧ w' = w := by
  by_cases h1 : s.size < 1
  · have HR : Hid (nf s = 1) := nf_short h1
    have q1 : (s.size : Int) < 1 := by omega
    clear h1
    go_enter Try.func51, Try.ntmps51
    go_wp2
    go_ret
    exact ⟨ret_int HR.out.symm, rfl⟩
  have q1 : ¬ (s.size : Int) < 1 := by omega
  by_cases h2 : 12 < s.size
  · have HR : Hid (nf s = 1) := nf_long h2
    have q2 : (12 : Int) < (s.size : Int) := by omega
    clear h1 h2
    go_enter Try.func51, Try.ntmps51
    go_wp2
    go_ret
    exact ⟨ret_int HR.out.symm, rfl⟩
  have q2 : ¬ (12 : Int) < (s.size : Int) := by omega
  have HB : ∀ k, (h : k < s.size) → nmB s[k] = false → Hid (nf s = 1) := fun k hk h => nf_byte hk h
  have H3 : s = ⟨#[46]⟩ → Hid (nf s = 1) := fun h => nf_dot h
  have H4 : s = ⟨#[46, 46]⟩ → Hid (nf s = 1) := fun h => nf_dots h
  have HG : ¬ s = ⟨#[46]⟩ → ¬ s = ⟨#[46, 46]⟩ → (∀ k, (h : k < s.size) → nmB s[k] = true) → Hid (nf s = 0) := fun h3 h4 h => nf_ok h1 h2 h3 h4 h
  clear h1 h2
  go_enter Try.func51, Try.ntmps51
  go_wp2
  go_loop [14] (fun i => ∃ k : Nat, k ≤ s.size ∧ i = .int .i64 k ∧ Hid (∀ j, (h : j < s.size) → j < k → nmB s[j] = true)) (fun i => s.size - (intOf i).toNat)
  case atStart => exact ⟨0, by omega, rfl, fun j _ hj => by omega⟩
  case round =>
    obtain ⟨k, hk, rfl, hn⟩ := hrel
    by_cases hlt : k < s.size
    · have hkI : (k : Int) < (s.size : Int) := by omega
      have hC := fun w => isNameByte (s[k].toNat : Int) w
      have hb := HB k hlt
      have hgo : nmB s[k] = true → Hid (∀ j, (h : j < s.size) → j < k + 1 → nmB s[j] = true) := fun e j hj h1 => by
        by_cases ej : j = k
        · subst ej; exact e
        · exact hn.out j hj (by omega)
      clear HB HG hn H3 H4
      unfold nmB at hb hgo
      cases e : nmI (s[k].toNat : Int) with
      | false =>
        have HR := hb e
        rw [e] at hC
        clear e hb hgo
        go_wp2_with (go_at_call 69; refine (hC _).mono ?_; rintro e w' ⟨rfl, rfl⟩)
        go_ret
        exact ⟨ret_int HR.out.symm, rfl⟩
      | true =>
        have HN := hgo e
        rw [e] at hC
        clear e hb hgo
        go_wp2_with (go_at_call 69; refine (hC _).mono ?_; rintro e w' ⟨rfl, rfl⟩)
        go_round
        case rel => exact ⟨k + 1, by omega, by go_num, HN⟩
        case measure => simp [intOf]; omega
    · have hkI : ¬ (k : Int) < (s.size : Int) := by omega
      have HA : Hid (∀ j, (h : j < s.size) → nmB s[j] = true) := fun j hj => hn.out j hj (by omega)
      clear HB hn
      by_cases h3 : s = ⟨#[46]⟩
      · have HR := H3 h3
        have q3 : (s.toList == [46]) = true := nm_eqT h3
        clear H3 H4 HG HA h3
        go_wp2
        go_ret
        exact ⟨ret_int HR.out.symm, rfl⟩
      · have q3 : (s.toList == [46]) = false := nm_eqF h3
        by_cases h4 : s = ⟨#[46, 46]⟩
        · have HR := H4 h4
          have q4 : (s.toList == [46, 46]) = true := nm_eqT h4
          clear H3 H4 HG HA h3 h4
          go_wp2
          go_ret
          exact ⟨ret_int HR.out.symm, rfl⟩
        · have q4 : (s.toList == [46, 46]) = false := nm_eqF h4
          have HR := HG h3 h4 HA.out
          clear H3 H4 HG HA h3 h4
          go_wp2
          go_ret
          exact ⟨ret_int HR.out.symm, rfl⟩
end Go.Proofs.Ytibdlfojoafloaa
