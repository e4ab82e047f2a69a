/- Numbers of a text: what both readers of a commit make of them. No statement is proved here. -/
import Derived.Test.YtbghdelpnodijaaDoorRows
import Derived.Test.YtbghdelpnodijaaDoorLem
import Derived.Test.YtbghdelpnodijaaDoorLFLem
import Derived.Test.YtbghdelpnodijaaDoorSplLem
import Derived.Test.YtbghdelpnodijaaDoorFiC
import Derived.Lib.ParseIntB
namespace Go.Proofs.YtbghdelpnodijaaDoor.Dc

/-- What the digits spell, behind what the digits ahead spell. -/
def valF (acc : Nat) (l : List UInt8) : Nat := l.foldl (fun n c => n * 10 + (c.toNat - 48)) acc
theorem valF_cons (acc : Nat) (c : UInt8) (r : List UInt8) : valF acc (c :: r) = valF (acc * 10 + (c.toNat - 48)) r := List.foldl_cons ..
theorem valF_nil (acc : Nat) : valF acc [] = acc := List.foldl_nil ..
def Dg (c : UInt8) : Prop := 48 ≤ c.toNat ∧ c.toNat ≤ 57
theorem valF_ge (l : List UInt8) : ∀ acc : Nat, acc ≤ valF acc l := by
  induction l with
  | nil => intro acc; rw [valF_nil]; exact Nat.le_refl _
  | cons c r ih =>
    intro acc
    rw [valF_cons]
    generalize c.toNat - 48 = d
    exact Nat.le_trans (by omega) (ih (acc * 10 + d))
theorem valF_app (c : UInt8) (l : List UInt8) : ∀ acc : Nat, valF acc (l ++ [c]) = valF acc l * 10 + (c.toNat - 48) := by
  induction l with
  | nil => intro acc; rw [List.nil_append, valF_cons, valF_nil, valF_nil]
  | cons x r ih => intro acc; rw [List.cons_append, valF_cons, valF_cons, ih]
theorem dg_of {n : Nat} (h : n < 10) : Dg (UInt8.ofNat (48 + n)) ∧ (UInt8.ofNat (48 + n)).toNat - 48 = n := by
  have e : (UInt8.ofNat (48 + n)).toNat = 48 + n := by
    rw [UInt8.toNat_ofNat']
    omega
  unfold Dg
  rw [e]
  omega
theorem val_dec : ∀ (f n : Nat), n ≤ f → valF 0 (Lib.decDigits n) = n ∧ (∀ c ∈ Lib.decDigits n, Dg c) ∧ Lib.decDigits n ≠ [] := by
  intro f
  induction f with
  | zero =>
    intro n h
    obtain rfl : n = 0 := by omega
    rw [Lib.decDigits_one (by omega)]
    refine ⟨by decide, fun c hc => ?_, by simp⟩
    obtain rfl := List.mem_singleton.1 hc
    exact (dg_of (by omega)).1
  | succ f ih =>
    intro n h
    by_cases h1 : n < 10
    · rw [Lib.decDigits_one h1]
      refine ⟨?_, fun c hc => ?_, by simp⟩
      · rw [valF_cons, valF_nil, (dg_of h1).2]
        omega
      · obtain rfl := List.mem_singleton.1 hc
        exact (dg_of h1).1
    · obtain ⟨i1, i2, i3⟩ := ih (n / 10) (by omega)
      have hd := dg_of (n := n % 10) (by omega)
      rw [Lib.decDigits, dif_neg h1]
      refine ⟨?_, fun c hc => ?_, by simp⟩
      · rw [valF_app, i1, hd.2]
        omega
      · rcases List.mem_append.1 hc with q | q
        · exact i2 c q
        · obtain rfl := List.mem_singleton.1 q
          exact hd.1
theorem pM_ok (M : Nat) (hM : 1000000000 ≤ M) : ∀ (l : List UInt8) (acc : Nat), (∀ c ∈ l, Dg c) → valF acc l ≤ 1000000000 → Lib.parseUintM M acc l = .ok (valF acc l)
  | [], acc, _, _ => by rw [valF_nil]; unfold Lib.parseUintM; rfl
  | c :: r, acc, hd, hv => by
    have h1 := hd c List.mem_cons_self
    rw [valF_cons] at hv ⊢
    have g := valF_ge r (acc * 10 + (c.toNat - 48))
    unfold Lib.parseUintM
    rw [if_pos (show 48 ≤ c.toNat ∧ c.toNat ≤ 57 from h1), if_neg (by omega), if_neg (by omega)]
    exact pM_ok M hM r _ (fun x hx => hd x (List.mem_cons_of_mem _ hx)) hv
/-- The program's number of a text. -/
def pI (v : List UInt8) : Option Int := match Lib.parseIntB 64 v with
  | .ok n => some n
  | _ => none
theorem it_dec (n : Nat) : (itB (n : Int)).data.toList = Lib.decDigits n := by
  show Lib.itoa (n : Int) = _
  unfold Lib.itoa
  rw [if_neg (by omega)]
  simp
theorem pI_dec (n : Int) (h0 : 0 ≤ n) (h1 : n ≤ 1000000000) : pI (itB n).data.toList = some n := by
  obtain ⟨m, rfl⟩ := Int.eq_ofNat_of_zero_le h0
  rw [it_dec]
  obtain ⟨v1, v2, v3⟩ := val_dec m m (Nat.le_refl _)
  unfold pI Lib.parseIntB
  cases e : Lib.decDigits m with
  | nil => exact absurd e v3
  | cons c r =>
    rw [e] at v1 v2
    have hc := v2 c List.mem_cons_self
    have hc' : 48 ≤ c.toNat := hc.1
    have hu : Lib.parseUintB 64 (c :: r) = .ok m := by
      unfold Lib.parseUintB
      rw [if_neg (by simp), pM_ok _ (by decide) _ _ v2 (by omega), v1]
    have n1 : ¬ (c.toNat = 43 ∨ c.toNat = 45) := by omega
    have n2 : ¬ c.toNat = 45 := by omega
    have n3 : ¬ 2 ^ (64 - 1) ≤ m := by
      have : (2 : Nat) ^ (64 - 1) = 9223372036854775808 := by decide
      omega
    dsimp only
    rw [if_neg n1, hu]
    dsimp only
    rw [if_neg (fun q => n3 q.2), if_neg (fun q => n2 q.1), if_neg n2]
/-- The specification's number of a text. -/
def tI (v : List UInt8) : Option Int := if 1 ≤ v.length ∧ v.length ≤ 10 ∧ (v.all fun c => decide (48 ≤ c.toNat ∧ c.toNat ≤ 57)) = true ∧ Lib.decDigits (valF 0 v) = v then some (valF 0 v : Nat) else none
theorem tI_sound (v : List UInt8) (n : Int) (h : tI v = some n) : itB n = mkB v := by
  unfold tI at h
  split at h
  · rename_i q
    obtain rfl := Option.some.inj h
    have e := it_dec (valF 0 v)
    rw [q.2.2.2] at e
    exact WideShapes.bytes_inj (e.trans (mkB_data v).symm)
  · cases h
theorem tI_dec (n : Int) (h0 : 0 ≤ n) (h1 : n ≤ 1000000000) : tI (itB n).data.toList = some n := by
  have hz := it_size h0 h1
  obtain ⟨m, rfl⟩ := Int.eq_ofNat_of_zero_le h0
  obtain ⟨v1, v2, v3⟩ := val_dec m m (Nat.le_refl _)
  have hl : (itB (m : Int)).data.toList.length ≤ 10 := by rw [size_eq]; exact hz
  rw [it_dec] at hl ⊢
  unfold tI
  rw [if_pos ⟨List.length_pos_iff.2 v3, hl, List.all_eq_true.2 fun c hc => decide_eq_true (v2 c hc), by rw [v1]⟩, v1]
end Go.Proofs.YtbghdelpnodijaaDoor.Dc
