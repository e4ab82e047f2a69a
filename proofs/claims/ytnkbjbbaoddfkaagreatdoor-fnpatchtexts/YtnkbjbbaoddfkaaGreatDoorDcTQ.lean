/- Numbers of a text: what both readers of a commit make of them. No statement is proved here. -/
import Derived.Test.YtnkbjbbaoddfkaaGreatDoorRows
import Derived.Test.YtnkbjbbaoddfkaaGreatDoorLemQ
import Derived.Test.YtnkbjbbaoddfkaaGreatDoorLFLemQ
import Derived.Test.YtnkbjbbaoddfkaaGreatDoorFiCQ
import Derived.Lib.ParseIntB
import Derived.Test.YtnkbjbbaoddfkaaGreatDoorPpMQ
import Derived.Test.YtnkbjbbaoddfkaaGreatDoorPqTQ
import Derived.Lib.SlTrimSet
namespace Go.Proofs.YtnkbjbbaoddfkaaGreatDoor.Dc

/-- What the digits spell, behind what the digits ahead spell. -/
def valF (acc : Nat) (l : List UInt8) : Nat := l.foldl (fun n c => n * 10 + (c.toNat - 48)) acc
theorem valF_cons (acc : Nat) (c : UInt8) (r : List UInt8) : valF acc (c :: r) = valF (acc * 10 + (c.toNat - 48)) r := List.foldl_cons ..
theorem valF_nil (acc : Nat) : valF acc [] = acc := List.foldl_nil ..
def Dg (c : UInt8) : Prop := 48 ≤ c.toNat ∧ c.toNat ≤ 57
theorem valF_ge (l : List UInt8) : ∀ acc : Nat, acc ≤ valF acc l := by
  induction l with
  | nil => intro acc; rw [valF_nil]; exact Nat.le_refl _
  | cons c r ih =>
    intro acc
    rw [valF_cons]
    generalize c.toNat - 48 = d
    exact Nat.le_trans (by omega) (ih (acc * 10 + d))
theorem valF_app (c : UInt8) (l : List UInt8) : ∀ acc : Nat, valF acc (l ++ [c]) = valF acc l * 10 + (c.toNat - 48) := by
  induction l with
  | nil => intro acc; rw [List.nil_append, valF_cons, valF_nil, valF_nil]
  | cons x r ih => intro acc; rw [List.cons_append, valF_cons, valF_cons, ih]
theorem dg_of {n : Nat} (h : n < 10) : Dg (UInt8.ofNat (48 + n)) ∧ (UInt8.ofNat (48 + n)).toNat - 48 = n := by
  have e : (UInt8.ofNat (48 + n)).toNat = 48 + n := by
    rw [UInt8.toNat_ofNat']
    omega
  unfold Dg
  rw [e]
  omega
theorem val_dec : ∀ (f n : Nat), n ≤ f → valF 0 (Lib.decDigits n) = n ∧ (∀ c ∈ Lib.decDigits n, Dg c) ∧ Lib.decDigits n ≠ [] := by
  intro f
  induction f with
  | zero =>
    intro n h
    obtain rfl : n = 0 := by omega
    rw [Lib.decDigits_one (by omega)]
    refine ⟨by decide, fun c hc => ?_, by simp⟩
    obtain rfl := List.mem_singleton.1 hc
    exact (dg_of (by omega)).1
  | succ f ih =>
    intro n h
    by_cases h1 : n < 10
    · rw [Lib.decDigits_one h1]
      refine ⟨?_, fun c hc => ?_, by simp⟩
      · rw [valF_cons, valF_nil, (dg_of h1).2]
        omega
      · obtain rfl := List.mem_singleton.1 hc
        exact (dg_of h1).1
    · obtain ⟨i1, i2, i3⟩ := ih (n / 10) (by omega)
      have hd := dg_of (n := n % 10) (by omega)
      rw [Lib.decDigits, dif_neg h1]
      refine ⟨?_, fun c hc => ?_, by simp⟩
      · rw [valF_app, i1, hd.2]
        omega
      · rcases List.mem_append.1 hc with q | q
        · exact i2 c q
        · obtain rfl := List.mem_singleton.1 q
          exact hd.1
theorem pM_ok (M : Nat) (hM : 1000000000 ≤ M) : ∀ (l : List UInt8) (acc : Nat), (∀ c ∈ l, Dg c) → valF acc l ≤ 1000000000 → Lib.parseUintM M acc l = .ok (valF acc l)
  | [], acc, _, _ => by rw [valF_nil]; unfold Lib.parseUintM; rfl
  | c :: r, acc, hd, hv => by
    have h1 := hd c List.mem_cons_self
    rw [valF_cons] at hv ⊢
    have g := valF_ge r (acc * 10 + (c.toNat - 48))
    unfold Lib.parseUintM
    rw [if_pos (show 48 ≤ c.toNat ∧ c.toNat ≤ 57 from h1), if_neg (by omega), if_neg (by omega)]
    exact pM_ok M hM r _ (fun x hx => hd x (List.mem_cons_of_mem _ hx)) hv
/-- The program's number of a text. -/
def pI (v : List UInt8) : Option Int := match Lib.parseIntB 64 v with
  | .ok n => some n
  | _ => none
theorem it_dec (n : Nat) : (itB (n : Int)).data.toList = Lib.decDigits n := by
  show Lib.itoa (n : Int) = _
  unfold Lib.itoa
  rw [if_neg (by omega)]
  simp
theorem pI_dec (n : Int) (h0 : 0 ≤ n) (h1 : n ≤ 1000000000) : pI (itB n).data.toList = some n := by
  obtain ⟨m, rfl⟩ := Int.eq_ofNat_of_zero_le h0
  rw [it_dec]
  obtain ⟨v1, v2, v3⟩ := val_dec m m (Nat.le_refl _)
  unfold pI Lib.parseIntB
  cases e : Lib.decDigits m with
  | nil => exact absurd e v3
  | cons c r =>
    rw [e] at v1 v2
    have hc := v2 c List.mem_cons_self
    have hc' : 48 ≤ c.toNat := hc.1
    have hu : Lib.parseUintB 64 (c :: r) = .ok m := by
      unfold Lib.parseUintB
      rw [if_neg (by simp), pM_ok _ (by decide) _ _ v2 (by omega), v1]
    have n1 : ¬ (c.toNat = 43 ∨ c.toNat = 45) := by omega
    have n2 : ¬ c.toNat = 45 := by omega
    have n3 : ¬ 2 ^ (64 - 1) ≤ m := by
      have : (2 : Nat) ^ (64 - 1) = 9223372036854775808 := by decide
      omega
    dsimp only
    rw [if_neg n1, hu]
    dsimp only
    rw [if_neg (fun q => n3 q.2), if_neg (fun q => n2 q.1), if_neg n2]
/-- The specification's number of a text. -/
def tI (v : List UInt8) : Option Int := if 1 ≤ v.length ∧ v.length ≤ 10 ∧ (v.all fun c => decide (48 ≤ c.toNat ∧ c.toNat ≤ 57)) = true ∧ Lib.decDigits (valF 0 v) = v then some (valF 0 v : Nat) else none
theorem tI_sound (v : List UInt8) (n : Int) (h : tI v = some n) : itB n = mkB v := by
  unfold tI at h
  split at h
  · rename_i q
    obtain rfl := Option.some.inj h
    have e := it_dec (valF 0 v)
    rw [q.2.2.2] at e
    exact WideShapes.bytes_inj (e.trans (mkB_data v).symm)
  · cases h
theorem tI_dec (n : Int) (h0 : 0 ≤ n) (h1 : n ≤ 1000000000) : tI (itB n).data.toList = some n := by
  have hz := it_size h0 h1
  obtain ⟨m, rfl⟩ := Int.eq_ofNat_of_zero_le h0
  obtain ⟨v1, v2, v3⟩ := val_dec m m (Nat.le_refl _)
  have hl : (itB (m : Int)).data.toList.length ≤ 10 := by rw [size_eq]; exact hz
  rw [it_dec] at hl ⊢
  unfold tI
  rw [if_pos ⟨List.length_pos_iff.2 v3, hl, List.all_eq_true.2 fun c hc => decide_eq_true (v2 c hc), by rw [v1]⟩, v1]
end Go.Proofs.YtnkbjbbaoddfkaaGreatDoor.Dc
/- Numbers of a patch: what the program's reader makes of the digits. No statement is proved here. -/
set_option linter.unusedVariables false
namespace Go.Proofs.YtnkbjbbaoddfkaaGreatDoor.Pp
open Go.ChangeShapes Go.WideShapes Go.ChangeAt Go.RowKit
open Go.Proofs.YtnkbjbbaoddfkaaGreatDoor.Dc (pI valF)

def cut10s : List UInt8 := [48, 49, 50, 51, 52, 53, 54, 55, 56, 57]
set_option maxRecDepth 20000 in
theorem dg_cut (b : UInt8) : cut10s.contains b = isDg b := by
  obtain ⟨x⟩ := b
  revert x
  decide
theorem drop_dgs : ∀ l : List UInt8, Lib.trimLeftS l cut10s = l.drop (dgs l).length := by
  intro l
  unfold Lib.trimLeftS dgs
  induction l with
  | nil => rfl
  | cons c r ih =>
    rw [List.dropWhile_cons, List.takeWhile_cons, dg_cut]
    cases isDg c with
    | true => simpa using ih
    | false => simp
theorem take_dgs (l : List UInt8) : l.take (dgs l).length = dgs l := by
  unfold dgs
  induction l with
  | nil => rfl
  | cons c r ih =>
    rw [List.takeWhile_cons]
    cases isDg c with
    | true => simpa using ih
    | false => simp
theorem dgs_le (l : List UInt8) : (dgs l).length ≤ l.length := by
  have := congrArg List.length (take_dgs l)
  rw [List.length_take] at this
  omega
theorem isDg_bd {c : UInt8} (h : isDg c = true) : 48 ≤ c.toNat ∧ c.toNat ≤ 57 := of_decide_eq_true h
theorem byte_of {c : UInt8} (h : isDg c = true) : UInt8.ofNat (48 + (c.toNat - 48)) = c := by
  have := isDg_bd h
  have e : 48 + (c.toNat - 48) = c.toNat := by omega
  rw [e]
  simp
theorem dec_val : ∀ (n : Nat) (d : List UInt8), d.length = n → (∀ x ∈ d, isDg x = true) → d ≠ [] → d.head? ≠ some 48 → 1 ≤ dval d ∧ Lib.decDigits (dval d) = d := by
  intro n
  induction n with
  | zero => intro d h _ hd _; exact absurd (List.length_eq_zero_iff.1 h) hd
  | succ n ih =>
    intro d hl ha hd hh
    obtain ⟨e, c, rfl⟩ : ∃ e c, d = e ++ [c] := ⟨d.dropLast, d.getLast hd, (List.dropLast_concat_getLast hd).symm⟩
    have hc := ha c (by simp)
    have hcb := isDg_bd hc
    rw [dval_snoc]
    cases he : e with
    | nil =>
      subst he
      have hne : c ≠ 48 := fun q => hh (by rw [q]; rfl)
      have h48 : ¬ c.toNat = 48 := fun q => hne (UInt8.toNat_inj.1 (by rw [q]; rfl))
      have z : dval [] = 0 := rfl
      rw [z]
      refine ⟨by omega, ?_⟩
      rw [Lib.decDigits_one (by omega)]
      have e0 : 48 + (0 * 10 + (c.toNat - 48)) = 48 + (c.toNat - 48) := by omega
      rw [e0, byte_of hc]; rfl
    | cons y ys =>
      have hen : e ≠ [] := by rw [he]; simp
      have hle : e.length = n := by simpa using hl
      have hhe : e.head? ≠ some 48 := by rw [he] at hh ⊢; simpa using hh
      obtain ⟨i1, i2⟩ := ih e hle (fun x hx => ha x (by simp [hx])) hen hhe
      rw [← he]
      refine ⟨by omega, ?_⟩
      rw [Lib.decDigits, dif_neg (by omega)]
      have e1 : (dval e * 10 + (c.toNat - 48)) / 10 = dval e := by omega
      have e2 : (dval e * 10 + (c.toNat - 48)) % 10 = c.toNat - 48 := by omega
      rw [e1, e2, i2, byte_of hc]
theorem dec_zero {r : List UInt8} (ha : ∀ x ∈ r, isDg x = true) (hr : r ≠ []) : ¬ Lib.decDigits (dval (48 :: r)) = 48 :: r := by
  intro h
  have e : dval (48 :: r) = dval r := by unfold dval; rw [List.foldl_cons]; rfl
  have b := dval_bd r ha
  have hl : 0 < r.length := List.length_pos_iff.2 hr
  obtain ⟨k, hk⟩ : ∃ k, r.length = k + 1 := ⟨r.length - 1, by omega⟩
  rw [hk] at b
  have := dec_len k (dval r) b
  rw [e] at h
  have := congrArg List.length h
  rw [List.length_cons] at this
  omega
theorem val_eq (d : List UInt8) : valF 0 d = dval d := rfl
/-- Up to four digits are read. -/
theorem pI_four {d : List UInt8} (ha : ∀ x ∈ d, isDg x = true) (hd : d ≠ []) (hl : d.length ≤ 4) : pI d = some ((dval d : Nat) : Int) := by
  have hb := dval_bd d ha
  have hp : (10 : Nat) ^ d.length ≤ 10 ^ 4 := Nat.pow_le_pow_right (by decide) hl
  have hp4 : (10 : Nat) ^ 4 = 10000 := by decide
  unfold pI Lib.parseIntB
  cases e : d with
  | nil => exact absurd e hd
  | cons c r =>
    rw [← e]
    have hc := isDg_bd (ha c (by rw [e]; simp))
    have hu : Lib.parseUintB 64 d = .ok (dval d) := by
      unfold Lib.parseUintB
      rw [if_neg hd, Dc.pM_ok _ (by decide) _ _ (fun x hx => isDg_bd (ha x hx)) (by rw [val_eq]; omega), val_eq]
    have n1 : ¬ (c.toNat = 43 ∨ c.toNat = 45) := by omega
    have n2 : ¬ c.toNat = 45 := by omega
    have n3 : ¬ 2 ^ (64 - 1) ≤ dval d := by
      have : (2 : Nat) ^ (64 - 1) = 9223372036854775808 := by decide
      omega
    rw [e] at hu n3 ⊢
    dsimp only
    rw [if_neg n1, hu]
    dsimp only
    rw [if_neg (fun q => n3 q.2), if_neg (fun q => n2 q.1), if_neg n2]
/-- A number is right where its digits are written so. -/
theorem okN_iff (l : List UInt8) (h1 : dgs l ≠ []) (h4 : (dgs l).length ≤ 4) : okN l = true ↔ Lib.decDigits (dval (dgs l)) = dgs l := by
  have ha := all_dgs l
  have hl : 0 < (dgs l).length := List.length_pos_iff.2 h1
  have hh : l.head? = (dgs l).head? := by
    cases l with
    | nil => rfl
    | cons c r =>
      unfold dgs at h1 ⊢
      rw [List.takeWhile_cons] at h1 ⊢
      cases e : isDg c with
      | true => rfl
      | false => rw [e] at h1; simp at h1
  unfold okN
  rw [decide_eq_true_eq, hh]
  constructor
  · rintro ⟨_, _, h3⟩
    by_cases q : (dgs l).head? = some 48
    · have hl1 : (dgs l).length = 1 := by
        by_cases q1 : 1 < (dgs l).length
        · exact absurd ⟨q1, q⟩ h3
        · omega
      obtain ⟨c, hc⟩ := List.length_eq_one_iff.1 hl1
      rw [hc] at q ⊢
      obtain rfl : c = 48 := by simpa using q
      have z : dval [48] = 0 := rfl
      rw [z, Lib.decDigits_one (by omega)]
      rfl
    · exact (dec_val _ _ rfl ha h1 q).2
  · intro h
    refine ⟨hl, h4, fun q => ?_⟩
    cases e : dgs l with
    | nil => exact h1 e
    | cons c r =>
      rw [e] at q h ha
      obtain rfl : c = 48 := by simpa using q.2
      exact dec_zero (fun x hx => ha x (List.mem_cons_of_mem _ hx)) (fun k => by rw [k] at q; simp at q) h
end Go.Proofs.YtnkbjbbaoddfkaaGreatDoor.Pp
