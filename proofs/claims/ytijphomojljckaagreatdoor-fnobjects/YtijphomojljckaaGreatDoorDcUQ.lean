/- The contract of spec.l6After. No statement is proved here. -/
import Derived.Test.YtijphomojljckaaGreatDoorRows
import Derived.Test.YtijphomojljckaaGreatDoorLemQ
import Derived.Test.YtijphomojljckaaGreatDoorLFLemQ
import Derived.WalkKit
import Derived.ProofKit
import Derived.Below
import Derived.WalkSpells
import Derived.Test.YtijphomojljckaaGreatDoorFpSQ
import Derived.Test.YtijphomojljckaaGreatDoorDcLQ
import Derived.Test.YtijphomojljckaaGreatDoorCutLQ
import Derived.Test.YtijphomojljckaaGreatDoorIxBQ
import Derived.Test.YtijphomojljckaaGreatDoorWcCQ
namespace Go.Proofs.YtijphomojljckaaGreatDoor.Dc
open Go.ChangeShapes Go.WideShapes Go.ChangeAt Go.RowKit

/-- How l6After ends: what is behind a word and a blank, or that the line does not begin so. -/
def AF (y wd : ByteArray) (e : Ending) : Prop := (∃ v : ByteArray, e = .returned (.tuple #[.string v, .bool true]) ∧ y.data.toList = wd.data.toList ++ 32 :: v.data.toList) ∨
  (e = .returned (.tuple #[.string ⟨#[]⟩, .bool false]) ∧ ∀ v, ¬ y.data.toList = wd.data.toList ++ 32 :: v)
theorem af_short {y wd : ByteArray} (h : y.size < wd.size + 1) : ∀ v, ¬ y.data.toList = wd.data.toList ++ 32 :: v := fun v e => by
  have := congrArg List.length e
  simp at this
  omega
theorem af_hit {y wd : ByteArray} (h : ((y.extract 0 (wd.size + 1)).toList == (wd ++ ⟨#[32]⟩).toList) = true) : y.data.toList = wd.data.toList ++ 32 :: (y.extract (wd.size + 1) y.size).data.toList := by
  have e : (y.extract 0 (wd.size + 1)).toList = (wd ++ ⟨#[32]⟩).toList := eq_of_beq h
  rw [ByteArray.toList_eq, ByteArray.toList_eq, ByteArray.data_append] at e
  have a1 : (y.extract 0 (wd.size + 1)).data.toList = y.data.toList.take (wd.size + 1) := by rw [extract_data]; simp
  have a2 : (y.extract (wd.size + 1) y.size).data.toList = y.data.toList.drop (wd.size + 1) := by rw [extract_data, List.take_of_length_le (by rw [List.length_drop, size_eq]; omega)]
  rw [a1] at e
  rw [a2]
  have k := List.take_append_drop (wd.size + 1) y.data.toList
  rw [e] at k
  simpa using k.symm
theorem af_miss {y wd : ByteArray} (h : ((y.extract 0 (wd.size + 1)).toList == (wd ++ ⟨#[32]⟩).toList) = false) : ∀ v, ¬ y.data.toList = wd.data.toList ++ 32 :: v := fun v e => by
  have q : (y.extract 0 (wd.size + 1)).toList = (wd ++ ⟨#[32]⟩).toList := by
    rw [ByteArray.toList_eq, ByteArray.toList_eq, ByteArray.data_append]
    have a1 : (y.extract 0 (wd.size + 1)).data.toList = y.data.toList.take (wd.size + 1) := by rw [extract_data]; simp
    rw [a1, e, show wd.data.toList ++ 32 :: v = (wd.data.toList ++ [32]) ++ v by simp, List.take_left' (by simp)]
    simp
  rw [q] at h
  simp at h
set_option maxRecDepth 20000 in
set_option maxHeartbeats 1000000 in
theorem l6AfterC (y wd : ByteArray) (w : World) (hw : wd.size ≤ 10) :
    Calls Tryz.prog 56 #[.string y, .string wd] w fun e w' => Below w.heap.size w w' ∧ AF y wd e := by
  by_cases h1 : y.size < wd.size + 1
  · have q1 : (y.size : Int) < (wd.size : Int) + 1 := by omega
    have HA : Hid (∀ v, ¬ y.data.toList = wd.data.toList ++ 32 :: v) := af_short h1
    go_enter Tryz.func56, Tryz.ntmps56
    go_wp2
    go_ret2
    exact ⟨Below.refl _ _, .inr ⟨rfl, HA.out⟩⟩
  · have q1 : ¬ (y.size : Int) < (wd.size : Int) + 1 := by omega
    have hq : (wd ++ (⟨#[32]⟩ : ByteArray)).size = wd.size + 1 := by rw [ByteArray.size_append]; rfl
    cases e : ((y.extract 0 (wd.size + 1)).toList == (wd ++ (⟨#[32]⟩ : ByteArray)).toList) with
    | false =>
      have HA : Hid (∀ v, ¬ y.data.toList = wd.data.toList ++ 32 :: v) := af_miss e
      go_enter Tryz.func56, Tryz.ntmps56
      go_wp2
      go_ret2
      exact ⟨Below.refl _ _, .inr ⟨rfl, HA.out⟩⟩
    | true =>
      have HA : Hid (y.data.toList = wd.data.toList ++ 32 :: (y.extract (wd.size + 1) y.size).data.toList) := af_hit e
      go_enter Tryz.func56, Tryz.ntmps56
      go_wp2
      go_ret2
      exact ⟨Below.refl _ _, .inl ⟨_, rfl, HA.out⟩⟩
end Go.Proofs.YtijphomojljckaaGreatDoor.Dc
/- The contract of spec.l6Time. No statement is proved here. -/
namespace Go.Proofs.YtijphomojljckaaGreatDoor.Dc
open Go.ChangeShapes Go.WideShapes Go.ChangeAt Go.RowKit

/-- How l6Time ends. -/
def TM (t : ByteArray) (e : Ending) : Prop := (∃ n : Int, tI t.data.toList = some n ∧ e = .returned (.tuple #[.int .i64 n, .bool true])) ∨ (tI t.data.toList = none ∧ ∃ n : Int, e = .returned (.tuple #[.int .i64 n, .bool false]))
theorem tI_len {v : List UInt8} (h : v.length < 1 ∨ 10 < v.length) : tI v = none := if_neg fun q => by omega
theorem tI_bad {v : List UInt8} {k : Nat} (hk : k < v.length) (h : ¬ Dg v[k]) : tI v = none := if_neg fun q => by
  have hq := List.all_eq_true.1 q.2.2.1 _ (List.getElem_mem hk)
  have hq' : 48 ≤ v[k].toNat ∧ v[k].toNat ≤ 57 := of_decide_eq_true hq
  exact h hq'
theorem tI_all {v : List UInt8} (h1 : 1 ≤ v.length) (h2 : v.length ≤ 10) (hd : ∀ c ∈ v, Dg c) : tI v = (if Lib.decDigits (valF 0 v) = v then some ((valF 0 v : Nat) : Int) else none : Option Int) := by
  unfold tI
  by_cases e : Lib.decDigits (valF 0 v) = v
  · rw [if_pos e, if_pos ⟨h1, h2, List.all_eq_true.2 fun c hc => decide_eq_true (hd c hc), e⟩]
  · rw [if_neg e, if_neg fun q => e q.2.2.2]
theorem val_take (v : List UInt8) (k : Nat) (hk : k < v.length) : valF 0 (v.take (k + 1)) = valF 0 (v.take k) * 10 + (v[k].toNat - 48) := by
  rw [List.take_succ_eq_append_getElem hk, valF_app]
theorem val_lt (v : List UInt8) : ∀ k, k ≤ v.length → (∀ j, (h : j < v.length) → j < k → Dg v[j]) → valF 0 (v.take k) < 10 ^ k
  | 0, _, _ => by rw [List.take_zero, valF_nil]; decide
  | k + 1, hk, hd => by
    have ih := val_lt v k (by omega) (fun j hj h => hd j hj (by omega))
    have d := (hd k (by omega) (by omega)).2
    rw [val_take v k (by omega), Nat.pow_succ]
    omega
theorem pow_le10 {k : Nat} (h : k ≤ 10) : 10 ^ k ≤ 10000000000 := by
  have := Nat.pow_le_pow_right (n := 10) (by decide) h
  exact this
theorem at_byte (t : ByteArray) (k : Nat) (h : k < t.size) : t.data.toList[k]'(by rw [size_eq]; exact h) = t[k] := by simp [ByteArray.getElem_eq_getElem_data]
set_option maxRecDepth 20000 in
set_option maxHeartbeats 2000000 in
theorem l6TimeC (t : ByteArray) (w : World) (ht : t.size ≤ 1048576) :
    Calls Tryz.prog 57 #[.string t] w fun e w' => Below w.heap.size w w' ∧ TM t e := by
  by_cases h1 : t.size < 1
  · have q1 : (t.size : Int) < 1 := by omega
    have HA : Hid (tI t.data.toList = none) := tI_len (.inl (by rw [size_eq]; exact h1))
    go_enter Tryz.func57, Tryz.ntmps57
    go_wp2
    go_ret2
    exact ⟨Below.refl _ _, .inr ⟨HA.out, _, rfl⟩⟩
  have q1 : ¬ (t.size : Int) < 1 := by omega
  by_cases h2 : 10 < t.size
  · have q2 : (10 : Int) < (t.size : Int) := by omega
    have HA : Hid (tI t.data.toList = none) := tI_len (.inr (by rw [size_eq]; exact h2))
    go_enter Tryz.func57, Tryz.ntmps57
    go_wp2
    go_ret2
    exact ⟨Below.refl _ _, .inr ⟨HA.out, _, rfl⟩⟩
  have q2 : ¬ (10 : Int) < (t.size : Int) := by omega
  have HB : ∀ k, (h : k < t.size) → ¬ Dg t[k] → Hid (tI t.data.toList = none) := fun k hk h => tI_bad (k := k) (by rw [size_eq]; exact hk) (by rw [at_byte t k hk]; exact h)
  have HV : ∀ k, (h : k < t.size) → valF 0 (t.data.toList.take (k + 1)) = valF 0 (t.data.toList.take k) * 10 + (t[k].toNat - 48) := fun k hk => by rw [val_take _ k (by rw [size_eq]; exact hk), at_byte t k hk]
  have HL : ∀ k, k ≤ t.size → (∀ j, (h : j < t.size) → j < k → Dg t[j]) → valF 0 (t.data.toList.take k) < 10000000000 := fun k hk hd => Nat.lt_of_lt_of_le (val_lt _ k (by rw [size_eq]; exact hk) (fun j hj h => by
    have hj' : j < t.size := by rw [size_eq] at hj; exact hj
    rw [at_byte t j hj']; exact hd j hj' h)) (pow_le10 (by omega))
  have HE : (∀ j, (h : j < t.size) → Dg t[j]) → tI t.data.toList = (if Lib.decDigits (valF 0 t.data.toList) = t.data.toList then some ((valF 0 t.data.toList : Nat) : Int) else none : Option Int) := fun hd => tI_all (by rw [size_eq]; omega) (by rw [size_eq]; omega) (fun c hc => by
    obtain ⟨j, hj, e⟩ := List.mem_iff_getElem.1 hc
    have hj' : j < t.size := by rw [size_eq] at hj; exact hj
    rw [← e, at_byte t j hj']; exact hd j hj')
  have HF : t.data.toList.take t.size = t.data.toList := List.take_of_length_le (by rw [size_eq]; exact Nat.le_refl _)
  obtain ⟨V, hV⟩ : ∃ V : Nat → Nat, (fun k => valF 0 (t.data.toList.take k)) = V := ⟨_, rfl⟩
  have hVk : ∀ k, valF 0 (t.data.toList.take k) = V k := fun k => by rw [← hV]
  have hV0 : V 0 = 0 := by rw [← hVk, List.take_zero, valF_nil]
  simp only [hVk] at HV HL
  have HVT : valF 0 t.data.toList = V t.size := by rw [← hVk, HF]
  rw [HVT] at HE
  clear hV hVk HF HVT h1 h2
  go_enter Tryz.func57, Tryz.ntmps57
  go_wp2
  go_loopw [4, 5] (fun a i wr => ∃ k : Nat, k ≤ t.size ∧ i = .int .i64 k ∧ a = .int .i64 (V k : Nat) ∧ Hid (∀ j, (h : j < t.size) → j < k → Dg t[j]) ∧ Below w.heap.size w wr) (fun _ i _ => t.size - (intOf i).toNat)
  case atStart => exact ⟨0, by omega, rfl, by rw [hV0]; rfl, fun j _ hj => by omega, Below.refl _ _⟩
  case round =>
    obtain ⟨k, hk, rfl, rfl, hn, hbel⟩ := hrel
    have hVb := HL k hk hn.out
    by_cases hlt : k < t.size
    · have hkI : (k : Int) < (t.size : Int) := by omega
      have hb := HB k hlt
      have hv := HV k hlt
      have hgo : Dg t[k] → Hid (∀ j, (h : j < t.size) → j < k + 1 → Dg t[j]) := fun e j hj h1 => by
        by_cases ej : j = k
        · subst ej; exact e
        · exact hn.out j hj (by omega)
      clear HB HV HL HE hn
      by_cases e1 : (t[k].toNat : Int) < 48
      · have HR := hb (fun q => by have := q.1; omega)
        clear hb hgo
        go_wp2
        go_ret2
        exact ⟨hbel, .inr ⟨HR.out, _, rfl⟩⟩
      by_cases e2 : (57 : Int) < (t[k].toNat : Int)
      · have HR := hb (fun q => by have := q.2; omega)
        clear hb hgo
        go_wp2
        go_ret2
        exact ⟨hbel, .inr ⟨HR.out, _, rfl⟩⟩
      have HN := hgo ⟨by omega, by omega⟩
      have HV1 : Hid (((V (k + 1) : Nat) : Int) = (V k : Nat) * 10 + ((t[k].toNat : Int) - 48)) := by show _ = _; rw [hv]; omega
      have w1 : IntKind.i64.wrap ((V k : Nat) * 10 : Int) = (V k : Nat) * 10 := by rw [IntKind.wrap_i64]; omega
      have w2 : IntKind.u8.wrap ((t[k].toNat : Int) - 48) = (t[k].toNat : Int) - 48 := by rw [IntKind.wrap_u8]; omega
      have w3 : IntKind.i64.wrap ((t[k].toNat : Int) - 48) = (t[k].toNat : Int) - 48 := by rw [IntKind.wrap_i64]; omega
      have w4 : IntKind.i64.wrap ((V k : Nat) * 10 + ((t[k].toNat : Int) - 48)) = (V k : Nat) * 10 + ((t[k].toNat : Int) - 48) := by rw [IntKind.wrap_i64]; omega
      clear hb hgo hv
      go_wp2
      go_roundw
      case rel => exact ⟨k + 1, by omega, by go_num, by rw [HV1.out], HN, hbel⟩
      case measure => simp [intOf]; omega
    · have hkI : ¬ (k : Int) < (t.size : Int) := by omega
      obtain rfl : k = t.size := by omega
      have hE := HE (fun j hj => hn.out j hj hj)
      have hD := fun w => l3DigitsL (V t.size) (V t.size) (Nat.le_refl _) (by omega) w
      have hS : Hid ((Lib.decDigits (V t.size) = t.data.toList) ↔ ((decB (V t.size)).toList == t.toList) = true) := by
        show _ ↔ _
        rw [beq_iff_eq, ByteArray.toList_eq, ByteArray.toList_eq]
        exact Iff.rfl
      obtain ⟨n, hVn⟩ : ∃ n, V t.size = n := ⟨_, rfl⟩
      rw [hVn] at hE hD hS hVb ⊢
      obtain ⟨D, hDD⟩ : ∃ D, decB n = D := ⟨_, rfl⟩
      rw [hDD] at hS
      simp only [hDD] at hD
      have HE' : Hid (tI t.data.toList = (if Lib.decDigits n = t.data.toList then some ((n : Nat) : Int) else none : Option Int)) := hE
      clear HB HV HL HE hn hE hDD hVn hV0
      go_wp2_with fail
      refine (hD _).mono ?_; rintro e w1 ⟨rfl, b1⟩
      have HB1 : Hid (Below w.heap.size w w1) := hbel.trans (b1.mono hbel.size)
      clear hD b1 hbel
      cases eq : (D.toList == t.toList) with
      | true =>
        have HT : Hid (tI t.data.toList = some (n : Int)) := by show _ = _; rw [HE'.out, if_pos (hS.out.2 eq)]
        go_wp2
        go_ret2
        exact ⟨HB1.out, .inl ⟨_, HT.out, rfl⟩⟩
      | false =>
        have HT : Hid (tI t.data.toList = none) := by show _ = _; rw [HE'.out, if_neg (fun q => by rw [hS.out.1 q] at eq; cases eq)]
        go_wp2
        go_ret2
        exact ⟨HB1.out, .inr ⟨HT.out, _, rfl⟩⟩
end Go.Proofs.YtijphomojljckaaGreatDoor.Dc
/- The lines of a commit, one behind another: what the specification has made behind k of them. No statement is proved here. -/
namespace Go.Proofs.YtijphomojljckaaGreatDoor.Dc
open Go.Proofs.YtijphomojljckaaGreatDoor.Te

theorem st_open {x wd : ByteArray} (h : endB x = false) : stW wd.data.toList x.data.toList = none := by
  unfold stW
  rw [if_neg (fun q => of_decide_eq_false h q.1)]
theorem un_end {x : ByteArray} (h : endB x = true) : (unT x).data.toList = x.data.toList.dropLast := by
  unfold unT
  rw [if_pos h, mkB_data]
  unfold trimL
  rw [if_pos (of_decide_eq_true h)]
theorem st_hit {x wd v : ByteArray} (h : endB x = true) (hv : (unT x).data.toList = wd.data.toList ++ 32 :: v.data.toList) : stW wd.data.toList x.data.toList = some v.data.toList := by
  rw [un_end h] at hv
  unfold stW
  rw [if_pos ⟨of_decide_eq_true h, by rw [hv, List.isPrefixOf_iff_prefix]; exact ⟨v.data.toList, by simp⟩⟩, hv]
  rw [show wd.data.toList ++ 32 :: v.data.toList = (wd.data.toList ++ [32]) ++ v.data.toList by simp, List.drop_left' (by simp)]
theorem st_miss {x wd : ByteArray} (h : endB x = true) (hv : ∀ v, ¬ (unT x).data.toList = wd.data.toList ++ 32 :: v) : stW wd.data.toList x.data.toList = none := by
  unfold stW
  refine if_neg fun q => ?_
  obtain ⟨r, hr⟩ := List.isPrefixOf_iff_prefix.1 q.2
  refine hv r ?_
  rw [un_end h, ← hr]
  simp
/-- What the specification has made behind k lines. -/
def cT (xs : List (List UInt8)) (k : Nat) : ByteArray := if 0 < k then mkB (txt xs 0) else ⟨#[]⟩
def cP (xs : List (List UInt8)) (k : Nat) : List ByteArray := (List.range (min (k - 1) (xs.length - 3))).map (fun i => mkB (txt xs (i + 1)))
def cM (xs : List (List UInt8)) (k : Nat) : Int := if xs.length - 2 < k then (tI (txt xs (xs.length - 2))).getD 0 else 0
def cN (xs : List (List UInt8)) (k : Nat) : ByteArray := if xs.length - 1 < k then mkB (txt xs (xs.length - 1)) else ⟨#[]⟩
def cG (xs : List (List UInt8)) (k : Nat) : Prop := (∀ i, i < k → (stW (wOf xs.length i).data.toList (xs.getD i [])).isSome = true) ∧ (xs.length - 2 < k → (tI (txt xs (xs.length - 2))).isSome = true)
theorem c_zero (xs : List (List UInt8)) : cT xs 0 = ⟨#[]⟩ ∧ cP xs 0 = [] ∧ cM xs 0 = 0 ∧ cN xs 0 = ⟨#[]⟩ ∧ cG xs 0 :=
  ⟨if_neg (by omega), by simp [cP], if_neg (by omega), if_neg (by omega), fun i h => by omega, fun h => by omega⟩
theorem c_all {xs : List (List UInt8)} (h3 : 3 ≤ xs.length) (h : cG xs xs.length) : sOk tI xs ∧ sCm tI xs = (cT xs xs.length, cP xs xs.length, cM xs xs.length, cN xs xs.length) := by
  refine ⟨⟨h3, h.1, h.2 (by omega)⟩, ?_⟩
  unfold sCm cT cP cM cN
  rw [if_pos (by omega), if_pos (by omega), if_pos (by omega), show min (xs.length - 1) (xs.length - 3) = xs.length - 3 by omega]
theorem txt_of {xs : List (List UInt8)} {k : Nat} {v : ByteArray} (h : stW (wOf xs.length k).data.toList (xs.getD k []) = some v.data.toList) : mkB (txt xs k) = v := by
  unfold txt; rw [h]; rfl
theorem cG_bad {xs : List (List UInt8)} {k : Nat} (hk : k < xs.length) (h : stW (wOf xs.length k).data.toList (xs.getD k []) = none) : ¬ sOk tI xs := fun q => by
  have := q.2.1 k hk
  rw [h] at this
  cases this
theorem cG_time {xs : List (List UInt8)} {k : Nat} (hk : k + 2 = xs.length) {v : ByteArray} (h : stW (wOf xs.length k).data.toList (xs.getD k []) = some v.data.toList) (ht : tI v.data.toList = none) : ¬ sOk tI xs := fun q => by
  have := q.2.2
  rw [show xs.length - 2 = k by omega, show txt xs k = v.data.toList by unfold txt; rw [h]; rfl, ht] at this
  cases this
theorem cG_step {xs : List (List UInt8)} {k : Nat} {v : ByteArray} (h3 : 3 ≤ xs.length) (hg : cG xs k) (h : stW (wOf xs.length k).data.toList (xs.getD k []) = some v.data.toList) (ht : k + 2 = xs.length → (tI v.data.toList).isSome = true) : cG xs (k + 1) := by
  refine ⟨fun i hi => ?_, fun hn => ?_⟩
  · by_cases e : i = k
    · subst e; rw [h]; rfl
    · exact hg.1 i (by omega)
  · by_cases e : k + 2 = xs.length
    · rw [show xs.length - 2 = k by omega, show txt xs k = v.data.toList by unfold txt; rw [h]; rfl]
      exact ht e
    · exact hg.2 (by omega)
theorem step_tree {xs : List (List UInt8)} (h3 : 3 ≤ xs.length) {v : ByteArray} (h : stW (wOf xs.length 0).data.toList (xs.getD 0 []) = some v.data.toList) : cT xs 1 = v ∧ cP xs 1 = cP xs 0 ∧ cM xs 1 = cM xs 0 ∧ cN xs 1 = cN xs 0 := by
  refine ⟨?_, by simp [cP], ?_, ?_⟩
  · unfold cT; rw [if_pos (by omega), txt_of h]
  · unfold cM; rw [if_neg (by omega), if_neg (by omega)]
  · unfold cN; rw [if_neg (by omega), if_neg (by omega)]
theorem step_par {xs : List (List UInt8)} {k : Nat} (h0 : 0 < k) (hk : k + 2 < xs.length) {v : ByteArray} (h : stW (wOf xs.length k).data.toList (xs.getD k []) = some v.data.toList) : cT xs (k + 1) = cT xs k ∧ cP xs (k + 1) = cP xs k ++ [v] ∧ cM xs (k + 1) = cM xs k ∧ cN xs (k + 1) = cN xs k := by
  refine ⟨?_, ?_, ?_, ?_⟩
  · unfold cT; rw [if_pos (by omega), if_pos (by omega)]
  · unfold cP
    rw [show min (k + 1 - 1) (xs.length - 3) = (k - 1) + 1 by omega, show min (k - 1) (xs.length - 3) = k - 1 by omega, List.range_succ, List.map_append, List.map_singleton, show k - 1 + 1 = k by omega, txt_of h]
  · unfold cM; rw [if_neg (by omega), if_neg (by omega)]
  · unfold cN; rw [if_neg (by omega), if_neg (by omega)]
theorem step_time {xs : List (List UInt8)} {k : Nat} (h0 : 0 < k) (hk : k + 2 = xs.length) {v : ByteArray} {n : Int} (h : stW (wOf xs.length k).data.toList (xs.getD k []) = some v.data.toList) (ht : tI v.data.toList = some n) : cT xs (k + 1) = cT xs k ∧ cP xs (k + 1) = cP xs k ∧ cM xs (k + 1) = n ∧ cN xs (k + 1) = cN xs k := by
  refine ⟨?_, ?_, ?_, ?_⟩
  · unfold cT; rw [if_pos (by omega), if_pos (by omega)]
  · unfold cP; rw [show min (k + 1 - 1) (xs.length - 3) = min (k - 1) (xs.length - 3) by omega]
  · unfold cM; rw [if_pos (by omega), show xs.length - 2 = k by omega, show txt xs k = v.data.toList by unfold txt; rw [h]; rfl, ht]; rfl
  · unfold cN; rw [if_neg (by omega), if_neg (by omega)]
theorem step_note {xs : List (List UInt8)} {k : Nat} (h3 : 3 ≤ xs.length) (hk : k + 1 = xs.length) {v : ByteArray} (h : stW (wOf xs.length k).data.toList (xs.getD k []) = some v.data.toList) : cT xs (k + 1) = cT xs k ∧ cP xs (k + 1) = cP xs k ∧ cM xs (k + 1) = cM xs k ∧ cN xs (k + 1) = v := by
  refine ⟨?_, ?_, ?_, ?_⟩
  · unfold cT; rw [if_pos (by omega), if_pos (by omega)]
  · unfold cP; rw [show min (k + 1 - 1) (xs.length - 3) = min (k - 1) (xs.length - 3) by omega]
  · unfold cM; rw [if_pos (by omega), if_pos (by omega)]
  · unfold cN; rw [if_pos (by omega), show xs.length - 1 = k by omega, txt_of h]
/-- The word of a line, by its place. -/
theorem w_tree {n : Nat} (h : 3 ≤ n) : wOf n 0 = wTree := by unfold wOf; rw [if_neg (by omega), if_neg (by omega), if_pos rfl]
theorem w_par {n k : Nat} (h0 : 0 < k) (h : k + 2 < n) : wOf n k = wPar := by unfold wOf; rw [if_neg (by omega), if_neg (by omega), if_neg (by omega)]
theorem w_time {n k : Nat} (h : k + 2 = n) : wOf n k = wTime := by unfold wOf; rw [if_neg (by omega), if_pos h]
theorem w_note {n k : Nat} (h : k + 1 = n) : wOf n k = wNote := by unfold wOf; rw [if_pos h]
theorem cP_len (xs : List (List UInt8)) (k : Nat) : (cP xs k).length ≤ xs.length := by unfold cP; rw [List.length_map, List.length_range]; omega
theorem stW_len {w x v : List UInt8} (h : stW w x = some v) : v.length ≤ x.length := by
  rw [stW_some h]; simp; omega
theorem txt_len (xs : List (List UInt8)) (i : Nat) : (txt xs i).length ≤ (xs.getD i []).length := by
  unfold txt
  cases h : stW (wOf xs.length i).data.toList (xs.getD i []) with
  | none => simp
  | some v => exact stW_len h
theorem cP_size {xs : List (List UInt8)} {k M : Nat} (h : ∀ i, i < xs.length → (xs.getD i []).length ≤ M) (j : Nat) (hj : j < (cP xs k).length) : ((cP xs k).getD j ByteArray.empty).size ≤ M := by
  have hj' : j < min (k - 1) (xs.length - 3) := by unfold cP at hj; rwa [List.length_map, List.length_range] at hj
  have e : (cP xs k).getD j ByteArray.empty = mkB (txt xs (j + 1)) := by
    unfold cP
    simp only [List.getD]
    rw [List.getElem?_map, List.getElem?_range hj']
    rfl
  rw [e, ← size_eq, mkB_data]
  exact Nat.le_trans (txt_len xs (j + 1)) (h (j + 1) (by omega))
end Go.Proofs.YtijphomojljckaaGreatDoor.Dc
