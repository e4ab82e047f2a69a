/- The contract of spec.l10Line. No statement is proved here. -/
import Derived.Test.YtjcnnmnnbjaheaaGreatDoorRows
import Derived.Test.YtjcnnmnnbjaheaaGreatDoorLemQ
import Derived.Test.YtjcnnmnnbjaheaaGreatDoorDTabQ
import Derived.Test.YtjcnnmnnbjaheaaGreatDoorHkTQ
import Derived.Test.YtjcnnmnnbjaheaaGreatDoorLFLemQ
import Derived.Test.YtjcnnmnnbjaheaaGreatDoorWwCQ
import Derived.Test.YtjcnnmnnbjaheaaGreatDoorTrSQ
import Derived.Test.YtjcnnmnnbjaheaaGreatDoorXtFQ
import Derived.Test.YtjcnnmnnbjaheaaGreatDoorCutLQ
import Derived.Test.YtjcnnmnnbjaheaaGreatDoorDtLQ
import Derived.Test.YtjcnnmnnbjaheaaGreatDoorDtMQ
import Derived.Test.YtjcnnmnnbjaheaaGreatDoorIxBQ
import Derived.Test.YtjcnnmnnbjaheaaGreatDoorTrEQ
import Derived.Test.YtjcnnmnnbjaheaaGreatDoorTrWQ
import Derived.Test.YtjcnnmnnbjaheaaGreatDoorPiMQ
import Derived.WalkKit
import Derived.ProofKit
import Derived.Below
import Derived.WalkSpells
import Derived.Maps.AppendAt
import Derived.Deep.RegionHeld
namespace Go.Proofs.YtjcnnmnnbjaheaaGreatDoor.En
open Go.ChangeShapes Go.WideShapes Go.ChangeAt Go.RowKit

theorem cut_lists (y : ByteArray) : (cutL 32 y.data.toList).map mkB = cutOf 32 y := by
  unfold cutOf cutFrom
  rw [List.drop_zero]
theorem e_count {y : ByteArray} (n : ¬ (cutOf 32 y).length = 4) : eOf (cutL 32 y.data.toList) = none := by
  rw [← cut_lists, List.length_map] at n
  generalize cutL 32 y.data.toList = t at n
  match t, n with
  | [], _ => rfl
  | [_], _ => rfl
  | [_, _], _ => rfl
  | [_, _, _], _ => rfl
  | [_, _, _, _], n => exact absurd rfl n
  | _ :: _ :: _ :: _ :: _ :: _, _ => rfl
theorem e_four {y : ByteArray} (n : (cutOf 32 y).length = 4) : ∃ a b c d : ByteArray, cutOf 32 y = [a, b, c, d] ∧ eOf (cutL 32 y.data.toList) = eFour a.data.toList b.data.toList c.data.toList d.data.toList := by
  rw [← cut_lists, List.length_map] at n
  rw [← cut_lists]
  generalize cutL 32 y.data.toList = t at n
  match t, n with
  | [a, b, c, d], _ => exact ⟨mkB a, mkB b, mkB c, mkB d, rfl, rfl⟩
theorem f_len {a b c d : List UInt8} (h : ¬ a.length = 1) : eFour a b c d = none := by
  match a, h with
  | [], _ => rfl
  | [_], h => exact absurd rfl h
  | _ :: _ :: _, _ => rfl
theorem f_low {x : UInt8} {b c d : List UInt8} (h : (x.toNat : Int) < 48) : eFour [x] b c d = none := if_neg (fun q => by have := q.1.1; omega)
theorem f_high {x : UInt8} {b c d : List UInt8} (h : (51 : Int) < (x.toNat : Int)) : eFour [x] b c d = none := if_neg (fun q => by have := q.1.2; omega)
theorem f_id {a b d : List UInt8} : eFour a b [] d = none := by
  match a with
  | [] => rfl
  | [_] => exact if_neg (fun q => q.2.2.1 rfl)
  | _ :: _ :: _ => rfl
theorem f_path {a b c : List UInt8} : eFour a b c [] = none := by
  match a with
  | [] => rfl
  | [_] => exact if_neg (fun q => q.2.2.2 rfl)
  | _ :: _ :: _ => rfl
theorem f_mode {x : UInt8} {b c d : List UInt8} (h1 : ¬ Te.md b = 1) (h2 : ¬ Te.md b = 2) : eFour [x] b c d = none := if_neg (fun q => by rcases q.2.1 with k | k; exact h1 k; exact h2 k)
theorem f_ok {x : UInt8} {b c d : List UInt8} (h1 : ¬ (x.toNat : Int) < 48) (h2 : ¬ (51 : Int) < (x.toNat : Int)) (h3 : Te.md b = 1 ∨ Te.md b = 2) (h4 : ¬ c = []) (h5 : ¬ d = []) : eFour [x] b c d = some (mkB d, (x.toNat : Int) - 48, Te.md b, mkB c) := if_pos ⟨⟨by omega, by omega⟩, h3, h4, h5⟩
theorem mdU_three (a : ByteArray) : (Te.mdU a 3 = Te.md a.data.toList ∧ (Te.md a.data.toList = 1 ∨ Te.md a.data.toList = 2)) ∨ (Te.mdU a 3 = 0 ∧ ¬ Te.md a.data.toList = 1 ∧ ¬ Te.md a.data.toList = 2) := by
  unfold Te.mdU
  rw [if_neg (fun q => by have := q.2; omega)]
  by_cases h2 : a = ⟨#[114, 117, 110]⟩
  · rw [if_pos ⟨h2, by omega⟩, Te.md_two h2]; exact .inl ⟨rfl, .inr rfl⟩
  · rw [if_neg (fun q => h2 q.1)]
    by_cases h1 : a = ⟨#[102, 105, 108, 101]⟩
    · rw [if_pos ⟨h1, by omega⟩, Te.md_one h1]; exact .inl ⟨rfl, .inl rfl⟩
    · rw [if_neg (fun q => h1 q.1)]
      refine .inr ⟨rfl, ?_⟩
      by_cases h3 : a = ⟨#[116, 114, 101, 101]⟩
      · rw [Te.md_three h3]; decide
      · rw [Te.md_none h1 h2 h3]; decide
theorem emp_yes {c : ByteArray} (h : c.data.toList = []) : c.toList.isEmpty = true ∧ (c.toList == []) = true := by
  rw [ByteArray.toList_eq, h]; exact ⟨rfl, rfl⟩
theorem emp_no {c : ByteArray} (h : ¬ c.data.toList = []) : c.toList.isEmpty = false ∧ (c.toList == []) = false := by
  rw [ByteArray.toList_eq]
  cases e : c.data.toList with
  | nil => exact absurd e h
  | cons x t => exact ⟨rfl, rfl⟩
theorem one_b (a : ByteArray) (h : a.data.toList.length = 1) : ∃ x : UInt8, a = ⟨#[x]⟩ := by
  cases e : a.data.toList with
  | nil => rw [e] at h; simp at h
  | cons x t =>
    rw [e] at h
    have : t = [] := List.eq_nil_of_length_eq_zero (by simpa using h)
    subst this
    exact ⟨x, by rw [← mkB_eq a, e]; rfl⟩
/-- How l10Line ends. -/
def LN (y : ByteArray) (e : Ending) : Prop :=
  (∃ o : Ob, eOf (cutL 32 y.data.toList) = some o ∧ e = .returned (.tuple #[.agg #[.string o.1, .int .i64 o.2.1, .int .i64 o.2.2.1, .string o.2.2.2], .bool true])) ∨
  (eOf (cutL 32 y.data.toList) = none ∧ ∃ (a b : ByteArray) (m n : Int), e = .returned (.tuple #[.agg #[.string a, .int .i64 m, .int .i64 n, .string b], .bool false]))
theorem ln_no {y : ByteArray} (h : eOf (cutL 32 y.data.toList) = none) (a b : ByteArray) (m n : Int) : LN y (.returned (.tuple #[.agg #[.string a, .int .i64 m, .int .i64 n, .string b], .bool false])) := .inr ⟨h, a, b, m, n, rfl⟩
set_option maxRecDepth 20000 in
set_option maxHeartbeats 8000000 in
theorem l10LineC (y : ByteArray) (w : World) (hs : y.size ≤ 1048576) :
    Calls Tryz.prog 27 #[.string y] w fun e w' => LN y e ∧ Below w.heap.size w w' := by
  have hCount := e_count (y := y)
  have hFour := e_four (y := y)
  have hPs := Te.cut_smallB 32 y hs
  obtain ⟨W0, hW0⟩ : ∃ W, w.alloc (.cells #[.string ⟨#[]⟩, .int .i64 0, .int .i64 0, .string ⟨#[]⟩] 51) = W := ⟨_, rfl⟩
  have b0 : Below w.heap.size w W0 := by rw [← hW0]; exact allocBelow _ _
  have r0 : Rf W0 w.heap.size [.string ⟨#[]⟩, .int .i64 0, .int .i64 0, .string ⟨#[]⟩] := by rw [← hW0]; exact Rf.new _ _ _
  have z0 : w.heap.size < W0.heap.size := by rw [← hW0]; simp
  have hC := fun w => Te.l6SplitC y w hs
  obtain ⟨P, hP⟩ : ∃ P, cutOf 32 y = P := ⟨_, rfl⟩
  rw [hP] at hPs hCount hFour
  simp only [hP] at hC
  clear hP
  go_enter Tryz.func27, Tryz.ntmps27
  go_wp2_with fail
  refine (hC _).mono ?_; rintro e w2 ⟨vP, rfl, oP, b2⟩
  obtain ⟨aP, cP, rfl, sP, -⟩ := SS_of_row oP rfl hPs
  have r2 := r0.below z0 b2
  have B2 : Below w.heap.size w w2 := b0.trans (b2.mono b0.size)
  have z2 : w.heap.size < w2.heap.size := Nat.lt_of_lt_of_le z0 b2.size
  clear hC oP b2 b0 r0 z0 hW0 hPs
  by_cases hP4 : P.length = 4
  rotate_left
  · have HD : Hid (eOf (cutL 32 y.data.toList) = none) := hCount hP4
    have q4 : ((P.length : Int) != 4) = true := by simp; omega
    clear hCount hFour sP
    have HX : Hid (LN y (.returned (.tuple #[.agg #[.string ⟨#[]⟩, .int .i64 0, .int .i64 0, .string ⟨#[]⟩], .bool false]))) := ln_no HD.out _ _ _ _
    have d0 := r2.at_ 0 _ rfl
    have d1 := r2.at_ 1 _ rfl
    have d2 := r2.at_ 2 _ rfl
    have d3 := r2.at_ 3 _ rfl
    have f0 := r2.fz 0
    have f1 := r2.fz 1
    have f2 := r2.fz 2
    have f3 := r2.fz 3
    clear r2 HD
    have HB : Hid (Below w.heap.size w ((((w2.setCell ⟨w.heap.size, 0, none⟩ (.string ⟨#[]⟩)).setCell ⟨w.heap.size, 1, none⟩ (.int .i64 0)).setCell ⟨w.heap.size, 2, none⟩ (.int .i64 0)).setCell ⟨w.heap.size, 3, none⟩ (.string ⟨#[]⟩))) := (((B2.setCell (p := ⟨w.heap.size, 0, none⟩) (Nat.le_refl _) _).setCell (p := ⟨w.heap.size, 1, none⟩) (Nat.le_refl _) _).setCell (p := ⟨w.heap.size, 2, none⟩) (Nat.le_refl _) _).setCell (p := ⟨w.heap.size, 3, none⟩) (Nat.le_refl _) _
    go_wp2
    refine bodyPost_ret (v := .tuple #[.agg #[.string ⟨#[]⟩, .int .i64 0, .int .i64 0, .string ⟨#[]⟩], .bool false]) (by simp [results, Tryz.results27, go_sem, d0, d1, d2, d3]) rfl ?_
    exact ⟨HX.out, HB.out⟩
  obtain ⟨a0, m0, i0, p0, rfl, hEnt⟩ := hFour hP4
  clear hCount hFour hP4
  obtain ⟨gw, ow, ew, hgw, cw0⟩ := sP.2 0 (by simp)
  obtain ⟨g1, o1, e1, hg1, cw1⟩ := sP.2 1 (by simp)
  obtain ⟨g2, o2, e2, hg2, cw2⟩ := sP.2 2 (by simp)
  obtain ⟨g3, o3, e3, hg3, cw3⟩ := sP.2 3 (by simp)
  rw [ew] at e1 e2 e3
  simp only [Option.some.injEq, Addr.mk.injEq, and_true] at e1 e2 e3
  obtain ⟨rfl, rfl⟩ := e1
  obtain ⟨rfl, rfl⟩ := e2
  obtain ⟨rfl, rfl⟩ := e3
  simp only [List.getD, List.getElem?_cons_zero, List.getElem?_cons_succ, Option.getD_some] at cw0 cw1 cw2 cw3
  rw [Nat.add_zero] at cw0
  subst ew
  clear sP hg1 hg2 hg3
  by_cases hA1 : a0.data.toList.length = 1
  rotate_left
  · have HD : Hid (eOf (cutL 32 y.data.toList) = none) := by show _ = _; rw [hEnt]; exact f_len hA1
    have q1 : ((a0.size : Int) != 1) = true := by rw [size_eq] at hA1; simp; omega
    clear hEnt hA1
    have HX : Hid (LN y (.returned (.tuple #[.agg #[.string ⟨#[]⟩, .int .i64 0, .int .i64 0, .string ⟨#[]⟩], .bool false]))) := ln_no HD.out _ _ _ _
    have d0 := r2.at_ 0 _ rfl
    have d1 := r2.at_ 1 _ rfl
    have d2 := r2.at_ 2 _ rfl
    have d3 := r2.at_ 3 _ rfl
    have f0 := r2.fz 0
    have f1 := r2.fz 1
    have f2 := r2.fz 2
    have f3 := r2.fz 3
    clear r2 HD
    have HB : Hid (Below w.heap.size w ((((w2.setCell ⟨w.heap.size, 0, none⟩ (.string ⟨#[]⟩)).setCell ⟨w.heap.size, 1, none⟩ (.int .i64 0)).setCell ⟨w.heap.size, 2, none⟩ (.int .i64 0)).setCell ⟨w.heap.size, 3, none⟩ (.string ⟨#[]⟩))) := (((B2.setCell (p := ⟨w.heap.size, 0, none⟩) (Nat.le_refl _) _).setCell (p := ⟨w.heap.size, 1, none⟩) (Nat.le_refl _) _).setCell (p := ⟨w.heap.size, 2, none⟩) (Nat.le_refl _) _).setCell (p := ⟨w.heap.size, 3, none⟩) (Nat.le_refl _) _
    go_wp2
    refine bodyPost_ret (v := .tuple #[.agg #[.string ⟨#[]⟩, .int .i64 0, .int .i64 0, .string ⟨#[]⟩], .bool false]) (by simp [results, Tryz.results27, go_sem, d0, d1, d2, d3]) rfl ?_
    exact ⟨HX.out, HB.out⟩
  obtain ⟨x, rfl⟩ := one_b a0 hA1
  clear hA1
  have hEnt : eOf (cutL 32 y.data.toList) = eFour [x] m0.data.toList i0.data.toList p0.data.toList := hEnt
  have qz : (((⟨#[x]⟩ : ByteArray).size : Int) != 1) = false := rfl
  have qz0 : (⟨#[x]⟩ : ByteArray).size = 1 := rfl
  by_cases hX1 : (((⟨#[x]⟩ : ByteArray)[0]'(Nat.one_pos)).toNat : Int) < 48
  · have HD : Hid (eOf (cutL 32 y.data.toList) = none) := by show _ = _; rw [hEnt]; exact f_low hX1
    clear hEnt
    have HX : Hid (LN y (.returned (.tuple #[.agg #[.string ⟨#[]⟩, .int .i64 0, .int .i64 0, .string ⟨#[]⟩], .bool false]))) := ln_no HD.out _ _ _ _
    have d0 := r2.at_ 0 _ rfl
    have d1 := r2.at_ 1 _ rfl
    have d2 := r2.at_ 2 _ rfl
    have d3 := r2.at_ 3 _ rfl
    have f0 := r2.fz 0
    have f1 := r2.fz 1
    have f2 := r2.fz 2
    have f3 := r2.fz 3
    clear r2 HD
    have HB : Hid (Below w.heap.size w ((((w2.setCell ⟨w.heap.size, 0, none⟩ (.string ⟨#[]⟩)).setCell ⟨w.heap.size, 1, none⟩ (.int .i64 0)).setCell ⟨w.heap.size, 2, none⟩ (.int .i64 0)).setCell ⟨w.heap.size, 3, none⟩ (.string ⟨#[]⟩))) := (((B2.setCell (p := ⟨w.heap.size, 0, none⟩) (Nat.le_refl _) _).setCell (p := ⟨w.heap.size, 1, none⟩) (Nat.le_refl _) _).setCell (p := ⟨w.heap.size, 2, none⟩) (Nat.le_refl _) _).setCell (p := ⟨w.heap.size, 3, none⟩) (Nat.le_refl _) _
    go_wp2
    refine bodyPost_ret (v := .tuple #[.agg #[.string ⟨#[]⟩, .int .i64 0, .int .i64 0, .string ⟨#[]⟩], .bool false]) (by simp [results, Tryz.results27, go_sem, d0, d1, d2, d3]) rfl ?_
    exact ⟨HX.out, HB.out⟩
  by_cases hX2 : (51 : Int) < (((⟨#[x]⟩ : ByteArray)[0]'(Nat.one_pos)).toNat : Int)
  · have HD : Hid (eOf (cutL 32 y.data.toList) = none) := by show _ = _; rw [hEnt]; exact f_high hX2
    clear hEnt
    have HX : Hid (LN y (.returned (.tuple #[.agg #[.string ⟨#[]⟩, .int .i64 0, .int .i64 0, .string ⟨#[]⟩], .bool false]))) := ln_no HD.out _ _ _ _
    have d0 := r2.at_ 0 _ rfl
    have d1 := r2.at_ 1 _ rfl
    have d2 := r2.at_ 2 _ rfl
    have d3 := r2.at_ 3 _ rfl
    have f0 := r2.fz 0
    have f1 := r2.fz 1
    have f2 := r2.fz 2
    have f3 := r2.fz 3
    clear r2 HD
    have HB : Hid (Below w.heap.size w ((((w2.setCell ⟨w.heap.size, 0, none⟩ (.string ⟨#[]⟩)).setCell ⟨w.heap.size, 1, none⟩ (.int .i64 0)).setCell ⟨w.heap.size, 2, none⟩ (.int .i64 0)).setCell ⟨w.heap.size, 3, none⟩ (.string ⟨#[]⟩))) := (((B2.setCell (p := ⟨w.heap.size, 0, none⟩) (Nat.le_refl _) _).setCell (p := ⟨w.heap.size, 1, none⟩) (Nat.le_refl _) _).setCell (p := ⟨w.heap.size, 2, none⟩) (Nat.le_refl _) _).setCell (p := ⟨w.heap.size, 3, none⟩) (Nat.le_refl _) _
    go_wp2
    refine bodyPost_ret (v := .tuple #[.agg #[.string ⟨#[]⟩, .int .i64 0, .int .i64 0, .string ⟨#[]⟩], .bool false]) (by simp [results, Tryz.results27, go_sem, d0, d1, d2, d3]) rfl ?_
    exact ⟨HX.out, HB.out⟩
  by_cases hI : i0.data.toList = []
  · have HD : Hid (eOf (cutL 32 y.data.toList) = none) := by show _ = _; rw [hEnt, hI]; exact f_id
    obtain ⟨q3, q4⟩ := emp_yes hI
    clear hEnt hI
    have HX : Hid (LN y (.returned (.tuple #[.agg #[.string ⟨#[]⟩, .int .i64 0, .int .i64 0, .string ⟨#[]⟩], .bool false]))) := ln_no HD.out _ _ _ _
    have d0 := r2.at_ 0 _ rfl
    have d1 := r2.at_ 1 _ rfl
    have d2 := r2.at_ 2 _ rfl
    have d3 := r2.at_ 3 _ rfl
    have f0 := r2.fz 0
    have f1 := r2.fz 1
    have f2 := r2.fz 2
    have f3 := r2.fz 3
    clear r2 HD
    have HB : Hid (Below w.heap.size w ((((w2.setCell ⟨w.heap.size, 0, none⟩ (.string ⟨#[]⟩)).setCell ⟨w.heap.size, 1, none⟩ (.int .i64 0)).setCell ⟨w.heap.size, 2, none⟩ (.int .i64 0)).setCell ⟨w.heap.size, 3, none⟩ (.string ⟨#[]⟩))) := (((B2.setCell (p := ⟨w.heap.size, 0, none⟩) (Nat.le_refl _) _).setCell (p := ⟨w.heap.size, 1, none⟩) (Nat.le_refl _) _).setCell (p := ⟨w.heap.size, 2, none⟩) (Nat.le_refl _) _).setCell (p := ⟨w.heap.size, 3, none⟩) (Nat.le_refl _) _
    go_wp2
    refine bodyPost_ret (v := .tuple #[.agg #[.string ⟨#[]⟩, .int .i64 0, .int .i64 0, .string ⟨#[]⟩], .bool false]) (by simp [results, Tryz.results27, go_sem, d0, d1, d2, d3]) rfl ?_
    exact ⟨HX.out, HB.out⟩
  obtain ⟨qi3, qi4⟩ := emp_no hI
  by_cases hPa : p0.data.toList = []
  · have HD : Hid (eOf (cutL 32 y.data.toList) = none) := by show _ = _; rw [hEnt, hPa]; exact f_path
    obtain ⟨q3, q4⟩ := emp_yes hPa
    clear hEnt hPa hI
    have HX : Hid (LN y (.returned (.tuple #[.agg #[.string ⟨#[]⟩, .int .i64 0, .int .i64 0, .string ⟨#[]⟩], .bool false]))) := ln_no HD.out _ _ _ _
    have d0 := r2.at_ 0 _ rfl
    have d1 := r2.at_ 1 _ rfl
    have d2 := r2.at_ 2 _ rfl
    have d3 := r2.at_ 3 _ rfl
    have f0 := r2.fz 0
    have f1 := r2.fz 1
    have f2 := r2.fz 2
    have f3 := r2.fz 3
    clear r2 HD
    have HB : Hid (Below w.heap.size w ((((w2.setCell ⟨w.heap.size, 0, none⟩ (.string ⟨#[]⟩)).setCell ⟨w.heap.size, 1, none⟩ (.int .i64 0)).setCell ⟨w.heap.size, 2, none⟩ (.int .i64 0)).setCell ⟨w.heap.size, 3, none⟩ (.string ⟨#[]⟩))) := (((B2.setCell (p := ⟨w.heap.size, 0, none⟩) (Nat.le_refl _) _).setCell (p := ⟨w.heap.size, 1, none⟩) (Nat.le_refl _) _).setCell (p := ⟨w.heap.size, 2, none⟩) (Nat.le_refl _) _).setCell (p := ⟨w.heap.size, 3, none⟩) (Nat.le_refl _) _
    go_wp2
    refine bodyPost_ret (v := .tuple #[.agg #[.string ⟨#[]⟩, .int .i64 0, .int .i64 0, .string ⟨#[]⟩], .bool false]) (by simp [results, Tryz.results27, go_sem, d0, d1, d2, d3]) rfl ?_
    exact ⟨HX.out, HB.out⟩
  obtain ⟨qp3, qp4⟩ := emp_no hPa
  have hNo : ¬ Te.md m0.data.toList = 1 → ¬ Te.md m0.data.toList = 2 → Hid (eOf (cutL 32 y.data.toList) = none) := fun h1 h2 => by show _ = _; rw [hEnt]; exact f_mode h1 h2
  have hYes : (Te.md m0.data.toList = 1 ∨ Te.md m0.data.toList = 2) → Hid (eOf (cutL 32 y.data.toList) = some (p0, (x.toNat : Int) - 48, Te.md m0.data.toList, i0)) := fun h => by show _ = _; exact hEnt.trans ((f_ok hX1 hX2 h hI hPa).trans (by rw [mkB_eq, mkB_eq]; rfl))
  clear hEnt hI hPa
  have hxe : (((⟨#[x]⟩ : ByteArray)[0]'(Nat.one_pos)).toNat : Int) = (x.toNat : Int) := rfl
  have wx1 : IntKind.u8.wrap ((((⟨#[x]⟩ : ByteArray)[0]'(Nat.one_pos)).toNat : Int) - 48) = (x.toNat : Int) - 48 := by obtain ⟨u0, u1⟩ := byte_bd x; rw [hxe] at hX1 ⊢; rw [IntKind.wrap_u8]; omega
  have wx2 : IntKind.i64.wrap ((x.toNat : Int) - 48) = (x.toNat : Int) - 48 := by obtain ⟨u0, u1⟩ := byte_bd x; rw [hxe] at hX1; rw [IntKind.wrap_i64]; omega
  clear hxe
  obtain ⟨W3, hW3⟩ : ∃ W, w2.alloc (.cells #[.string p0, .int .i64 ((x.toNat : Int) - 48), .int .i64 0, .string i0] 51) = W := ⟨_, rfl⟩
  have b3 : Below w2.heap.size w2 W3 := by rw [← hW3]; exact allocBelow _ _
  have z3 : w2.heap.size < W3.heap.size := by rw [← hW3]; simp
  have r3 : Rf W3 w2.heap.size [.string p0, .int .i64 ((x.toNat : Int) - 48), .int .i64 0, .string i0] := by rw [← hW3]; exact Rf.new _ _ _
  go_wp2
  go_region
  go_wp2
  have hgw0 : gw < w2.heap.size := hgw
  have b3d := below_drew b3
  have r3d : Rf W3.drew w2.heap.size [.string p0, .int .i64 ((x.toNat : Int) - 48), .int .i64 (Te.mdU m0 1), .string i0] := by rw [Te.mdU_one]; exact ⟨r3.at_, r3.fz⟩
  have z3d : w2.heap.size < W3.drew.heap.size := z3
  clear hW3 b3 r3 hgw cw0 cw2 cw3
  go_loopw [6] (fun i wr => ∃ j : Nat, (1 ≤ j ∧ j ≤ 3) ∧ i = .int .i64 j ∧ Rf wr w2.heap.size [.string p0, .int .i64 ((x.toNat : Int) - 48), .int .i64 (Te.mdU m0 j), .string i0] ∧ Below w2.heap.size w2 wr ∧ w2.heap.size < wr.heap.size) (fun i _ => 3 - (intOf i).toNat)
  case atStart => exact ⟨1, ⟨by omega, by omega⟩, rfl, r3d, b3d, z3d⟩
  case round =>
    obtain ⟨j, hj, rfl, hR, hbi, hzi⟩ := hrel
    clear r3d b3d z3d
    rcases Nat.lt_or_ge j 3 with hj4 | hj4
    · -- a word
      have cw : wr.cell? ⟨gw, ow + 1, none⟩ = some (.string m0) := (hbi.cell (p := ⟨gw, ow + 1, none⟩) hgw0).trans cw1
      have hgw : gw < wr.heap.size := by omega
      have hWj := Te.l6WordsJ j hj.1 (by omega) wr
      obtain ⟨B, qa⟩ : ∃ B, ((Te.wdB j).toList == m0.toList) = B := ⟨_, rfl⟩
      have hM : Hid (Te.mdU m0 (j + 1) = if B = true then (j : Int) else Te.mdU m0 j) := Te.mdU_step m0 hj.1 (by omega) qa
      obtain ⟨x0, hx0⟩ : ∃ x0, Te.wdB j = x0 := ⟨_, rfl⟩
      rw [hx0] at qa hWj
      clear hx0
      have qj : (j : Int) < 3 := by omega
      have qj4 : (j : Int) < 4 := by omega
      go_wp2
      refine wp_region_held_drew (S := fun u => u.cell? ⟨gw, ow + 1, none⟩ = some (.string m0)) (by kernel_rfl) cw (fun hHeld => ?_)
      refine Te.takeD (i := 1) (d := 64) (oi := _) (v := ?_) (listed' := #[false, true, false, false, false, false, false, false]) rfl (by kernel_rfl) (by kernel_rfl) (by kernel_rfl) (fun _ _ _ h => h) (Or.inl ⟨by rfl, ?_⟩) hHeld (by kernel_rfl) (by kernel_rfl) ?_
      rotate_left
      · intro w hSw
        try dsimp only at hSw
        first
          | (go_simp; done)
          | (go_simp; with_reducible rfl)
      simp only [Act.put, List.setIfInBounds_toArray, List.set_cons_zero, List.set_cons_succ]
      refine Te.takeD (i := 4) (d := 67) (oi := _) (v := ?_) (listed' := #[false, true, false, false, true, false, false, false]) rfl (by kernel_rfl) (by kernel_rfl) (by kernel_rfl) (fun _ _ _ h => h) (Or.inl ⟨by rfl, ?_⟩) hHeld (by kernel_rfl) (by kernel_rfl) ?_
      rotate_left
      · intro w hSw
        try dsimp only at hSw
        first
          | (go_simp; done)
          | (go_simp; with_reducible rfl)
      simp only [Act.put, List.setIfInBounds_toArray, List.set_cons_zero, List.set_cons_succ]
      refine Te.takeD (i := 5) (d := 68) (oi := _) (v := ?_) (listed' := #[false, true, false, false, true, true, false, false]) rfl (by kernel_rfl) (by kernel_rfl) (by kernel_rfl) (fun _ _ _ h => h) (Or.inl ⟨by rfl, ?_⟩) hHeld (by kernel_rfl) (by kernel_rfl) ?_
      rotate_left
      · intro w hSw
        try dsimp only at hSw
        first
          | (go_simp; done)
          | (go_simp; with_reducible rfl)
      simp only [Act.put, List.setIfInBounds_toArray, List.set_cons_zero, List.set_cons_succ]
      refine Te.takeD (i := 6) (d := 69) (oi := _) (v := ?_) (listed' := #[false, true, false, false, true, true, true, false]) rfl (by kernel_rfl) (by kernel_rfl) (by kernel_rfl) (fun _ _ _ h => h) (Or.inl ⟨by rfl, ?_⟩) hHeld (by kernel_rfl) (by kernel_rfl) ?_
      rotate_left
      · intro w hSw
        try dsimp only at hSw
        first
          | (go_simp; done)
          | (go_simp; with_reducible rfl)
      simp only [Act.put, List.setIfInBounds_toArray, List.set_cons_zero, List.set_cons_succ]
      refine wpAnyH_ready (rs := [0]) (by kernel_rfl) (by simp) ?_
      refine AllReadyH.cons (o := _) rfl (fun K hK => ?_) AllReadyH.nil
      go_simp
      refine hWj.mono ?_
      rintro e u1 ⟨rfl, kb1, kc1⟩
      have R1 := hR.below hzi kb1
      have rc1 := R1.at_ 2 _ rfl
      have rf1 := R1.fz 2
      have zu := kb1.size
      have Bu : Below w2.heap.size w2 u1 := hbi.trans (kb1.mono (Nat.le_of_lt hzi))
      refine hK.out _ _ (Te.keep3 kb1 hgw cw) (fun hS1 => ?_)
      refine Te.moreS (S' := fun u => u.cell? ⟨wr.heap.size, j, none⟩ = some (.string x0) ∧ u.cell? ⟨gw, ow + 1, none⟩ = some (.string m0)) (fun _ h => h.2) _ _ _ _ ?_
      simp only [List.setIfInBounds_toArray, List.set_cons_zero]
      refine Te.takeD (i := 2) (d := 65) (oi := _) (v := ?_) (listed' := #[true, true, true, false, true, true, true, false]) rfl (by kernel_rfl) (by kernel_rfl) (by kernel_rfl) (fun _ _ _ h => h) (Or.inl ⟨by rfl, ?_⟩) ⟨kc1, hS1⟩ (by kernel_rfl) (by kernel_rfl) ?_
      rotate_left
      · intro w hSw
        try dsimp only at hSw
        first
          | (go_simp; done)
          | (go_simp; with_reducible rfl)
      simp only [Act.put, List.setIfInBounds_toArray, List.set_cons_zero, List.set_cons_succ]
      refine Te.takeD (i := 3) (d := 66) (oi := _) (v := ?_) (listed' := #[true, true, true, true, true, true, true, false]) rfl (by kernel_rfl) (by kernel_rfl) (by kernel_rfl) (fun _ _ _ h => h) (Or.inl ⟨by rfl, ?_⟩) ⟨kc1, hS1⟩ (by kernel_rfl) (by kernel_rfl) ?_
      rotate_left
      · intro w hSw
        try dsimp only at hSw
        first
          | (go_simp; done)
          | (go_simp; with_reducible rfl)
      simp only [Act.put, List.setIfInBounds_toArray, List.set_cons_zero, List.set_cons_succ]
      refine Te.takeD (i := 7) (d := 70) (oi := _) (v := ?_) (listed' := #[true, true, true, true, true, true, true, true]) rfl (by kernel_rfl) (by kernel_rfl) (by kernel_rfl) (fun _ _ _ h => h) (Or.inl ⟨by rfl, ?_⟩) ⟨kc1, hS1⟩ (by kernel_rfl) (by kernel_rfl) ?_
      rotate_left
      · intro w hSw
        try dsimp only at hSw
        first
          | (go_simp; done)
          | (go_simp; with_reducible rfl)
      simp only [Act.put, List.setIfInBounds_toArray, List.set_cons_zero, List.set_cons_succ]
      refine wpAnyH_done (by kernel_rfl) ?_ _
      cases B
      · go_wp2
        go_roundw
        case rel => exact ⟨j + 1, by omega, by first | rfl | go_num, by rw [hM.out]; exact R1, Bu, by omega⟩
        case measure => simp [intOf]; omega
      · go_wp2
        go_roundw
        case rel =>
          refine ⟨j + 1, by omega, by first | rfl | go_num, ?_, Bu.setCell (p := ⟨w2.heap.size, 2, none⟩) (Nat.le_refl _) _, by simp; omega⟩
          rw [hM.out]
          exact R1.set (o := 2) (by simp) _
        case measure => simp [intOf]; omega
    obtain rfl : j = 3 := by omega
    have B3 : Below w.heap.size w wr := B2.trans (hbi.mono (Nat.le_of_lt z2))
    have R2 := r2.below z2 hbi
    have e0 := hR.at_ 0 _ rfl
    have e1 := hR.at_ 1 _ rfl
    have e2 := hR.at_ 2 _ rfl
    have e3 := hR.at_ 3 _ rfl
    have k0 := R2.at_ 0 _ rfl
    have k1 := R2.at_ 1 _ rfl
    have k2 := R2.at_ 2 _ rfl
    have k3 := R2.at_ 3 _ rfl
    have f0 := R2.fz 0
    have f1 := R2.fz 1
    have f2 := R2.fz 2
    have f3 := R2.fz 3
    have qne : ¬ w2.heap.size = w.heap.size := by omega
    have qne' : ¬ w.heap.size = w2.heap.size := by omega
    have hT := mdU_three m0
    obtain ⟨M, hM⟩ : ∃ M, Te.mdU m0 3 = M := ⟨_, rfl⟩
    rw [hM] at hT e2
    have HX : Hid (LN y (.returned (.tuple #[.agg #[.string p0, .int .i64 ((x.toNat : Int) - 48), .int .i64 M, .string i0], .bool (decide (0 < M))]))) := by
      rcases hT with ⟨h1, h2⟩ | ⟨h1, h2, h3⟩
      · have h4 : 0 < M := by omega
        rw [decide_eq_true h4]
        exact .inl ⟨_, (hYes h2).out, by rw [← h1]⟩
      · have h4 : ¬ 0 < M := by omega
        rw [decide_eq_false h4]
        exact ln_no (hNo h2 h3).out _ _ _ _
    clear hM hT hNo hYes hR R2 r2 hbi
    have HB : Hid (Below w.heap.size w ((((wr.setCell ⟨w.heap.size, 0, none⟩ (.string p0)).setCell ⟨w.heap.size, 1, none⟩ (.int .i64 ((x.toNat : Int) - 48))).setCell ⟨w.heap.size, 2, none⟩ (.int .i64 M)).setCell ⟨w.heap.size, 3, none⟩ (.string i0)).drew) := below_drew ((((B3.setCell (p := ⟨w.heap.size, 0, none⟩) (Nat.le_refl _) _).setCell (p := ⟨w.heap.size, 1, none⟩) (Nat.le_refl _) _).setCell (p := ⟨w.heap.size, 2, none⟩) (Nat.le_refl _) _).setCell (p := ⟨w.heap.size, 3, none⟩) (Nat.le_refl _) _)
    obtain ⟨S, hS⟩ : ∃ S, (x.toNat : Int) - 48 = S := ⟨_, rfl⟩
    rw [hS] at e1 HX HB
    clear hS wx1 wx2 hX1 hX2
    go_wp2
    go_region
    go_wp2
    refine bodyPost_ret (v := .tuple #[.agg #[.string p0, .int .i64 S, .int .i64 M, .string i0], .bool (decide (0 < M))]) (by simp [results, Tryz.results27, go_sem, k0, k1, k2, k3]) rfl ?_
    exact ⟨HX.out, HB.out⟩
end Go.Proofs.YtjcnnmnnbjaheaaGreatDoor.En
