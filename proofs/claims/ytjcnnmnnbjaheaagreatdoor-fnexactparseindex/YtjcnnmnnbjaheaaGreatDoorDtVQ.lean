/- The contract of spec.l6Untree. No statement is proved here. -/
import Derived.Test.YtjcnnmnnbjaheaaGreatDoorRows
import Derived.Test.YtjcnnmnnbjaheaaGreatDoorLemQ
import Derived.Test.YtjcnnmnnbjaheaaGreatDoorDTabQ
import Derived.Test.YtjcnnmnnbjaheaaGreatDoorHkTQ
import Derived.Test.YtjcnnmnnbjaheaaGreatDoorIdxBQ
import Derived.Test.YtjcnnmnnbjaheaaGreatDoorIterQ
import Derived.Test.YtjcnnmnnbjaheaaGreatDoorTeLQ
import Derived.Test.YtjcnnmnnbjaheaaGreatDoorWwCQ
import Derived.Test.YtjcnnmnnbjaheaaGreatDoorFiCQ
import Derived.Test.YtjcnnmnnbjaheaaGreatDoorFlLQ
import Derived.Test.YtjcnnmnnbjaheaaGreatDoorDtLQ
import Derived.Test.YtjcnnmnnbjaheaaGreatDoorIxBQ
import Derived.Test.YtjcnnmnnbjaheaaGreatDoorDtMQ
import Derived.Test.YtjcnnmnnbjaheaaGreatDoorAsCQ
import Derived.WalkKit
import Derived.ProofKit
import Derived.Below
import Derived.WalkSpells
import Derived.Maps.AppendAt
import Derived.Deep.RegionHeld
namespace Go.Proofs.YtjcnnmnnbjaheaaGreatDoor.Te
open Go.ChangeShapes Go.WideShapes Go.ChangeAt Go.RowKit

theorem sAll_app : ∀ (xs ys : List (List UInt8)), sAll (xs ++ ys) = match sAll xs with
    | none => none
    | some l => match sAll ys with
      | none => none
      | some m => some (l ++ m)
  | [], ys => by cases h : sAll ys <;> simp [sAll, h]
  | x :: xs, ys => by
    have ih := sAll_app xs ys
    simp only [List.cons_append, sAll]
    cases sEnt x with
    | none => rfl
    | some o =>
      simp only
      rw [ih]
      cases sAll xs with
      | none => rfl
      | some l =>
        simp only
        cases sAll ys with
        | none => rfl
        | some m => rfl
theorem sAll_one (x : List UInt8) : sAll [x] = match sEnt x with
    | none => none
    | some o => some [o] := by
  simp only [sAll]
  cases sEnt x <;> rfl
theorem sAll_bad {xs : List (List UInt8)} {k : Nat} {x : List UInt8} (hx : xs[k]? = some x) (h : sEnt x = none) : sAll xs = none := by
  have hk : k < xs.length := (List.getElem?_eq_some_iff.1 hx).1
  have e : xs = xs.take k ++ (x :: xs.drop (k + 1)) := by
    rw [← (List.getElem?_eq_some_iff.1 hx).2, ← List.drop_eq_getElem_cons hk, List.take_append_drop]
  rw [e, sAll_app]
  have : sAll (x :: xs.drop (k + 1)) = none := by simp only [sAll, h]
  rw [this]
  cases sAll (xs.take k) <;> rfl
theorem sAll_take {xs : List (List UInt8)} {k : Nat} {x : List UInt8} {l : List Ob} {o : Ob} (hx : xs[k]? = some x) (hl : sAll (xs.take k) = some l) (h : sEnt x = some o) : sAll (xs.take (k + 1)) = some (l ++ [o]) := by
  have hk : k < xs.length := (List.getElem?_eq_some_iff.1 hx).1
  rw [List.take_succ_eq_append_getElem hk, (List.getElem?_eq_some_iff.1 hx).2, sAll_app, hl, sAll_one, h]
theorem s_open {x : ByteArray} (h : endB x = false) : sEnt x.data.toList = none := by
  unfold sEnt; rw [if_neg (of_decide_eq_false h)]
theorem trim_end {x : ByteArray} (h : endB x = true) : trimL x.data.toList = x.data.toList.dropLast := by
  unfold trimL; rw [if_pos (of_decide_eq_true h)]
theorem cut_un {x : ByteArray} (h : endB x = true) : cutOf 32 (unT x) = (cutL 32 x.data.toList.dropLast).map mkB := by
  unfold unT cutOf cutFrom
  rw [if_pos h, mkB_data, List.drop_zero, trim_end h]
theorem s_count {x : ByteArray} (h : endB x = true) (n : ¬ (cutOf 32 (unT x)).length = 3) : sEnt x.data.toList = none := by
  rw [cut_un h, List.length_map] at n
  unfold sEnt
  rw [if_pos (of_decide_eq_true h)]
  generalize cutL 32 x.data.toList.dropLast = t at n
  match t, n with
  | [], _ => rfl
  | [_], _ => rfl
  | [_, _], _ => rfl
  | [_, _, _], n => exact absurd rfl n
  | _ :: _ :: _ :: _ :: _, _ => rfl
theorem s_three {x : ByteArray} (h : endB x = true) (n : (cutOf 32 (unT x)).length = 3) : ∃ a b c : ByteArray, cutOf 32 (unT x) = [a, b, c] ∧ sEnt x.data.toList = some (c, md a.data.toList, b) := by
  rw [cut_un h, List.length_map] at n
  rw [cut_un h]
  unfold sEnt
  rw [if_pos (of_decide_eq_true h)]
  generalize cutL 32 x.data.toList.dropLast = t at n
  match t, n with
  | [a, b, c], _ => exact ⟨mkB a, mkB b, mkB c, rfl, rfl⟩
/-- The mode that the words ahead of j give. -/
def mdU (a : ByteArray) (j : Nat) : Int := if a = ⟨#[116, 114, 101, 101]⟩ ∧ 3 < j then 3 else if a = ⟨#[114, 117, 110]⟩ ∧ 2 < j then 2 else if a = ⟨#[102, 105, 108, 101]⟩ ∧ 1 < j then 1 else 0
theorem mdU_one (a : ByteArray) : mdU a 1 = 0 := by simp [mdU]
theorem mdU_four (a : ByteArray) : mdU a 4 = md a.data.toList := by
  unfold mdU
  by_cases h3 : a = ⟨#[116, 114, 101, 101]⟩
  · rw [if_pos ⟨h3, by omega⟩, md_three h3]
  · rw [if_neg (fun q => h3 q.1)]
    by_cases h2 : a = ⟨#[114, 117, 110]⟩
    · rw [if_pos ⟨h2, by omega⟩, md_two h2]
    · rw [if_neg (fun q => h2 q.1)]
      by_cases h1 : a = ⟨#[102, 105, 108, 101]⟩
      · rw [if_pos ⟨h1, by omega⟩, md_one h1]
      · rw [if_neg (fun q => h1 q.1), md_none h1 h2 h3]
theorem mdU_hit1 {a : ByteArray} (h : a = ⟨#[102, 105, 108, 101]⟩) : mdU a 2 = 1 := by subst h; rfl
theorem mdU_hit2 {a : ByteArray} (h : a = ⟨#[114, 117, 110]⟩) : mdU a 3 = 2 := by subst h; rfl
theorem mdU_hit3 {a : ByteArray} (h : a = ⟨#[116, 114, 101, 101]⟩) : mdU a 4 = 3 := by subst h; rfl
theorem mdU_miss1 {a : ByteArray} (h : ¬ a = ⟨#[102, 105, 108, 101]⟩) : mdU a 2 = mdU a 1 := by simp [mdU, h]
theorem mdU_miss2 {a : ByteArray} (h : ¬ a = ⟨#[114, 117, 110]⟩) : mdU a 3 = mdU a 2 := by simp [mdU, h]
theorem mdU_miss3 {a : ByteArray} (h : ¬ a = ⟨#[116, 114, 101, 101]⟩) : mdU a 4 = mdU a 3 := by simp [mdU, h]
/-- The word of a mode. -/
def wdB (j : Nat) : ByteArray := if j = 1 then ⟨#[102, 105, 108, 101]⟩ else if j = 2 then ⟨#[114, 117, 110]⟩ else ⟨#[116, 114, 101, 101]⟩
theorem l6WordsJ (j : Nat) (h1 : 1 ≤ j) (h2 : j < 4) (w : World) : Calls Tryz.prog 57 #[] w.drew fun e w' => e = .returned (.slice (some ⟨w.heap.size, 0, none⟩) 4 4) ∧ Below w.heap.size w w' ∧ w'.cell? ⟨w.heap.size, j, none⟩ = some (.string (wdB j)) := by
  refine (l6WordsD w).mono ?_
  rintro e w1 ⟨rfl, b, k1, k2, k3⟩
  obtain rfl | rfl | rfl : j = 1 ∨ j = 2 ∨ j = 3 := by omega
  · exact ⟨rfl, b, k1⟩
  · exact ⟨rfl, b, k2⟩
  · exact ⟨rfl, b, k3⟩
theorem mdU_step (a : ByteArray) {j : Nat} (h1 : 1 ≤ j) (h2 : j < 4) {b : Bool} (h : ((wdB j).toList == a.toList) = b) : mdU a (j + 1) = if b = true then (j : Int) else mdU a j := by
  by_cases e : a = wdB j
  · subst e
    have hb : b = true := by rw [← h]; exact beq_bytes_true rfl
    rw [if_pos hb]
    obtain rfl | rfl | rfl : j = 1 ∨ j = 2 ∨ j = 3 := by omega
    · exact mdU_hit1 rfl
    · exact mdU_hit2 rfl
    · exact mdU_hit3 rfl
  · have hb : b = false := by
      rw [← h, ByteArray.toList_eq]
      exact ne_sym (l := (wdB j).data.toList) (fun q => e (by rw [q]))
    rw [hb, if_neg (by decide)]
    obtain rfl | rfl | rfl : j = 1 ∨ j = 2 ∨ j = 3 := by omega
    · exact mdU_miss1 e
    · exact mdU_miss2 e
    · exact mdU_miss3 e

theorem SS.keptBy {w w' : World} {a : Option Addr} {ss : List ByteArray} {row : Option Nat} (h : SS w a ss) (hg : w.grownBy w' row) (hne : ∀ g off, a = some ⟨g, off, none⟩ → row ≠ some g) : SS w' a ss :=
  ⟨h.1, fun k hk => by
    obtain ⟨b, off, e, hb, hc⟩ := h.2 k hk
    refine ⟨b, off, e, Nat.lt_of_lt_of_le hb hg.size, ?_⟩
    have := hg.block b hb (fun q => hne b off e q.symm)
    unfold World.cell? at hc ⊢
    rw [this]; exact hc⟩
theorem line_size (s : ByteArray) (k : Nat) (hk : k < (linesOf s).length) : ((linesOf s).getD k ByteArray.empty).size ≤ s.size := by
  have hk' : k < (spl s.data.toList).length := by simpa [linesOf, linesFrom] using hk
  have e : (linesOf s).getD k ByteArray.empty = mkB ((spl s.data.toList)[k]) := by simp [linesOf, linesFrom, List.getD, hk']
  rw [e, mkB_size, ← size_eq]
  have h := (List.sublist_flatten_of_mem (List.getElem_mem hk')).length_le
  rw [spl_join] at h
  exact h
theorem unT_size (x : ByteArray) : (unT x).size ≤ x.size := by
  unfold unT
  split
  · exact trim_size x
  · exact Nat.zero_le _
end Go.Proofs.YtjcnnmnnbjaheaaGreatDoor.Te
