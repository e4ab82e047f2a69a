/- Rows of hunks in memory: their cells, who owns them, and what is left of a size. No statement is proved here. -/
import Derived.Test.YtnkbjbbaoddfkaaGreatDoorRows
import Derived.Test.YtnkbjbbaoddfkaaGreatDoorLemQ
import Derived.Test.YtnkbjbbaoddfkaaGreatDoorDTabQ
import Derived.Test.YtnkbjbbaoddfkaaGreatDoorHkLQ
import Derived.Test.YtnkbjbbaoddfkaaGreatDoorHfCQ
import Derived.WalkKit
import Derived.ProofKit
import Derived.Below
import Derived.Test.YtnkbjbbaoddfkaaGreatDoorMarksQ
import Derived.WalkSpells
import Derived.Test.YtnkbjbbaoddfkaaGreatDoorHkCQ
import Derived.Test.YtnkbjbbaoddfkaaGreatDoorHkTQ
import Derived.Deep.QuietTactic
import Derived.BigQuiet
import Derived.Deep.RegionWith
import Derived.Maps.AppendAt
namespace Go.Proofs.YtnkbjbbaoddfkaaGreatDoor
open Go.ChangeShapes Go.WideShapes Go.ChangeAt Go.RowKit

/-- A row of cells, told by a function. -/
def rowF (f : Nat → Value) (m : Nat) : List Value := (List.range m).map f
theorem rowF_length (f : Nat → Value) (m : Nat) : (rowF f m).length = m := by simp [rowF]
theorem rowF_at (f : Nat → Value) (m j : Nat) (h : j < m) : (rowF f m)[j]? = some (f j) := by simp [rowF, h]
theorem rowF_congr {f g : Nat → Value} {m : Nat} (h : ∀ j, j < m → f j = g j) : rowF f m = rowF g m := by
  unfold rowF
  apply List.map_congr_left
  intro j hj
  exact h j (List.mem_range.1 hj)
theorem rowF_set (f : Nat → Value) (m i : Nat) (v : Value) : (rowF f m).set i v = rowF (fun j => if j = i then v else f j) m := by
  apply List.ext_getElem?
  intro j
  by_cases hj : j < m
  · rw [rowF_at _ _ _ hj]
    by_cases e : j = i
    · subst e
      rw [List.getElem?_set_self (by rw [rowF_length]; exact hj), if_pos rfl]
    · rw [List.getElem?_set_ne (by omega), rowF_at _ _ _ hj, if_neg e]
  · rw [List.getElem?_eq_none (by rw [List.length_set, rowF_length]; omega), List.getElem?_eq_none (by rw [rowF_length]; omega)]
theorem infoHunk : (Tryz.prog.info? 35).map (fun i => (i.zero, i.size, i.bytes)) = some (some (.agg #[.int .i64 0, .int .i64 0, .slice none 0 0]), 3, 40) := by kernel_rfl
/-- The cells of hunks l whose lines lie at sl. -/
def hcell (l : List Hk) (sl : Nat → Value) (j : Nat) : Value :=
  if j % 3 = 0 then .int .i64 (l.getD (j / 3) (0, 0, [])).1 else if j % 3 = 1 then .int .i64 (l.getD (j / 3) (0, 0, [])).2.1 else sl (j / 3)
theorem hcell0 (l : List Hk) (sl : Nat → Value) (k : Nat) : hcell l sl (k * 3) = .int .i64 (l.getD k (0, 0, [])).1 := by
  unfold hcell; rw [if_pos (by omega), show k * 3 / 3 = k by omega]
theorem hcell1 (l : List Hk) (sl : Nat → Value) (k : Nat) : hcell l sl (k * 3 + 1) = .int .i64 (l.getD k (0, 0, [])).2.1 := by
  unfold hcell; rw [if_neg (by omega), if_pos (by omega), show (k * 3 + 1) / 3 = k by omega]
theorem hcell2 (l : List Hk) (sl : Nat → Value) (k : Nat) : hcell l sl (k * 3 + 2) = sl k := by
  unfold hcell; rw [if_neg (by omega), if_neg (by omega), show (k * 3 + 2) / 3 = k by omega]
/-- Hunks in memory of their own: the row, and each hunk's lines. -/
structure HO (base : Nat) (w : World) (v : Value) (l : List Hk) (sl : Nat → Value) : Prop where
  row : w.ownsRow base 35 3 v l.length (rowF (hcell l sl) (l.length * 3))
  each : ∀ k, k < l.length → w.ownsRow base 9 1 (sl k) (l.getD k (0, 0, [])).2.2.length ((l.getD k (0, 0, [])).2.2.map Value.string)
  apart : ∀ j k, j < k → k < l.length → ∀ b, (sl j).ownBlock = some b → (sl k).ownBlock = some b → False
  off : ∀ k, k < l.length → ∀ b, v.ownBlock = some b → (sl k).ownBlock = some b → False
theorem shape3 {w : World} {base : Nat} {e : TypeId} {s : Nat} {v : Value} {n : Nat} {xs : List Value} (h : w.ownsRow base e s v n xs) : ∃ a c, v = .slice a n c := by
  rcases h.2 with ⟨rfl, rfl⟩ | ⟨g, cap, cur, rfl, _⟩
  · exact ⟨_, _, rfl⟩
  · exact ⟨_, _, rfl⟩
theorem HO.fr {lo hi base : Nat} {w w' : World} {v : Value} {l : List Hk} {sl : Nat → Value} (h : HO base w v l sl) (hF : Fr lo hi w w') (hv : ∀ j, v.ownBlock = some j → j < lo ∨ hi ≤ j) (hb : ∀ k, k < l.length → ∀ j, (sl k).ownBlock = some j → j < lo ∨ hi ≤ j) : HO base w' v l sl :=
  ⟨hF.own h.row hv, fun k hk => hF.own (h.each k hk) (hb k hk), h.apart, h.off⟩
theorem HO.below {base : Nat} {w w' : World} {v : Value} {l : List Hk} {sl : Nat → Value} (h : HO base w v l sl) (hb : Below w.heap.size w w') : HO base w' v l sl :=
  h.fr (Fr.ofBelow (lo := 0) (hi := 0) hb) (fun _ _ => .inr (Nat.zero_le _)) (fun _ _ _ _ => .inr (Nat.zero_le _))
theorem ownMono3 {w : World} {base b : Nat} {e : TypeId} {s : Nat} {v : Value} {n : Nat} {xs : List Value} (h : w.ownsRow base e s v n xs) (hb : b ≤ base) : w.ownsRow b e s v n xs := by
  refine ⟨h.1, ?_⟩
  rcases h.2 with h' | ⟨g, cap, cur, h1, h2, h3⟩
  · exact .inl h'
  · exact .inr ⟨g, cap, cur, h1, by omega, h3⟩
theorem HO.mono {base b : Nat} {w : World} {v : Value} {l : List Hk} {sl : Nat → Value} (h : HO base w v l sl) (hb : b ≤ base) : HO b w v l sl :=
  ⟨ownMono3 h.row hb, fun k hk => ownMono3 (h.each k hk) hb, h.apart, h.off⟩
/-- Every line is of a size that a machine has. -/
def Fits (l : List Hk) : Prop := ∀ h ∈ l, ∀ k, k < h.2.2.length → (h.2.2.getD k ByteArray.empty).size ≤ 9223372036854775807
theorem getD_mem (l : List Hk) (k : Nat) (hk : k < l.length) : l.getD k (0, 0, []) ∈ l := by
  rw [List.getD, List.getElem?_eq_getElem hk]; exact List.getElem_mem hk
/-- Hunks that are owned can be read. -/
theorem HO.read {base : Nat} {w : World} {a : Option Addr} {c : Nat} {l : List Hk} {sl : Nat → Value} (h : HO base w (.slice a l.length c) l sl) (hf : Fits l) : HB w.heap.size w a l := by
  intro k hk
  obtain ⟨ak, ck, e⟩ := shapeS (h.each k hk)
  have hS : SS w ak (l.getD k (0, 0, [])).2.2 := ownSS (by rw [← e]; exact h.each k hk) (hf _ (getD_mem l k hk))
  rcases h.row.2 with ⟨h', h0⟩ | ⟨g, cap, cur, h', _, hh, _⟩
  · omega
  · simp only [Value.slice.injEq] at h'
    obtain ⟨rfl, _, rfl⟩ := h'
    have hc := h.row.cellAt
    refine ⟨g, 0, ak, ck, rfl, (Array.getElem?_eq_some_iff.1 hh).1, ?_, ?_, ?_, hS⟩
    · rw [Nat.zero_add, hc (k * 3) (by omega), rowF_at _ _ _ (by omega), hcell0]
    · rw [Nat.zero_add, hc (k * 3 + 1) (by omega), rowF_at _ _ _ (by omega), hcell1]
    · rw [Nat.zero_add, hc (k * 3 + 2) (by omega), rowF_at _ _ _ (by omega), hcell2, e]
/-- What is left of a size behind hunks. -/
def leftHF : Int → List Hk → Int
  | n, [] => n
  | n, h :: t => if left n h.2.2 < 0 then -1 else leftHF (left n h.2.2) t
def leftH (n : Int) (l : List Hk) : Int := if n - l.length < 0 then -1 else leftHF (n - l.length) l
theorem leftHF_stop {n : Int} {h : Hk} {t : List Hk} (hl : left n h.2.2 < 0) : leftHF n (h :: t) = -1 := by rw [leftHF, if_pos hl]
theorem leftHF_go {n : Int} {h : Hk} {t : List Hk} (hl : ¬ left n h.2.2 < 0) : leftHF n (h :: t) = leftHF (left n h.2.2) t := by rw [leftHF, if_neg hl]
/-- All lines of all hunks. -/
def allN (l : List Hk) : Nat := (l.map fun h => h.2.2.length).sum
theorem left_nums {n : Int} {ss : List ByteArray} (h : ¬ left n ss < 0) : left n ss = n - ss.length - tot ss ∧ (ss.length : Int) ≤ n ∧ tot ss ≤ n := by
  have ht := tot_nonneg ss
  unfold left at h ⊢
  split at h
  · omega
  · rename_i h'
    rw [if_neg h']; omega
theorem leftHF_nums : ∀ (l : List Hk) (n : Int), ¬ leftHF n l < 0 → (allN l : Int) ≤ n ∧ ∀ h ∈ l, (h.2.2.length : Int) ≤ n ∧ tot h.2.2 ≤ n := by
  intro l
  induction l with
  | nil => intro n h; exact ⟨by simp only [leftHF] at h; simp [allN]; omega, fun _ h => by cases h⟩
  | cons h t ih =>
    intro n hn
    by_cases hl : left n h.2.2 < 0
    · rw [leftHF_stop hl] at hn; omega
    · rw [leftHF_go hl] at hn
      obtain ⟨e, h1, h2⟩ := left_nums hl
      have ht := tot_nonneg h.2.2
      obtain ⟨i1, i2⟩ := ih _ hn
      rw [e] at i1 i2
      refine ⟨?_, ?_⟩
      · have : allN (h :: t) = h.2.2.length + allN t := by simp [allN]
        omega
      · intro x hx
        rcases List.mem_cons.1 hx with rfl | hx
        · exact ⟨h1, h2⟩
        · have := i2 x hx; omega
theorem leftH_nums {l : List Hk} {n : Int} (h : ¬ leftH n l < 0) : (l.length : Int) ≤ n ∧ (allN l : Int) ≤ n - l.length ∧ ∀ h ∈ l, (h.2.2.length : Int) ≤ n ∧ tot h.2.2 ≤ n := by
  unfold leftH at h
  split at h
  · omega
  · obtain ⟨h1, h2⟩ := leftHF_nums l _ h
    exact ⟨by omega, h1, fun x hx => by have := h2 x hx; omega⟩
/-- What toHunkS has copied behind k rounds. -/
def mixH (l : List Hk) (sl : Nat → Value) (k : Nat) (j : Nat) : Value := if j < k * 3 then hcell l sl j else if j % 3 = 2 then .slice none 0 0 else .int .i64 0
theorem mixH_zero (l : List Hk) (sl : Nat → Value) (n : Nat) : (madeCells (Value.agg #[.int .i64 0, .int .i64 0, .slice none 0 0]).cells (n * 3)).toList = rowF (mixH l sl 0) (n * 3) := by
  apply List.ext_getElem?
  intro j
  by_cases hj : j < n * 3
  · rw [rowF_at _ _ _ hj]
    have h3 : j % 3 = 0 ∨ j % 3 = 1 ∨ j % 3 = 2 := by omega
    rcases h3 with h | h | h <;> simp [madeCells, hj, Value.cells, h, mixH]
  · have e : (rowF (mixH l sl 0) (n * 3))[j]? = none := List.getElem?_eq_none (by rw [rowF_length]; omega)
    rw [e]
    simp [madeCells, hj]
theorem mixH_full (l : List Hk) (sl : Nat → Value) : rowF (mixH l sl l.length) (l.length * 3) = rowF (hcell l sl) (l.length * 3) := rowF_congr fun j hj => by unfold mixH; rw [if_pos hj]
theorem mixH_set (l : List Hk) (sl : Nat → Value) (k n : Nat) (v : Value) :
    (((rowF (mixH l sl k) n).set (k * 3) (.int .i64 (l.getD k (0, 0, [])).1)).set (k * 3 + 1) (.int .i64 (l.getD k (0, 0, [])).2.1)).set (k * 3 + 2) v = rowF (mixH l (fun i => if i = k then v else sl i) (k + 1)) n := by
  rw [rowF_set, rowF_set, rowF_set]
  apply rowF_congr
  intro j _
  show (if j = k * 3 + 2 then v else if j = k * 3 + 1 then _ else if j = k * 3 then _ else _) = _
  by_cases h2 : j = k * 3 + 2
  · subst h2
    rw [if_pos rfl]; unfold mixH; rw [if_pos (by omega), hcell2, if_pos rfl]
  · rw [if_neg h2]
    by_cases h1 : j = k * 3 + 1
    · subst h1
      rw [if_pos rfl]; unfold mixH; rw [if_pos (by omega), hcell1]
    · rw [if_neg h1]
      by_cases h0 : j = k * 3
      · subst h0
        rw [if_pos rfl]; unfold mixH; rw [if_pos (by omega), hcell0]
      · rw [if_neg h0]
        unfold mixH
        by_cases hlt : j < k * 3
        · rw [if_pos hlt, if_pos (by omega)]
          unfold hcell
          have : ¬ j / 3 = k := by omega
          simp only [this, if_false]
        · have hlt' : ¬ j < (k + 1) * 3 := by omega
          rw [if_neg hlt, if_neg hlt']
end Go.Proofs.YtnkbjbbaoddfkaaGreatDoor
/- The contracts of the laws' eqHunk and markHunk. No statement is proved here. -/
namespace Go.Proofs.YtnkbjbbaoddfkaaGreatDoor
open Go.ChangeShapes Go.WideShapes Go.ChangeAt Go.RowKit

end Go.Proofs.YtnkbjbbaoddfkaaGreatDoor
/- The contracts of the laws' helpers over lists of hunks (szHunkS, toHunkS, eqHunkS). No statement is proved here. -/
namespace Go.Proofs.YtnkbjbbaoddfkaaGreatDoor
open Go.ChangeShapes Go.WideShapes Go.ChangeAt Go.RowKit

/-- Every list of lines is of a length that a machine has. -/
def Long (l : List Hk) : Prop := ∀ h ∈ l, h.2.2.length ≤ 9223372036854775807

end Go.Proofs.YtnkbjbbaoddfkaaGreatDoor
