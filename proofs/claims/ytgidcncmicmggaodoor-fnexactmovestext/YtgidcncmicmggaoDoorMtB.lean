/- A builder that is written while a move's own block is read: WriteString lets every block of a move be. No statement is proved here. -/
import Derived.Test.YtgidcncmicmggaoDoorRows
import Derived.Test.YtgidcncmicmggaoDoorBld
import Derived.Test.YtgidcncmicmggaoDoorShelfB
import Derived.Shelf.Strings.BuilderF
import Derived.Maps.AppendAt
import Derived.Lib.Strings
import Derived.Lib.Slices
import Derived.Lib.Walk
import Derived.Lib.Builder
import Derived.Lib.AppendStr
import Derived.Lib.UnsafeStr
import Derived.WalkKit
import Derived.Laws.Externs
import Derived.Test.YtgidcncmicmggaoDoorBldF
import Derived.Test.YtgidcncmicmggaoDoorBldG
set_option linter.unusedVariables false
namespace Go.Proofs.YtgidcncmicmggaoDoor.Mv
open Go.RowKit

/-- Blocks of moves are as they were. -/
def Km (w w' : World) : Prop := ∀ (g : Nat) (cs : Array Value), w.heap[g]? = some (.cells cs 36 (0, 0)) → w'.heap[g]? = some (.cells cs 36 (0, 0))
theorem Km.refl (w : World) : Km w w := fun _ _ h => h
theorem Km.trans {w w1 w2 : World} (h : Km w w1) (k : Km w1 w2) : Km w w2 := fun g cs hg => k g cs (h g cs hg)
theorem Km.below {w w1 : World} (h : Below w.heap.size w w1) : Km w w1 := fun g cs hg => (h.block g (Array.getElem?_eq_some_iff.1 hg).1).trans hg
theorem Km.grown {w w1 : World} {row : Option Nat} (h : w.grownBy w1 row) (hr : ∀ g cs, w.heap[g]? = some (.cells cs 36 (0, 0)) → row = some g → False) : Km w w1 := fun g cs hg => (h.block g (Array.getElem?_eq_some_iff.1 hg).1 (fun e => hr g cs hg e.symm)).trans hg
theorem Km.set {w : World} {b o : Nat} {v : Value} {bs : Array Value} {fz : Nat × Nat} (h : w.heap[b]? = some (.cells bs 43 fz)) : Km w (w.setCell ⟨b, o, none⟩ v) := fun g cs hg => by
  have hne : ¬ g = b := fun e => by
    subst e
    rw [hg] at h
    simp at h
  exact (Below.heap_setCell _ _ _ _ (by simpa using hne)).trans hg
theorem copyCheckM (B b : Nat) (bs : List Value) (w : World) (h : BI B b bs w) :
    Calls Tryd.prog 24 #[.pointer (some ⟨b, 0, none⟩)] w fun e w' => e = .returned (.tuple #[]) ∧ (BA B b (.pointer (some ⟨b, 0, none⟩)) bs w' ∧ Kb B b w w' ∧ Km w w') := by
  rcases h with h | h
  · have h' := h.toF
    refine (copyCheck_fresh b w h'.cell0 h'.shape h'.frozen0).mono ?_
    rintro e w' ⟨rfl, rfl⟩
    obtain ⟨_, v, hh, _⟩ := id h
    exact ⟨rfl, h.used _, Kb.set _ _ _ _ _, Km.set hh⟩
  · refine (copyCheck_used b w h.toF.cell0).mono ?_
    rintro e w' ⟨rfl, rfl⟩
    exact ⟨rfl, h, Kb.refl _ _ _, Km.refl _⟩
set_option maxHeartbeats 2000000 in
set_option maxRecDepth 100000 in
theorem writeStringM (B b : Nat) (bs : List Value) (s : ByteArray) (w : World) (h : BI B b bs w) (hlen : bs.length + s.size ≤ 140737488355328) (hBw : B ≤ w.heap.size) :
    Calls Tryd.prog 16 #[.pointer (some ⟨b, 0, none⟩), .string s] w fun e w' => e = .returned (.tuple #[.int .i64 s.size, .nilIface]) ∧ (BA B b (.pointer (some ⟨b, 0, none⟩)) (bs ++ Lib.strCells s) w' ∧ Kb B b w w' ∧ Km w w') := by
  obtain ⟨i0, hi, hz0, hz1, hz2⟩ := info_parts infoByte
  go_enter Tryd.func16, Tryd.ntmps16
  go_wp2_with (go_at_call 24; refine (copyCheckM B b bs _ h).mono ?_)
  rintro e w1 ⟨rfl, h1, hb1, hm1⟩
  obtain ⟨hB, v, hbk, hown⟩ := h1
  have hne : v.ownBlock ≠ some b := fun e => by have := (hown.lt b e).1; omega
  have c0 : w1.cell? ⟨b, 0, none⟩ = some (.pointer (some ⟨b, 0, none⟩)) := by rw [Lib.cell_of_heap hbk]; rfl
  have c1 : w1.cell? ⟨b, 1, none⟩ = some v := by rw [Lib.cell_of_heap hbk]; rfl
  go_wp2_with (at_builtin; refine Lib.wpList_append_own_stringF _ rfl _ _ 41 9 rfl B 5 i0 Tryd.underlying41 Tryd.underlying9 hi hz0 hz1 hz2 _ _ _ rfl hown s rfl ?c3 ?c4 ?c5 ?_)
  case c3 => unfold maxLen; omega
  case c4 => omega
  case c5 => have := hb1.size; omega
  intro v' w2 hown' hgrow _
  have hlt : b < w1.heap.size := by
    rcases Nat.lt_or_ge b w1.heap.size with h' | h'
    · exact h'
    · simp [Array.getElem?_eq_none h'] at hbk
  have hb2 : w2.heap[b]? = some (.cells #[.pointer (some ⟨b, 0, none⟩), v] 43 (0, 0)) := by
    rw [hgrow.block b hlt (fun e => hne e.symm)]
    exact hbk
  have d0 : w2.cell? ⟨b, 0, none⟩ = some (.pointer (some ⟨b, 0, none⟩)) := by rw [Lib.cell_of_heap hb2]; rfl
  have d1 : w2.cell? ⟨b, 1, none⟩ = some v := by rw [Lib.cell_of_heap hb2]; rfl
  have f1 : w2.frozen? ⟨b, 1, none⟩ = false := Lib.frozen_of_heap hb2 1
  obtain ⟨ao, n', cap, rfl⟩ : ∃ ao n' cap, v' = .slice ao n' cap := by
    rcases hown'.2 with ⟨hv, _⟩ | ⟨g, cap, cur, fz, hv, _⟩
    · exact ⟨_, _, _, hv⟩
    · exact ⟨_, _, _, hv⟩
  go_wp2
  go_ret2
  refine ⟨rfl, ?_, ?_, ?_⟩
  · exact BA.put hB hb2 (bs := bs ++ Lib.strCells s) (by simpa [Lib.strCells_length] using hown')
  · exact (hb1.grown hgrow (by have := hb1.size; omega) (fun k hk => (hown.lt k hk).1)).trans (Kb.set _ _ _ _ _)
  · refine (hm1.trans (Km.grown hgrow fun g cs hg e => ?_)).trans (Km.set hb2)
    rcases hown.2 with ⟨rfl, _⟩ | ⟨g', cap', cur', fz', rfl, _, hgb, _⟩
    · simp [Value.ownBlock] at e
    · obtain rfl : g' = g := by simpa [Value.ownBlock] using e
      rw [hgb] at hg
      simp at hg
end Go.Proofs.YtgidcncmicmggaoDoor.Mv
