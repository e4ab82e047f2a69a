/- A builder that is told with two numbers, with a frame that keeps every block which is no row of bytes. No statement is proved here. -/
import Derived.Test.YtdfoponekgifkaaDoorRows
import Derived.Test.YtdfoponekgifkaaDoorBld
import Derived.Test.YtdfoponekgifkaaDoorShelfB
import Derived.Shelf.Strings.BuilderF
import Derived.Maps.AppendAt
import Derived.Lib.Strings
import Derived.Lib.Slices
import Derived.Lib.Walk
import Derived.Lib.Builder
import Derived.Lib.AppendStr
import Derived.Lib.UnsafeStr
import Derived.WalkKit
import Derived.Test.YtdfoponekgifkaaDoorOwn
import Derived.Laws.Externs
import Derived.Test.YtdfoponekgifkaaDoorBldF
import Derived.Test.YtdfoponekgifkaaDoorBldG
set_option linter.unusedVariables false
namespace Go.Proofs.YtdfoponekgifkaaDoor
open Go.RowKit

/-- A block that is no row of bytes. -/
def NB (w : World) (k : Nat) : Prop := ∀ cs fz, ¬ w.heap[k]? = some (.cells cs 5 fz)
/-- Every block below B but b is as it was, and every block but b that is no row of bytes. -/
structure Ky (B b : Nat) (w w' : World) : Prop where
  kb : Kb B b w w'
  nb : ∀ k, k < w.heap.size → ¬ k = b → NB w k → w'.heap[k]? = w.heap[k]?
theorem Ky.refl (B b : Nat) (w : World) : Ky B b w w := ⟨Kb.refl _ _ _, fun _ _ _ _ => rfl⟩
theorem NB.eq {w w' : World} {k : Nat} (h : NB w k) (e : w'.heap[k]? = w.heap[k]?) : NB w' k := fun cs fz => by rw [e]; exact h cs fz
theorem Ky.trans {B b : Nat} {w w1 w2 : World} (h : Ky B b w w1) (k : Ky B b w1 w2) : Ky B b w w2 :=
  ⟨h.kb.trans k.kb, fun j hj hb hn => (k.nb j (Nat.lt_of_lt_of_le hj h.kb.size) hb (hn.eq (h.nb j hj hb hn))).trans (h.nb j hj hb hn)⟩
theorem Ky.of {B b : Nat} {w w1 : World} (h : Below w.heap.size w w1) (hB : B ≤ w.heap.size) : Ky B b w w1 := ⟨Kb.of (h.mono hB), fun j hj _ _ => h.block j hj⟩
theorem Ky.set (B b o : Nat) (w : World) (v : Value) : Ky B b w (w.setCell ⟨b, o, none⟩ v) := ⟨Kb.set _ _ _ _ _, fun j _ hb _ => by simp [World.setCell, Array.getElem?_modify, Ne.symm hb]⟩
theorem Ky.cell {B b k o : Nat} {w w' : World} {v : Value} (h : Ky B b w w') (hk : k < w.heap.size) (hb : ¬ k = b) (hn : NB w k) (hc : w.cell? ⟨k, o, none⟩ = some v) : w'.cell? ⟨k, o, none⟩ = some v := by
  unfold World.cell? at hc ⊢
  simp only [h.nb k hk hb hn]
  exact hc
theorem own_nb {w : World} {B k : Nat} {v : Value} {n : Nat} {xs : List Value} (h : w.ownsRowF B 5 1 v n xs) (hn : NB w k) : ¬ some k = v.ownBlock := by
  intro e
  rcases h.2 with ⟨rfl, _⟩ | ⟨g, cap, cur, fz, rfl, _, hg, _⟩
  · simp [Value.ownBlock] at e
  · simp [Value.ownBlock] at e
    subst e
    exact hn _ _ hg
theorem Ky.grown {B b : Nat} {w w1 w2 : World} {v : Value} {n : Nat} {xs : List Value} (h : Ky B b w w1) (ho : w1.ownsRowF B 5 1 v n xs) (hg : w1.grownBy w2 v.ownBlock) (hB : B ≤ w1.heap.size) (hr : ∀ k, v.ownBlock = some k → B ≤ k) : Ky B b w w2 :=
  h.trans ⟨Kb.of ((Below.refl B w1).grown hg hB hr), fun j hj hb hn => hg.block j hj (own_nb ho hn)⟩
theorem copyCheckH (B b : Nat) (bs : List Value) (w : World) (h : BI B b bs w) :
    Calls Tryd.prog 70 #[.pointer (some ⟨b, 0, none⟩)] w fun e w' => e = .returned (.tuple #[]) ∧ (BA B b (.pointer (some ⟨b, 0, none⟩)) bs w' ∧ Ky B b w w') := by
  rcases h with h | h
  · have h' := h.toF
    refine (copyCheck_fresh b w h'.cell0 h'.shape h'.frozen0).mono ?_
    rintro e w' ⟨rfl, rfl⟩
    exact ⟨rfl, h.used _, Ky.set _ _ _ _ _⟩
  · refine (copyCheck_used b w h.toF.cell0).mono ?_
    rintro e w' ⟨rfl, rfl⟩
    exact ⟨rfl, h, Ky.refl _ _ _⟩
set_option maxHeartbeats 2000000 in
set_option maxRecDepth 100000 in
theorem writeStringH (B b : Nat) (bs : List Value) (s : ByteArray) (w : World) (h : BI B b bs w) (hlen : bs.length + s.size ≤ 140737488355328) (hBw : B ≤ w.heap.size) :
    Calls Tryd.prog 58 #[.pointer (some ⟨b, 0, none⟩), .string s] w fun e w' => e = .returned (.tuple #[.int .i64 s.size, .nilIface]) ∧ (BA B b (.pointer (some ⟨b, 0, none⟩)) (bs ++ Lib.strCells s) w' ∧ Ky B b w w') := by
  obtain ⟨i0, hi, hz0, hz1, hz2⟩ := info_parts infoByte
  go_enter Tryd.func58, Tryd.ntmps58
  go_wp2_with (go_at_call 70; refine (copyCheckH B b bs _ h).mono ?_)
  rintro e w1 ⟨rfl, h1, hb1⟩
  obtain ⟨hB, v, hbk, hown⟩ := h1
  have hne : v.ownBlock ≠ some b := fun e => by have := (hown.lt b e).1; omega
  have c0 : w1.cell? ⟨b, 0, none⟩ = some (.pointer (some ⟨b, 0, none⟩)) := by rw [Lib.cell_of_heap hbk]; rfl
  have c1 : w1.cell? ⟨b, 1, none⟩ = some v := by rw [Lib.cell_of_heap hbk]; rfl
  go_wp2_with (at_builtin; refine Lib.wpList_append_own_stringF _ rfl _ _ 47 9 rfl B 5 i0 Tryd.underlying47 Tryd.underlying9 hi hz0 hz1 hz2 _ _ _ rfl hown s rfl ?c3 ?c4 ?c5 ?_)
  case c3 => unfold maxLen; omega
  case c4 => omega
  case c5 => have := hb1.kb.size; omega
  intro v' w2 hown' hgrow _
  have hlt : b < w1.heap.size := by
    rcases Nat.lt_or_ge b w1.heap.size with h' | h'
    · exact h'
    · simp [Array.getElem?_eq_none h'] at hbk
  have hb2 : w2.heap[b]? = some (.cells #[.pointer (some ⟨b, 0, none⟩), v] 49 (0, 0)) := by
    rw [hgrow.block b hlt (fun e => hne e.symm)]
    exact hbk
  have d0 : w2.cell? ⟨b, 0, none⟩ = some (.pointer (some ⟨b, 0, none⟩)) := by rw [Lib.cell_of_heap hb2]; rfl
  have d1 : w2.cell? ⟨b, 1, none⟩ = some v := by rw [Lib.cell_of_heap hb2]; rfl
  have f1 : w2.frozen? ⟨b, 1, none⟩ = false := Lib.frozen_of_heap hb2 1
  obtain ⟨ao, n', cap, rfl⟩ : ∃ ao n' cap, v' = .slice ao n' cap := by
    rcases hown'.2 with ⟨hv, _⟩ | ⟨g, cap, cur, fz, hv, _⟩
    · exact ⟨_, _, _, hv⟩
    · exact ⟨_, _, _, hv⟩
  go_wp2
  go_ret2
  refine ⟨rfl, ?_, ?_⟩
  · exact BA.put hB hb2 (bs := bs ++ Lib.strCells s) (by simpa [Lib.strCells_length] using hown')
  · exact (hb1.grown hown hgrow (by have := hb1.kb.size; omega) (fun k hk => (hown.lt k hk).1)).trans (Ky.set _ _ _ _ _)

end Go.Proofs.YtdfoponekgifkaaDoor
