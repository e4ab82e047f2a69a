/- A builder that is told with two numbers: its block, and where its buffer may lie; what it lets stand. No statement is proved here. -/
import Derived.Test.YtjcnnmnnbjaheaaGreatDoorRows
import Derived.Test.YtjcnnmnnbjaheaaGreatDoorTeLQ
import Derived.Shelf.Strings.BuilderF
import Derived.Maps.AppendAt
import Derived.Lib.Strings
import Derived.Lib.Slices
import Derived.Lib.Walk
import Derived.Lib.Builder
import Derived.Lib.AppendStr
import Derived.Lib.UnsafeStr
import Derived.WalkKit
import Derived.Laws.Externs
import Derived.Test.YtjcnnmnnbjaheaaGreatDoorJnCQ
set_option linter.unusedVariables false
namespace Go.Proofs.YtjcnnmnnbjaheaaGreatDoor
open Go.RowKit

/-- A builder at the block b whose buffer lies above B. -/
def BA (B b : Nat) (p : Value) (bs : List Value) (w : World) : Prop := b < B ∧ ∃ v, w.heap[b]? = some (.cells #[p, v] 74 (0, 0)) ∧ w.ownsRowF B 5 1 v bs.length bs
def BI (B b : Nat) (bs : List Value) (w : World) : Prop := BA B b (.pointer none) bs w ∨ BA B b (.pointer (some ⟨b, 0, none⟩)) bs w
/-- Every block below B but b is as it was. -/
structure Kb (B b : Nat) (w w' : World) : Prop where
  os : w'.os = w.os
  tape : w'.tape = w.tape
  output : w'.output = w.output
  size : w.heap.size ≤ w'.heap.size
  block : ∀ k, k < B → ¬ k = b → w'.heap[k]? = w.heap[k]?
theorem Kb.refl (B b : Nat) (w : World) : Kb B b w w := ⟨rfl, rfl, rfl, Nat.le_refl _, fun _ _ _ => rfl⟩
theorem Kb.trans {B b : Nat} {w w1 w2 : World} (h : Kb B b w w1) (k : Kb B b w1 w2) : Kb B b w w2 := ⟨k.os.trans h.os, k.tape.trans h.tape, k.output.trans h.output, Nat.le_trans h.size k.size, fun j hj hb => (k.block j hj hb).trans (h.block j hj hb)⟩
theorem Kb.of {B b : Nat} {w w1 : World} (h : Below B w w1) : Kb B b w w1 := ⟨h.os, h.tape, h.output, h.size, fun j hj _ => h.block j hj⟩
theorem Kb.below {B b : Nat} {w w1 : World} (h : Kb B b w w1) (hb : b ≤ B) : Below b w w1 := ⟨h.os, h.tape, h.output, h.size, fun j hj => h.block j (by omega) (by omega)⟩
theorem Kb.set (B b o : Nat) (w : World) (v : Value) : Kb B b w (w.setCell ⟨b, o, none⟩ v) := ⟨rfl, rfl, rfl, by simp [World.size_setCell], fun j _ hb => by simp [World.setCell, Array.getElem?_modify, Ne.symm hb]⟩
theorem own_down {w : World} {B B' : Nat} {e : TypeId} {v : Value} {n : Nat} {xs : List Value} (h : w.ownsRowF B e 1 v n xs) (hB : B' ≤ B) : w.ownsRowF B' e 1 v n xs := by
  refine ⟨h.1, ?_⟩
  rcases h.2 with hn | ⟨g, cap, cur, fz, hv, hb, rest⟩
  · exact .inl hn
  · exact .inr ⟨g, cap, cur, fz, hv, Nat.le_trans hB hb, rest⟩
theorem own_set {w : World} {B b o : Nat} {e : TypeId} {v u : Value} {n : Nat} {xs : List Value} (h : w.ownsRowF B e 1 v n xs) (hb : b < B) : (w.setCell ⟨b, o, none⟩ u).ownsRowF B e 1 v n xs := by
  refine ⟨h.1, ?_⟩
  rcases h.2 with hn | ⟨g, cap, cur, fz, hv, hg, hh, rest⟩
  · exact .inl hn
  · refine .inr ⟨g, cap, cur, fz, hv, hg, ?_, rest⟩
    have hne : ¬ b = g := by omega
    simp [World.setCell, Array.getElem?_modify, hne, hh]
theorem BA.toF {B b : Nat} {p : Value} {bs : List Value} {w : World} (h : BA B b p bs w) : Lib.BuilderAtF 74 5 b b p bs w := by
  obtain ⟨hb, v, hh, hown⟩ := h
  exact ⟨Nat.le_refl _, v, hh, own_down hown (by omega), fun e => by have := (hown.lt b e).1; omega⟩
theorem BA.put {B b : Nat} {p v v' : Value} {bs : List Value} {w : World} (hb : b < B) (hh : w.heap[b]? = some (.cells #[p, v] 74 (0, 0))) (hown : w.ownsRowF B 5 1 v' bs.length bs) : BA B b p bs (w.setCell ⟨b, 1, none⟩ v') :=
  ⟨hb, v', by simp [World.setCell, Array.getElem?_modify, hh], own_set hown hb⟩
theorem BA.used {B b : Nat} {p : Value} {bs : List Value} {w : World} (h : BA B b p bs w) (q : Value) : BA B b q bs (w.setCell ⟨b, 0, none⟩ q) := by
  obtain ⟨hb, v, hh, hown⟩ := h
  exact ⟨hb, v, by simp [World.setCell, Array.getElem?_modify, hh], own_set hown hb⟩
theorem copyCheckG (B b : Nat) (bs : List Value) (w : World) (h : BI B b bs w) :
    Calls Tryz.prog 106 #[.pointer (some ⟨b, 0, none⟩)] w fun e w' => e = .returned (.tuple #[]) ∧ (BA B b (.pointer (some ⟨b, 0, none⟩)) bs w' ∧ Kb B b w w') := by
  rcases h with h | h
  · have h' := h.toF
    refine (copyCheck_fresh b w h'.cell0 h'.shape h'.frozen0).mono ?_
    rintro e w' ⟨rfl, rfl⟩
    exact ⟨rfl, h.used _, Kb.set _ _ _ _ _⟩
  · refine (copyCheck_used b w h.toF.cell0).mono ?_
    rintro e w' ⟨rfl, rfl⟩
    exact ⟨rfl, h, Kb.refl _ _ _⟩
theorem Kb.grown {B b : Nat} {w w1 w2 : World} {row : Option Nat} (h : Kb B b w w1) (hg : w1.grownBy w2 row) (hB : B ≤ w1.heap.size) (hr : ∀ k, row = some k → B ≤ k) : Kb B b w w2 :=
  h.trans (Kb.of ((Below.refl B w1).grown hg hB hr))

set_option maxHeartbeats 2000000 in
set_option maxRecDepth 100000 in
theorem writeStringG (B b : Nat) (bs : List Value) (s : ByteArray) (w : World) (h : BI B b bs w) (hlen : bs.length + s.size ≤ 140737488355328) (hBw : B ≤ w.heap.size) :
    Calls Tryz.prog 86 #[.pointer (some ⟨b, 0, none⟩), .string s] w fun e w' => e = .returned (.tuple #[.int .i64 s.size, .nilIface]) ∧ (BA B b (.pointer (some ⟨b, 0, none⟩)) (bs ++ Lib.strCells s) w' ∧ Kb B b w w') := by
  obtain ⟨i0, hi, hz0, hz1, hz2⟩ := info_parts infoByte
  go_enter Tryz.func86, Tryz.ntmps86
  go_wp2_with (go_at_call 106; refine (copyCheckG B b bs _ h).mono ?_)
  rintro e w1 ⟨rfl, h1, hb1⟩
  obtain ⟨hB, v, hbk, hown⟩ := h1
  have hne : v.ownBlock ≠ some b := fun e => by have := (hown.lt b e).1; omega
  have c0 : w1.cell? ⟨b, 0, none⟩ = some (.pointer (some ⟨b, 0, none⟩)) := by rw [Lib.cell_of_heap hbk]; rfl
  have c1 : w1.cell? ⟨b, 1, none⟩ = some v := by rw [Lib.cell_of_heap hbk]; rfl
  go_wp2_with (at_builtin; refine Lib.wpList_append_own_stringF _ rfl _ _ 22 9 rfl B 5 i0 Tryz.underlying22 Tryz.underlying9 hi hz0 hz1 hz2 _ _ _ rfl hown s rfl ?c3 ?c4 ?c5 ?_)
  case c3 => unfold maxLen; omega
  case c4 => omega
  case c5 => have := hb1.size; omega
  intro v' w2 hown' hgrow _
  have hlt : b < w1.heap.size := by
    rcases Nat.lt_or_ge b w1.heap.size with h' | h'
    · exact h'
    · simp [Array.getElem?_eq_none h'] at hbk
  have hb2 : w2.heap[b]? = some (.cells #[.pointer (some ⟨b, 0, none⟩), v] 74 (0, 0)) := by
    rw [hgrow.block b hlt (fun e => hne e.symm)]
    exact hbk
  have d0 : w2.cell? ⟨b, 0, none⟩ = some (.pointer (some ⟨b, 0, none⟩)) := by rw [Lib.cell_of_heap hb2]; rfl
  have d1 : w2.cell? ⟨b, 1, none⟩ = some v := by rw [Lib.cell_of_heap hb2]; rfl
  have f1 : w2.frozen? ⟨b, 1, none⟩ = false := Lib.frozen_of_heap hb2 1
  obtain ⟨ao, n', cap, rfl⟩ : ∃ ao n' cap, v' = .slice ao n' cap := by
    rcases hown'.2 with ⟨hv, _⟩ | ⟨g, cap, cur, fz, hv, _⟩
    · exact ⟨_, _, _, hv⟩
    · exact ⟨_, _, _, hv⟩
  go_wp2
  go_ret2
  refine ⟨rfl, ?_, ?_⟩
  · exact BA.put hB hb2 (bs := bs ++ Lib.strCells s) (by simpa [Lib.strCells_length] using hown')
  · exact (hb1.grown hgrow (by have := hb1.size; omega) (fun k hk => (hown.lt k hk).1)).trans (Kb.set _ _ _ _ _)

set_option maxHeartbeats 2000000 in
set_option maxRecDepth 100000 in
theorem writeByteG (B b : Nat) (bs : List Value) (c : Int) (w : World) (h : BI B b bs w) (hlen : bs.length + 1 ≤ 140737488355328) (hBw : B ≤ w.heap.size) :
    Calls Tryz.prog 88 #[.pointer (some ⟨b, 0, none⟩), .int .u8 c] w fun e w' => e = .returned .nilIface ∧ (BA B b (.pointer (some ⟨b, 0, none⟩)) (bs ++ [.int .u8 c]) w' ∧ Kb B b w w') := by
  obtain ⟨i0, hi, hz0, hz1, hz2⟩ := info_parts infoByte
  go_enter Tryz.func88, Tryz.ntmps88
  go_wp2_with (go_at_call 106; refine (copyCheckG B b bs _ h).mono ?_)
  rintro e w1 ⟨rfl, h1, hb1⟩
  obtain ⟨hB, v, hbk, hown⟩ := h1
  have hne : v.ownBlock ≠ some b := fun e => by have := (hown.lt b e).1; omega
  have c0 : w1.cell? ⟨b, 0, none⟩ = some (.pointer (some ⟨b, 0, none⟩)) := by rw [Lib.cell_of_heap hbk]; rfl
  have c1 : w1.cell? ⟨b, 1, none⟩ = some v := by rw [Lib.cell_of_heap hbk]; rfl
  have hownA : ∀ o, (w1.alloc o).ownsRowF B 5 1 v bs.length bs := fun o => hown.kept (World.grownBy_alloc w1 o none) (by cases hv : v.ownBlock <;> simp)
  go_wp2_with (at_builtin; refine wpList_append_oneF rfl _ _ 22 rfl B 5 i0 Tryz.underlying22 hi hz0 hz1 hz2 _ _ _ rfl (hownA _) ⟨w1.heap.size, 0, none⟩ 1 (.int .u8 c) rfl ?c1 ?c2 ?c3 ?c4 ?c5 ?_)
  case c1 =>
    intro j u hj
    match j, hj with
    | 0, hj => simp at hj; subst hj; simp [Addr.add]
  case c2 => intro u hu; simp at hu; subst hu; rfl
  case c3 => unfold maxLen; omega
  case c4 => omega
  case c5 => have := hb1.size; simp; omega
  intro v' w2 hown' hgrow
  have hlt : b < w1.heap.size := by
    rcases Nat.lt_or_ge b w1.heap.size with h' | h'
    · exact h'
    · simp [Array.getElem?_eq_none h'] at hbk
  have hb2 : w2.heap[b]? = some (.cells #[.pointer (some ⟨b, 0, none⟩), v] 74 (0, 0)) := by
    rw [hgrow.block b (by simp; omega) (fun e => hne e.symm), Lib.alloc_old w1 _ b hlt]
    exact hbk
  have d0 : w2.cell? ⟨b, 0, none⟩ = some (.pointer (some ⟨b, 0, none⟩)) := by rw [Lib.cell_of_heap hb2]; rfl
  have d1 : w2.cell? ⟨b, 1, none⟩ = some v := by rw [Lib.cell_of_heap hb2]; rfl
  have f1 : w2.frozen? ⟨b, 1, none⟩ = false := Lib.frozen_of_heap hb2 1
  obtain ⟨ao, n', cap, rfl⟩ : ∃ ao n' cap, v' = .slice ao n' cap := by
    rcases hown'.2 with ⟨hv, _⟩ | ⟨g, cap, cur, fz, hv, _⟩
    · exact ⟨_, _, _, hv⟩
    · exact ⟨_, _, _, hv⟩
  go_wp2
  go_ret
  refine ⟨rfl, ?_, ?_⟩
  · exact BA.put hB hb2 (bs := bs ++ [.int .u8 c]) (by simpa using hown')
  · exact ((hb1.trans (Kb.of ((Below.refl B w1).alloc (by have := hb1.size; omega) _))).grown hgrow (by have := hb1.size; simp; omega) (fun k hk => (hown.lt k hk).1)).trans (Kb.set _ _ _ _ _)
end Go.Proofs.YtjcnnmnnbjaheaaGreatDoor
