/- A builder that is told with two numbers, with a frame that keeps every block which is no row of bytes. No statement is proved here. -/
import Derived.Test.YtjcnnmnnbjaheaaGreatDoorRows
import Derived.Test.YtjcnnmnnbjaheaaGreatDoorTeLQ
import Derived.Shelf.Strings.BuilderF
import Derived.Maps.AppendAt
import Derived.Lib.Strings
import Derived.Lib.Slices
import Derived.Lib.Walk
import Derived.Lib.Builder
import Derived.Lib.AppendStr
import Derived.Lib.UnsafeStr
import Derived.WalkKit
import Derived.Test.YtjcnnmnnbjaheaaGreatDoorDTabQ
import Derived.Laws.Externs
import Derived.Test.YtjcnnmnnbjaheaaGreatDoorJnCQ
import Derived.Test.YtjcnnmnnbjaheaaGreatDoorBldGQ
import Derived.Test.YtjcnnmnnbjaheaaGreatDoorLemQ
import Derived.ProofKit
import Derived.Below
import Derived.WalkSpells
import Derived.Test.YtjcnnmnnbjaheaaGreatDoorWwCQ
set_option linter.unusedVariables false
namespace Go.Proofs.YtjcnnmnnbjaheaaGreatDoor
open Go.RowKit

/-- A block that is no row of bytes. -/
def NB (w : World) (k : Nat) : Prop := ∀ cs fz, ¬ w.heap[k]? = some (.cells cs 5 fz)
/-- Every block below B but b is as it was, and every block but b that is no row of bytes. -/
structure Ky (B b : Nat) (w w' : World) : Prop where
  kb : Kb B b w w'
  nb : ∀ k, k < w.heap.size → ¬ k = b → NB w k → w'.heap[k]? = w.heap[k]?
theorem Ky.refl (B b : Nat) (w : World) : Ky B b w w := ⟨Kb.refl _ _ _, fun _ _ _ _ => rfl⟩
theorem NB.eq {w w' : World} {k : Nat} (h : NB w k) (e : w'.heap[k]? = w.heap[k]?) : NB w' k := fun cs fz => by rw [e]; exact h cs fz
theorem Ky.trans {B b : Nat} {w w1 w2 : World} (h : Ky B b w w1) (k : Ky B b w1 w2) : Ky B b w w2 :=
  ⟨h.kb.trans k.kb, fun j hj hb hn => (k.nb j (Nat.lt_of_lt_of_le hj h.kb.size) hb (hn.eq (h.nb j hj hb hn))).trans (h.nb j hj hb hn)⟩
theorem Ky.of {B b : Nat} {w w1 : World} (h : Below w.heap.size w w1) (hB : B ≤ w.heap.size) : Ky B b w w1 := ⟨Kb.of (h.mono hB), fun j hj _ _ => h.block j hj⟩
theorem Ky.set (B b o : Nat) (w : World) (v : Value) : Ky B b w (w.setCell ⟨b, o, none⟩ v) := ⟨Kb.set _ _ _ _ _, fun j _ hb _ => by simp [World.setCell, Array.getElem?_modify, Ne.symm hb]⟩
theorem Ky.cell {B b k o : Nat} {w w' : World} {v : Value} (h : Ky B b w w') (hk : k < w.heap.size) (hb : ¬ k = b) (hn : NB w k) (hc : w.cell? ⟨k, o, none⟩ = some v) : w'.cell? ⟨k, o, none⟩ = some v := by
  unfold World.cell? at hc ⊢
  simp only [h.nb k hk hb hn]
  exact hc
theorem own_nb {w : World} {B k : Nat} {v : Value} {n : Nat} {xs : List Value} (h : w.ownsRowF B 5 1 v n xs) (hn : NB w k) : ¬ some k = v.ownBlock := by
  intro e
  rcases h.2 with ⟨rfl, _⟩ | ⟨g, cap, cur, fz, rfl, _, hg, _⟩
  · simp [Value.ownBlock] at e
  · simp [Value.ownBlock] at e
    subst e
    exact hn _ _ hg
theorem Ky.grown {B b : Nat} {w w1 w2 : World} {v : Value} {n : Nat} {xs : List Value} (h : Ky B b w w1) (ho : w1.ownsRowF B 5 1 v n xs) (hg : w1.grownBy w2 v.ownBlock) (hB : B ≤ w1.heap.size) (hr : ∀ k, v.ownBlock = some k → B ≤ k) : Ky B b w w2 :=
  h.trans ⟨Kb.of ((Below.refl B w1).grown hg hB hr), fun j hj hb hn => hg.block j hj (own_nb ho hn)⟩
theorem copyCheckH (B b : Nat) (bs : List Value) (w : World) (h : BI B b bs w) :
    Calls Tryz.prog 106 #[.pointer (some ⟨b, 0, none⟩)] w fun e w' => e = .returned (.tuple #[]) ∧ (BA B b (.pointer (some ⟨b, 0, none⟩)) bs w' ∧ Ky B b w w') := by
  rcases h with h | h
  · have h' := h.toF
    refine (copyCheck_fresh b w h'.cell0 h'.shape h'.frozen0).mono ?_
    rintro e w' ⟨rfl, rfl⟩
    exact ⟨rfl, h.used _, Ky.set _ _ _ _ _⟩
  · refine (copyCheck_used b w h.toF.cell0).mono ?_
    rintro e w' ⟨rfl, rfl⟩
    exact ⟨rfl, h, Ky.refl _ _ _⟩
set_option maxHeartbeats 2000000 in
set_option maxRecDepth 100000 in
theorem writeStringH (B b : Nat) (bs : List Value) (s : ByteArray) (w : World) (h : BI B b bs w) (hlen : bs.length + s.size ≤ 140737488355328) (hBw : B ≤ w.heap.size) :
    Calls Tryz.prog 86 #[.pointer (some ⟨b, 0, none⟩), .string s] w fun e w' => e = .returned (.tuple #[.int .i64 s.size, .nilIface]) ∧ (BA B b (.pointer (some ⟨b, 0, none⟩)) (bs ++ Lib.strCells s) w' ∧ Ky B b w w') := by
  obtain ⟨i0, hi, hz0, hz1, hz2⟩ := info_parts infoByte
  go_enter Tryz.func86, Tryz.ntmps86
  go_wp2_with (go_at_call 106; refine (copyCheckH B b bs _ h).mono ?_)
  rintro e w1 ⟨rfl, h1, hb1⟩
  obtain ⟨hB, v, hbk, hown⟩ := h1
  have hne : v.ownBlock ≠ some b := fun e => by have := (hown.lt b e).1; omega
  have c0 : w1.cell? ⟨b, 0, none⟩ = some (.pointer (some ⟨b, 0, none⟩)) := by rw [Lib.cell_of_heap hbk]; rfl
  have c1 : w1.cell? ⟨b, 1, none⟩ = some v := by rw [Lib.cell_of_heap hbk]; rfl
  go_wp2_with (at_builtin; refine Lib.wpList_append_own_stringF _ rfl _ _ 22 9 rfl B 5 i0 Tryz.underlying22 Tryz.underlying9 hi hz0 hz1 hz2 _ _ _ rfl hown s rfl ?c3 ?c4 ?c5 ?_)
  case c3 => unfold maxLen; omega
  case c4 => omega
  case c5 => have := hb1.kb.size; omega
  intro v' w2 hown' hgrow _
  have hlt : b < w1.heap.size := by
    rcases Nat.lt_or_ge b w1.heap.size with h' | h'
    · exact h'
    · simp [Array.getElem?_eq_none h'] at hbk
  have hb2 : w2.heap[b]? = some (.cells #[.pointer (some ⟨b, 0, none⟩), v] 74 (0, 0)) := by
    rw [hgrow.block b hlt (fun e => hne e.symm)]
    exact hbk
  have d0 : w2.cell? ⟨b, 0, none⟩ = some (.pointer (some ⟨b, 0, none⟩)) := by rw [Lib.cell_of_heap hb2]; rfl
  have d1 : w2.cell? ⟨b, 1, none⟩ = some v := by rw [Lib.cell_of_heap hb2]; rfl
  have f1 : w2.frozen? ⟨b, 1, none⟩ = false := Lib.frozen_of_heap hb2 1
  obtain ⟨ao, n', cap, rfl⟩ : ∃ ao n' cap, v' = .slice ao n' cap := by
    rcases hown'.2 with ⟨hv, _⟩ | ⟨g, cap, cur, fz, hv, _⟩
    · exact ⟨_, _, _, hv⟩
    · exact ⟨_, _, _, hv⟩
  go_wp2
  go_ret2
  refine ⟨rfl, ?_, ?_⟩
  · exact BA.put hB hb2 (bs := bs ++ Lib.strCells s) (by simpa [Lib.strCells_length] using hown')
  · exact (hb1.grown hown hgrow (by have := hb1.kb.size; omega) (fun k hk => (hown.lt k hk).1)).trans (Ky.set _ _ _ _ _)

set_option maxHeartbeats 2000000 in
set_option maxRecDepth 100000 in
theorem writeByteH (B b : Nat) (bs : List Value) (c : Int) (w : World) (h : BI B b bs w) (hlen : bs.length + 1 ≤ 140737488355328) (hBw : B ≤ w.heap.size) :
    Calls Tryz.prog 88 #[.pointer (some ⟨b, 0, none⟩), .int .u8 c] w fun e w' => e = .returned .nilIface ∧ (BA B b (.pointer (some ⟨b, 0, none⟩)) (bs ++ [.int .u8 c]) w' ∧ Ky B b w w') := by
  obtain ⟨i0, hi, hz0, hz1, hz2⟩ := info_parts infoByte
  go_enter Tryz.func88, Tryz.ntmps88
  go_wp2_with (go_at_call 106; refine (copyCheckH B b bs _ h).mono ?_)
  rintro e w1 ⟨rfl, h1, hb1⟩
  obtain ⟨hB, v, hbk, hown⟩ := h1
  have hne : v.ownBlock ≠ some b := fun e => by have := (hown.lt b e).1; omega
  have c0 : w1.cell? ⟨b, 0, none⟩ = some (.pointer (some ⟨b, 0, none⟩)) := by rw [Lib.cell_of_heap hbk]; rfl
  have c1 : w1.cell? ⟨b, 1, none⟩ = some v := by rw [Lib.cell_of_heap hbk]; rfl
  have hownA : ∀ o, (w1.alloc o).ownsRowF B 5 1 v bs.length bs := fun o => hown.kept (World.grownBy_alloc w1 o none) (by cases hv : v.ownBlock <;> simp)
  go_wp2_with (at_builtin; refine wpList_append_oneF rfl _ _ 22 rfl B 5 i0 Tryz.underlying22 hi hz0 hz1 hz2 _ _ _ rfl (hownA _) ⟨w1.heap.size, 0, none⟩ 1 (.int .u8 c) rfl ?c1 ?c2 ?c3 ?c4 ?c5 ?_)
  case c1 =>
    intro j u hj
    match j, hj with
    | 0, hj => simp at hj; subst hj; simp [Addr.add]
  case c2 => intro u hu; simp at hu; subst hu; rfl
  case c3 => unfold maxLen; omega
  case c4 => omega
  case c5 => have := hb1.kb.size; simp; omega
  intro v' w2 hown' hgrow
  have hlt : b < w1.heap.size := by
    rcases Nat.lt_or_ge b w1.heap.size with h' | h'
    · exact h'
    · simp [Array.getElem?_eq_none h'] at hbk
  have hb2 : w2.heap[b]? = some (.cells #[.pointer (some ⟨b, 0, none⟩), v] 74 (0, 0)) := by
    rw [hgrow.block b (by simp; omega) (fun e => hne e.symm), Lib.alloc_old w1 _ b hlt]
    exact hbk
  have d0 : w2.cell? ⟨b, 0, none⟩ = some (.pointer (some ⟨b, 0, none⟩)) := by rw [Lib.cell_of_heap hb2]; rfl
  have d1 : w2.cell? ⟨b, 1, none⟩ = some v := by rw [Lib.cell_of_heap hb2]; rfl
  have f1 : w2.frozen? ⟨b, 1, none⟩ = false := Lib.frozen_of_heap hb2 1
  obtain ⟨ao, n', cap, rfl⟩ : ∃ ao n' cap, v' = .slice ao n' cap := by
    rcases hown'.2 with ⟨hv, _⟩ | ⟨g, cap, cur, fz, hv, _⟩
    · exact ⟨_, _, _, hv⟩
    · exact ⟨_, _, _, hv⟩
  go_wp2
  go_ret
  refine ⟨rfl, ?_, ?_⟩
  · exact BA.put hB hb2 (bs := bs ++ [.int .u8 c]) (by simpa using hown')
  · exact ((hb1.trans (Ky.of (allocBelow w1 _) (by have := hb1.kb.size; omega))).grown (hownA _) hgrow (by have := hb1.kb.size; simp; omega) (fun k hk => (hown.lt k hk).1)).trans (Ky.set _ _ _ _ _)
end Go.Proofs.YtjcnnmnnbjaheaaGreatDoor
/- writeWords at a builder that is told with two numbers. No statement is proved here. -/
set_option linter.unusedVariables false
namespace Go.Proofs.YtjcnnmnnbjaheaaGreatDoor
open Go.ChangeShapes Go.WideShapes Go.ChangeAt Go.RowKit

theorem BA.below {B b : Nat} {p : Value} {bs : List Value} {w w' : World} (h : BA B b p bs w) (hb : Below w.heap.size w w') : BA B b p bs w' := by
  obtain ⟨h1, v, hh, hown⟩ := h
  have hlt : b < w.heap.size := by
    rcases Nat.lt_or_ge b w.heap.size with h' | h'
    · exact h'
    · simp [Array.getElem?_eq_none h'] at hh
  exact ⟨h1, v, (hb.block b hlt).trans hh, hown.kept (grownOfBelow hb none) (by cases hv : v.ownBlock <;> simp)⟩
theorem BI.below {B b : Nat} {bs : List Value} {w w' : World} (h : BI B b bs w) (hb : Below w.heap.size w w') : BI B b bs w' := h.elim (fun x => .inl (x.below hb)) (fun x => .inr (x.below hb))
/-- A builder that holds these bytes. -/
def TG (B b : Nat) (l : List UInt8) (w : World) : Prop := BI B b (Lib.byteCells l) w
theorem TG.toB {B b : Nat} {l : List UInt8} {w : World} (h : TG B b l w) : TB b b l w := h.elim (fun x => .inl x.toF) (fun x => .inr x.toF)
theorem TG.below {B b : Nat} {l : List UInt8} {w w' : World} (h : TG B b l w) (hb : Below w.heap.size w w') : TG B b l w' := BI.below h hb
set_option maxHeartbeats 1000000 in
theorem writeWordsG (B b g off c : Nat) (l : List UInt8) (ss : List ByteArray) (w : World) (hB : TG B b l w) (hbs : B ≤ w.heap.size) (hs : SS w (some ⟨g, off, none⟩) ss) (h2 : 2 ≤ ss.length) (hc : ss.length ≤ c) (hn : ss.length ≤ 1048576) (htot : tot ss ≤ 1048576) (hl : l.length ≤ 1000000000) :
    Calls Tryz.prog 52 #[.pointer (some ⟨b, 0, none⟩), .slice (some ⟨g, off, none⟩) ss.length c] w fun e w' => e = .returned (.tuple #[]) ∧ TG B b (l ++ wl ss) w' ∧ Kb B b w w' := by
  have hJ := joinC g off c ss w hs h2 hc hn htot
  have hsz : (jnB ss).size ≤ 3145728 := by
    have := jl_len ss (ss.length - 1) (by omega)
    have h3 := tot_take_le ss (ss.length - 1 + 1)
    show (jl ss (ss.length - 1)).toArray.size ≤ _
    simp
    omega
  have HW : Hid (wl ss = (jnB ss).data.toList ++ [10]) := rfl
  obtain ⟨J, hJe⟩ : ∃ J, jnB ss = J := ⟨_, rfl⟩
  rw [hJe] at hJ hsz HW
  clear hJe
  go_enter Tryz.func52, Tryz.ntmps52
  go_wp2_with fail
  refine hJ.mono ?_; rintro e w1 ⟨rfl, b1⟩
  have T1 := hB.below b1
  have s1 := b1.size
  have hWs := writeStringG B b _ J w1 T1 (by rw [Lib.byteCells_length]; omega) (by omega)
  clear hJ T1
  go_wp2_with fail
  refine hWs.mono ?_; rintro e w2 ⟨rfl, h2', b2⟩
  have s2 := b2.size
  have hWb := writeByteG B b _ 10 w2 (.inr h2') (by rw [List.length_append, Lib.byteCells_length, Lib.strCells_eq, Lib.byteCells_length]; simp; omega) (by omega)
  clear hWs
  go_wp2_with fail
  refine hWb.mono ?_; rintro e w3 ⟨rfl, h3', b3⟩
  have HT : Hid (TG B b (l ++ wl ss) w3) := by
    show BI _ _ _ _
    refine .inr ?_
    have e : Lib.byteCells (l ++ wl ss) = Lib.byteCells l ++ Lib.strCells J ++ [.int .u8 10] := by
      rw [HW.out, Lib.byteCells_append, Lib.byteCells_append, ← Lib.strCells_eq, List.append_assoc]
      rfl
    rw [e]
    exact h3'
  have HB : Hid (Kb B b w w3) := ((Kb.of (b1.mono hbs)).trans b2).trans b3
  clear hWb h2' h3' b1 b2 b3 hB
  go_wp2
  go_end0
  exact ⟨rfl, HT.out, HB.out⟩
end Go.Proofs.YtjcnnmnnbjaheaaGreatDoor
/- writeWords with the frame of BldH. No statement is proved here. -/
set_option linter.unusedVariables false
namespace Go.Proofs.YtjcnnmnnbjaheaaGreatDoor
open Go.ChangeShapes Go.WideShapes Go.ChangeAt Go.RowKit

set_option maxHeartbeats 1000000 in
theorem writeWordsH (B b g off c : Nat) (l : List UInt8) (ss : List ByteArray) (w : World) (hB : TG B b l w) (hbs : B ≤ w.heap.size) (hs : SS w (some ⟨g, off, none⟩) ss) (h2 : 2 ≤ ss.length) (hc : ss.length ≤ c) (hn : ss.length ≤ 1048576) (htot : tot ss ≤ 1048576) (hl : l.length ≤ 1000000000) :
    Calls Tryz.prog 52 #[.pointer (some ⟨b, 0, none⟩), .slice (some ⟨g, off, none⟩) ss.length c] w fun e w' => e = .returned (.tuple #[]) ∧ TG B b (l ++ wl ss) w' ∧ Ky B b w w' := by
  have hJ := joinC g off c ss w hs h2 hc hn htot
  have hsz : (jnB ss).size ≤ 3145728 := by
    have := jl_len ss (ss.length - 1) (by omega)
    have h3 := tot_take_le ss (ss.length - 1 + 1)
    show (jl ss (ss.length - 1)).toArray.size ≤ _
    simp
    omega
  have HW : Hid (wl ss = (jnB ss).data.toList ++ [10]) := rfl
  obtain ⟨J, hJe⟩ : ∃ J, jnB ss = J := ⟨_, rfl⟩
  rw [hJe] at hJ hsz HW
  clear hJe
  go_enter Tryz.func52, Tryz.ntmps52
  go_wp2_with fail
  refine hJ.mono ?_; rintro e w1 ⟨rfl, b1⟩
  have T1 := hB.below b1
  have s1 := b1.size
  have hWs := writeStringH B b _ J w1 T1 (by rw [Lib.byteCells_length]; omega) (by omega)
  clear hJ T1
  go_wp2_with fail
  refine hWs.mono ?_; rintro e w2 ⟨rfl, h2', b2⟩
  have s2 := b2.kb.size
  have hWb := writeByteH B b _ 10 w2 (.inr h2') (by rw [List.length_append, Lib.byteCells_length, Lib.strCells_eq, Lib.byteCells_length]; simp; omega) (by omega)
  clear hWs
  go_wp2_with fail
  refine hWb.mono ?_; rintro e w3 ⟨rfl, h3', b3⟩
  have HT : Hid (TG B b (l ++ wl ss) w3) := by
    show BI _ _ _ _
    refine .inr ?_
    have e : Lib.byteCells (l ++ wl ss) = Lib.byteCells l ++ Lib.strCells J ++ [.int .u8 10] := by
      rw [HW.out, Lib.byteCells_append, Lib.byteCells_append, ← Lib.strCells_eq, List.append_assoc]
      rfl
    rw [e]
    exact h3'
  have HB : Hid (Ky B b w w3) := ((Ky.of b1 hbs).trans b2).trans b3
  clear hWb h2' h3' b1 b2 b3 hB
  go_wp2
  go_end0
  exact ⟨rfl, HT.out, HB.out⟩
end Go.Proofs.YtjcnnmnnbjaheaaGreatDoor
