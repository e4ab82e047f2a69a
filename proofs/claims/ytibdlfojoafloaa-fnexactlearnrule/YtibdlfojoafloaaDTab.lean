/- The program's table of common lines in memory: how its cells read, and what a store and a clear make of them. No statement is proved here. -/
import Derived.Test.YtibdlfojoafloaaRows
import Derived.Test.YtibdlfojoafloaaLem
import Derived.Test.YtibdlfojoafloaaStrs
import Derived.Test.YtibdlfojoafloaaCom
import Derived.WalkKit
import Derived.ProofKit
import Derived.Below
import Derived.Lib.SliceRun
namespace Go.Proofs.Ytibdlfojoafloaa
open Go.ChangeShapes Go.WideShapes Go.ChangeAt Go.RowKit

theorem grownOfBelow {w w' : World} (h : Below w.heap.size w w') (row : Option Nat) : w.grownBy w' row := ⟨h.os, h.tape, h.output, h.size, fun k hk _ => h.block k hk⟩
theorem grownTrans {a b c : World} {row : Option Nat} (h : a.grownBy b row) (k : b.grownBy c row) : a.grownBy c row :=
  ⟨k.os.trans h.os, k.tape.trans h.tape, k.output.trans h.output, Nat.le_trans h.size k.size, fun i hi hne => (k.block i (Nat.lt_of_lt_of_le hi h.size) hne).trans (h.block i hi hne)⟩
theorem grownSet (w : World) (b o : Nat) (v : Value) : w.grownBy (w.setCell ⟨b, o, none⟩ v) (some b) :=
  ⟨rfl, rfl, rfl, by simp [World.setCell], fun k _ hne => Below.heap_setCell _ _ _ _ (fun e => hne (by rw [e]))⟩
theorem grownDrew {a w : World} {row : Option Nat} (h : a.grownBy w row) (n : Nat) : a.grownBy (w.drewN n) row := ⟨h.os, h.tape, h.output, h.size, h.block⟩
theorem grownSets (b : Nat) : ∀ (vs : List Value) (o : Nat) (w : World), w.grownBy (w.setCells b o vs) (some b)
  | [], _, w => World.grownBy.refl w _
  | v :: r, o, w => grownTrans (grownSet w b o v) (grownSets b r (o + 1) _)

/-- A slice of strings that lies below block B. -/
def SSB (B : Nat) (w : World) (a : Option Addr) (ss : List ByteArray) : Prop :=
  (∀ k, k < ss.length → (ss.getD k ByteArray.empty).size ≤ 9223372036854775807) ∧
  ∀ k, k < ss.length → ∃ b off, a = some ⟨b, off, none⟩ ∧ b < B ∧ w.cell? ⟨b, off + k, none⟩ = some (.string (ss.getD k ByteArray.empty))
theorem SSB.toSS {B : Nat} {w : World} {a : Option Addr} {ss : List ByteArray} (h : SSB B w a ss) (hB : B ≤ w.heap.size) : SS w a ss :=
  ⟨h.1, fun k hk => by obtain ⟨b, off, e, hb, hc⟩ := h.2 k hk; exact ⟨b, off, e, by omega, hc⟩⟩
theorem SS.toB {w : World} {a : Option Addr} {ss : List ByteArray} (h : SS w a ss) : SSB w.heap.size w a ss := h
theorem SSB.grown {B : Nat} {w w' : World} {row : Option Nat} {a : Option Addr} {ss : List ByteArray} (h : SSB B w a ss) (hg : w.grownBy w' row) (hr : ∀ k, row = some k → B ≤ k) : SSB B w' a ss :=
  ⟨h.1, fun k hk => by
    obtain ⟨b, off, e, hb, hc⟩ := h.2 k hk
    exact ⟨b, off, e, hb, hg.cell hc (fun e' => by have := hr b e'.symm; omega)⟩⟩
theorem SSB.below {B : Nat} {w w' : World} {a : Option Addr} {ss : List ByteArray} (h : SSB B w a ss) (hb : Below w.heap.size w w') : SSB B w' a ss := h.grown (grownOfBelow hb none) (fun _ e => by cases e)
theorem SSB.drewN {B : Nat} {w : World} {a : Option Addr} {ss : List ByteArray} (h : SSB B w a ss) (n : Nat) : SSB B (w.drewN n) a ss := h
theorem SSB.mono {B B' : Nat} {w : World} {a : Option Addr} {ss : List ByteArray} (h : SSB B w a ss) (hB : B ≤ B') : SSB B' w a ss :=
  ⟨h.1, fun k hk => by obtain ⟨b, off, e, hb, hc⟩ := h.2 k hk; exact ⟨b, off, e, by omega, hc⟩⟩

/-- The table at block p: two rows of lengths, and which lines of a are passed over. -/
def DT (w : World) (p : Nat) (cm : Nat → Nat → Int) (sk : Nat → Nat → Bool) : Prop :=
  (∀ r j, r < 2 → j < 101 → w.cell? ⟨p, r * 101 + j, none⟩ = some (.int .i64 (cm r j)) ∧ w.frozen? ⟨p, r * 101 + j, none⟩ = false) ∧
  (∀ i j, i < 100 → j < 100 → w.cell? ⟨p, 202 + i * 100 + j, none⟩ = some (.bool (sk i j)) ∧ w.frozen? ⟨p, 202 + i * 100 + j, none⟩ = false)
def putC (cm : Nat → Nat → Int) (r j : Nat) (v : Int) : Nat → Nat → Int := fun r' j' => if r' = r ∧ j' = j then v else cm r' j'
def putS (sk : Nat → Nat → Bool) (i j : Nat) (v : Bool) : Nat → Nat → Bool := fun i' j' => if i' = i ∧ j' = j then v else sk i' j'
def putR (cm : Nat → Nat → Int) (r : Nat) : Nat → Nat → Int := fun r' j' => if r' = r then 0 else cm r' j'
theorem putC_same (cm : Nat → Nat → Int) (r j : Nat) (v : Int) : putC cm r j v r j = v := if_pos ⟨rfl, rfl⟩
theorem putC_other (cm : Nat → Nat → Int) (r j : Nat) (v : Int) (r' j' : Nat) (h : ¬ (r' = r ∧ j' = j)) : putC cm r j v r' j' = cm r' j' := if_neg h
theorem putS_same (sk : Nat → Nat → Bool) (i j : Nat) (v : Bool) : putS sk i j v i j = v := if_pos ⟨rfl, rfl⟩
theorem putS_other (sk : Nat → Nat → Bool) (i j : Nat) (v : Bool) (i' j' : Nat) (h : ¬ (i' = i ∧ j' = j)) : putS sk i j v i' j' = sk i' j' := if_neg h
theorem DT.drewN {w : World} {p : Nat} {cm : Nat → Nat → Int} {sk : Nat → Nat → Bool} (h : DT w p cm sk) (n : Nat) : DT (w.drewN n) p cm sk := h
theorem DT.setC {w : World} {p : Nat} {cm : Nat → Nat → Int} {sk : Nat → Nat → Bool} (h : DT w p cm sk) (r j : Nat) (hr : r < 2) (hj : j < 101) (v : Int) :
    DT (w.setCell ⟨p, r * 101 + j, none⟩ (.int .i64 v)) p (putC cm r j v) sk := by
  refine ⟨fun r' j' hr' hj' => ⟨?_, by rw [World.frozen?_setCell]; exact (h.1 r' j' hr' hj').2⟩, fun i' j' hi' hj' => ⟨?_, by rw [World.frozen?_setCell]; exact (h.2 i' j' hi' hj').2⟩⟩
  · by_cases e : r' = r ∧ j' = j
    · obtain ⟨rfl, rfl⟩ := e
      rw [World.cell?_setCell_same _ _ _ (h.1 r' j' hr hj).1]
      simp [putC]
    · rw [World.cell?_setCell_other _ _ _ _ (by intro c; simp only [Addr.mk.injEq] at c; omega), (h.1 r' j' hr' hj').1]
      simp [putC, e]
  · rw [World.cell?_setCell_other _ _ _ _ (by intro c; simp only [Addr.mk.injEq] at c; omega), (h.2 i' j' hi' hj').1]
theorem DT.setS {w : World} {p : Nat} {cm : Nat → Nat → Int} {sk : Nat → Nat → Bool} (h : DT w p cm sk) (i j : Nat) (hi : i < 100) (hj : j < 100) (v : Bool) :
    DT (w.setCell ⟨p, 202 + i * 100 + j, none⟩ (.bool v)) p cm (putS sk i j v) := by
  refine ⟨fun r' j' hr' hj' => ⟨?_, by rw [World.frozen?_setCell]; exact (h.1 r' j' hr' hj').2⟩, fun i' j' hi' hj' => ⟨?_, by rw [World.frozen?_setCell]; exact (h.2 i' j' hi' hj').2⟩⟩
  · rw [World.cell?_setCell_other _ _ _ _ (by intro c; simp only [Addr.mk.injEq] at c; omega), (h.1 r' j' hr' hj').1]
  · by_cases e : i' = i ∧ j' = j
    · obtain ⟨rfl, rfl⟩ := e
      rw [World.cell?_setCell_same _ _ _ (h.2 i' j' hi hj).1]
      simp [putS]
    · rw [World.cell?_setCell_other _ _ _ _ (by intro c; simp only [Addr.mk.injEq] at c; omega), (h.2 i' j' hi' hj').1]
      simp [putS, e]
theorem DT.clr {w : World} {p : Nat} {cm : Nat → Nat → Int} {sk : Nat → Nat → Bool} (h : DT w p cm sk) (r : Nat) (hr : r < 2) :
    DT (w.setCells p (r * 101) (List.replicate 101 (.int .i64 0))) p (putR cm r) sk := by
  refine ⟨fun r' j' hr' hj' => ⟨?_, by rw [World.frozen?_setCells]; exact (h.1 r' j' hr' hj').2⟩, fun i' j' hi' hj' => ⟨?_, by rw [World.frozen?_setCells]; exact (h.2 i' j' hi' hj').2⟩⟩
  · by_cases e : r' = r
    · subst e
      rw [World.cell?_setCells_in p _ _ _ (fun j hj => by rw [(h.1 r' j hr (by simpa using hj)).1]; rfl) j' (by simpa using hj'), List.getElem_replicate]
      simp [putR]
    · rw [World.cell?_setCells_out p _ _ _ _ (fun _ _ => by simp only [List.length_replicate]; omega), (h.1 r' j' hr' hj').1]
      simp [putR, e]
  · rw [World.cell?_setCells_out p _ _ _ _ (fun _ _ => by simp only [List.length_replicate]; omega), (h.2 i' j' hi' hj').1]
theorem clearRow {w : World} {p : Nat} {cm : Nat → Nat → Int} {sk : Nat → Nat → Bool} (h : DT w p cm sk) (r : Nat) (hr : r < 2) (ty : TypeId) :
    (Builtin.clear_ #[134] ty #[.slice (some ⟨p, r * 101, none⟩) 101 101]).run Try.prog w = .ok (.tuple #[]) (w.setCells p (r * 101) (List.replicate 101 (.int .i64 0))) :=
  Lib.run_clear_slice w 134 2 ty (.int .i64 0) Try.underlying134 (fun w => by simp [go_sem]) rfl rfl p (r * 101) 101 101 (by omega)
    (fun j hj => by rw [(h.1 r j hr hj).1]; rfl) (fun j hj => (h.1 r j hr hj).2)
end Go.Proofs.Ytibdlfojoafloaa
