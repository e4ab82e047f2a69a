/- One of some numbers, as the specification draws it. No statement is proved here. -/
import Derived.Test.YtipdebodanhooaaDoorRows
import Derived.Test.YtipdebodanhooaaDoorLemQ
import Derived.Test.YtipdebodanhooaaDoorDrawQ
import Derived.WalkKit
import Derived.ProofKit
import Derived.Below
import Derived.WalkSpells
import Derived.Maps.AppendAt
import Derived.Deep.QuietTactic
import Derived.BigQuiet
import Derived.Deep.RegionWith
import Derived.Test.YtipdebodanhooaaDoorLFLemQ
import Derived.Test.YtipdebodanhooaaDoorDTabQ
import Derived.Test.YtipdebodanhooaaDoorHkTQ
import Derived.Deep.RegionHeld
import Derived.Laws.BitsLemmas
namespace Go.Proofs.YtipdebodanhooaaDoor
open Go.ChangeShapes Go.WideShapes Go.ChangeAt Go.RowKit
set_option maxHeartbeats 800000 in
theorem l1Pick (N b : Nat) (a : Option Addr) (n cap : Nat) (k : Int) (g m c : Nat) (P : Int → Prop) (w : World) (h : Src N w b a n cap k) (hk : k ≤ 4294967296) (hm : 0 < m) (hm2 : m ≤ 1000) (hg : g ≠ b) (_ : g < w.heap.size)
    (hl : ∀ j, j < m → ∃ v, w.cell? ⟨g, j, none⟩ = some (.int .i64 v) ∧ P v) :
    Calls Tryd.prog 22 #[.pointer (some ⟨b, 0, none⟩), .slice (some ⟨g, 0, none⟩) m c] w fun e w' => ∃ v, e = .returned (.int .i64 v) ∧ P v ∧ Src N w' b a n cap (k + 1) ∧ w.grownBy w' (some b) := by
  have hlt := h.lt
  go_enter Tryd.func22, Tryd.ntmps22
  go_wp2_with fail
  refine (l1Next N b a n cap k m _ h hk).mono ?_; rintro e w2 ⟨r, rfl, hd, hs, gg⟩
  have hd0 := hd.1
  have hd1 : r < m := hd.2.1 (by omega)
  obtain ⟨j, rfl⟩ := Int.eq_ofNat_of_zero_le hd0
  have hj : j < m := by omega
  obtain ⟨v, hv, hP⟩ := hl j hj
  have hv2 : w2.cell? ⟨g, j, none⟩ = some (.int .i64 v) := gg.cell hv (by simp; exact hg)
  clear hd hd0 hl hv
  go_wp2_with fail
  go_ret
  exact ⟨v, rfl, hP, hs, gg⟩
end Go.Proofs.YtipdebodanhooaaDoor
/- A text that is cut or turned somewhere, as the specification draws it; rows of texts. No statement is proved here. -/
set_option linter.unusedVariables false
namespace Go.Proofs.YtipdebodanhooaaDoor
open Go.ChangeShapes Go.WideShapes Go.ChangeAt Go.RowKit

theorem conv_oneP (a : Nat) (ha : a < 256) (x : Int) (hx : x = (a : Int)) (W : World) (g c : Nat) (h0 : W.cell? ⟨g, 0, none⟩ = some (.int .u8 x)) :
    (convert 22 9 (.slice (some ⟨g, 0, none⟩) 1 c)).run Tryd.prog W = .ok (.string ⟨#[a.toUInt8]⟩) W := by
  have ea : (a.toUInt8.toNat : Int) = (a : Int) := by
    have : a.toUInt8.toNat = a % 256 := by simp
    omega
  refine run_convert_bytes_back _ 22 9 5 ⟨g, 0, none⟩ c [a.toUInt8] Tryd.underlying22 Tryd.underlying5 Tryd.underlying9 ?_
  intro j hj
  have : j = 0 := by simp at hj; omega
  subst this
  show _ = some (Value.int .u8 (a.toUInt8.toNat : Int))
  rw [ea, ← hx, add_plain]
  exact h0
/-- A row of texts that lie in a block of their own. -/
def LitB (W : World) (g : Nat) (n m : Nat) : Prop := ∀ j, j < n → ∃ x : ByteArray, W.cell? ⟨g, j, none⟩ = some (.string x) ∧ x.size ≤ m
theorem lit_new (w : World) (xs : List ByteArray) (t : TypeId) (m : Nat) (hm : ∀ x ∈ xs, x.size ≤ m) : LitB (w.alloc (.cells (xs.map Value.string).toArray t)) w.heap.size xs.length m := by
  intro j hj
  refine ⟨xs[j], ?_, hm _ (List.getElem_mem hj)⟩
  rw [cell_of_row _ w.heap.size j _ _ _ (heap_alloc_new w _)]
  simp [hj]
theorem LitB.kept {W W' : World} {g n m : Nat} {row : Option Nat} (h : LitB W g n m) (hg : W.grownBy W' row) (hne : some g ≠ row) : LitB W' g n m := fun j hj => by
  obtain ⟨x, hx, hz⟩ := h j hj
  exact ⟨x, hg.cell hx hne, hz⟩
def CutP (b : Nat) (m : Nat) (w : World) (e : Ending) (w' : World) : Prop := ∃ x : ByteArray, e = .returned (.string x) ∧ x.size ≤ m ∧ w.grownBy w' (some b)
theorem ext_sz (t : ByteArray) (i j : Nat) : (t.extract i j).size ≤ t.size := by rw [ByteArray.size_extract]; omega
theorem grD {w w' : World} {r : Option Nat} (h : w.grownBy w' r) : w.grownBy w'.drew r := ⟨h.os, h.tape, h.output, h.size, h.block⟩
theorem grDN {w w' : World} {r : Option Nat} (h : w.grownBy w' r) (n : Nat) : w.grownBy (w'.drewN n) r := ⟨h.os, h.tape, h.output, h.size, h.block⟩
theorem grA {w : World} {o : Obj} {r : Option Nat} : w.grownBy (w.alloc o) r := World.grownBy_alloc w o r
theorem grT2 {w w1 w2 : World} {r : Option Nat} (h : w.grownBy w1 r) (h2 : w1.grownBy w2 r) : w.grownBy w2 r := grown_trans h h2
end Go.Proofs.YtipdebodanhooaaDoor
