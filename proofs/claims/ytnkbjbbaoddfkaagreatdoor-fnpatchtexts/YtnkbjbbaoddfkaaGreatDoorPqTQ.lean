/- The program's reader of a patch: take. No statement is proved here. -/
import Derived.Test.YtnkbjbbaoddfkaaGreatDoorRows
import Derived.Test.YtnkbjbbaoddfkaaGreatDoorLemQ
import Derived.Test.YtnkbjbbaoddfkaaGreatDoorLFLemQ
import Derived.Test.YtnkbjbbaoddfkaaGreatDoorHkTQ
import Derived.Test.YtnkbjbbaoddfkaaGreatDoorDiCQ
import Derived.Test.YtnkbjbbaoddfkaaGreatDoorPpMQ
import Derived.WalkKit
import Derived.ProofKit
import Derived.Below
import Derived.WalkSpells
import Derived.WalkLawsBesides
set_option linter.unusedVariables false
namespace Go.Proofs.YtnkbjbbaoddfkaaGreatDoor.Pp
open Go.ChangeShapes Go.WideShapes Go.ChangeAt Go.RowKit

/-- The program's errUnreadable: some error. -/
def UnG (w : World) : Prop := ∃ (T : TypeId) (u : Value), w.cell? ⟨0, 0, none⟩ = some (.iface T u)
theorem UnG.below {B : Nat} {w w' : World} (h : UnG w) (hb : Below B w w') (hB : 0 < B) : UnG w' := by
  obtain ⟨T, u, h⟩ := h
  exact ⟨T, u, (hb.cell (p := ⟨0, 0, none⟩) hB).trans h⟩
theorem UnG.set {w : World} {b o : Nat} {v : Value} (h : UnG w) (hb : ¬ 0 = b) : UnG (w.setCell ⟨b, o, none⟩ v) := by
  obtain ⟨T, u, h⟩ := h
  exact ⟨T, u, by rw [World.cell?_setCell_other _ _ _ _ (by intro c; simp only [Addr.mk.injEq] at c; omega)]; exact h⟩
/-- A panic of the program's own. -/
def Pan (e : Ending) : Prop := ∃ (T : TypeId) (u : Value), e = .panicked [{ v := .iface T u, recovered := false }]
/-- What is left behind a place. -/
def rst (t : ByteArray) (p : Nat) : ByteArray := t.extract p t.size
theorem rst_size (t : ByteArray) (p : Nat) : (rst t p).size = t.size - p := by unfold rst; simp
theorem rst_rst (t : ByteArray) (p k : Nat) : (rst t p).extract k (rst t p).size = rst t (p + k) := by
  apply bytes_inj2
  rw [ByteArray.toList_eq, ByteArray.toList_eq, rst_size]
  unfold rst
  rw [extract_data, extract_data, extract_data]
  rw [List.drop_take, List.drop_drop, List.take_take]
  congr 1
  omega
theorem rst_data (t : ByteArray) (p : Nat) : (rst t p).data.toList = t.data.toList.drop p := by
  unfold rst
  rw [extract_data, List.take_of_length_le (by rw [List.length_drop, size_eq]; omega)]
theorem hpx_wd (t x : ByteArray) (p : Nat) : hpx (rst t p) x = true ↔ t.extract p (p + x.size) = x := by
  rw [hpx_iff, rst_data]
  have e : (t.extract p (p + x.size)).data.toList = (t.data.toList.drop p).take x.size := by rw [extract_data]; congr 1; omega
  constructor
  · intro h
    apply bytes_inj2
    rw [ByteArray.toList_eq, ByteArray.toList_eq, e, h]
  · intro h
    rw [← e, h]
def TkP (t x : ByteArray) (p R : Nat) (w : World) (e : Ending) (w' : World) : Prop :=
  (wd t x p < 0 ∧ Pan e ∧ w' = w) ∨ (∃ q : Nat, wd t x p = q ∧ p + x.size = q ∧ e = .returned (.tuple #[]) ∧ w' = w.setCell ⟨R, 0, none⟩ (.string (rst t q)))
set_option maxRecDepth 20000 in
set_option maxHeartbeats 2000000 in
theorem takeC (t x : ByteArray) (p R : Nat) (hv : Value) (w : World) (hr : Rf w R [.string (rst t p), hv]) (hg : UnG w) :
    Calls Tryz.prog 34 #[.pointer (some ⟨R, 0, none⟩), .string x] w fun e w' => TkP t x p R w e w' := by
  have hC := fun w => cutPrefix (rst t p) x w
  have c0 := hr.at_ 0 _ rfl
  have f0 := hr.fz 0
  obtain ⟨T, u, g0⟩ := hg
  cases hb : hpx (rst t p) x with
  | true =>
    rw [hb, if_pos rfl, rst_rst] at hC
    have HR : Hid (wd t x p = ((p + x.size : Nat) : Int)) := wd_yes ((hpx_wd t x p).1 hb)
    clear hb hr
    obtain ⟨X, hX⟩ : ∃ X, rst t (p + x.size) = X := ⟨_, rfl⟩
    obtain ⟨Y, hY⟩ : ∃ Y, rst t p = Y := ⟨_, rfl⟩
    have HX : Hid (rst t (p + x.size) = X) := hX
    rw [hX] at hC
    rw [hY] at hC c0
    clear hX hY
    go_enter Tryz.func34, Tryz.ntmps34
    go_wp2_with (go_at_call 55; refine (hC _).mono ?_; rintro e w' ⟨rfl, rfl⟩)
    go_end0
    exact .inr ⟨_, HR.out, rfl, rfl, by rw [HX.out]⟩
  | false =>
    rw [hb] at hC
    have HR : Hid (wd t x p = -1) := wd_no (fun k => by have := (hpx_wd t x p).2 k; rw [this] at hb; cases hb)
    clear hb hr
    obtain ⟨Y, hY⟩ : ∃ Y, rst t p = Y := ⟨_, rfl⟩
    rw [hY] at hC c0
    clear hY
    rw [if_neg (by decide)] at hC
    go_enter Tryz.func34, Tryz.ntmps34
    go_wp2_with (go_at_call 55; refine (hC _).mono ?_; rintro e w' ⟨rfl, rfl⟩)
    exact ⟨rfl, .inl ⟨by rw [HR.out]; decide, ⟨T, u, rfl⟩, rfl⟩⟩
end Go.Proofs.YtnkbjbbaoddfkaaGreatDoor.Pp
