/- The contracts of the laws' helpers over one hunk. No statement is proved here. -/
import Derived.Test.YtmmccpdaklkciaaGreatDoorRows
import Derived.Test.YtmmccpdaklkciaaGreatDoorLemQ
import Derived.Test.YtmmccpdaklkciaaGreatDoorDTabQ
import Derived.WalkKit
import Derived.ProofKit
import Derived.Below
import Derived.WalkSpells
import Derived.Test.YtmmccpdaklkciaaGreatDoorLFLemQ
namespace Go.Proofs.YtmmccpdaklkciaaGreatDoor
open Go.ChangeShapes Go.WideShapes Go.ChangeAt Go.RowKit

/-- The cells of a struct that a variable holds, and that they may be written. -/
structure Rf (w : World) (b : Nat) (vs : List Value) : Prop where
  at_ : ∀ k v, vs[k]? = some v → w.cell? ⟨b, k, none⟩ = some v
  fz : ∀ k, w.frozen? ⟨b, k, none⟩ = false
theorem Rf.new (w : World) (vs : Array Value) (t : TypeId) : Rf (w.alloc (.cells vs t)) w.heap.size vs.toList := ⟨Rs.new w vs t, fun k => by unfold World.frozen?; rw [heap_alloc_new]; simp⟩
theorem Rf.below {w w' : World} {b : Nat} {vs : List Value} (h : Rf w b vs) (hp : b < w.heap.size) (hb : Below w.heap.size w w') : Rf w' b vs :=
  ⟨fun k v hk => (hb.cell (p := ⟨b, k, none⟩) hp).trans (h.at_ k v hk), fun k => (hb.frozen (p := ⟨b, k, none⟩) hp).trans (h.fz k)⟩
theorem Rf.other {w : World} {b b' o : Nat} {vs : List Value} (h : Rf w b vs) (hne : b ≠ b') (v : Value) : Rf (w.setCell ⟨b', o, none⟩ v) b vs :=
  ⟨fun k u hk => by rw [World.cell?_setCell_other _ _ _ _ (by intro c; simp only [Addr.mk.injEq] at c; exact hne (by omega))]; exact h.at_ k u hk, fun k => by rw [World.frozen?_setCell]; exact h.fz k⟩
theorem Rf.set {w : World} {b o : Nat} {vs : List Value} (h : Rf w b vs) (ho : o < vs.length) (v : Value) : Rf (w.setCell ⟨b, o, none⟩ v) b (vs.set o v) :=
  ⟨fun k u hk => by
    by_cases e : k = o
    · subst e
      rw [World.cell?_setCell_same _ _ _ (h.at_ k vs[k] (List.getElem?_eq_getElem ho))]
      simpa [ho] using hk
    · rw [World.cell?_setCell_other _ _ _ _ (by intro c; simp only [Addr.mk.injEq] at c; omega)]
      rw [List.getElem?_set_ne (by omega)] at hk
      exact h.at_ k u hk, fun k => by rw [World.frozen?_setCell]; exact h.fz k⟩

end Go.Proofs.YtmmccpdaklkciaaGreatDoor
/- The contracts of LinesFault (the program's and the specification's) and of what they call. No statement is proved here. -/
namespace Go.Proofs.YtmmccpdaklkciaaGreatDoor
open Go.ChangeShapes Go.WideShapes Go.ChangeAt Go.RowKit

theorem ten_snoc (l : List UInt8) (c : UInt8) (h : ¬ (10 : UInt8) ∈ l) (hc : ¬ (c.toNat : Int) = 10) : ¬ (10 : UInt8) ∈ l ++ [c] := by
  have : ¬ c = 10 := by intro h; apply hc; rw [h]; rfl
  simp only [List.mem_append, List.mem_singleton, not_or]
  exact ⟨h, fun e => this e.symm⟩

theorem empty_iff (s : ByteArray) : s.toList.isEmpty = decide (s.data.toList = []) := by
  rw [ByteArray.toList_eq]
  cases s.data.toList <;> simp

set_option maxHeartbeats 400000 in
theorem isLine (s : ByteArray) (last : Bool) (w : World) (hs : s.size ≤ 9223372036854775807) :
    Calls Tryz.prog 270 #[.string s, .bool last] w fun e w' => e = .returned (.bool (okLine s.data.toList last)) ∧ w' = w := by
  have he := empty_iff s
  by_cases h0 : s.data.toList = []
  · have h1 : s.toList.isEmpty = true := by rw [he]; exact decide_eq_true h0
    have H : Hid (okLine s.data.toList last = false) := by show okLine _ _ = false; unfold okLine; rw [if_pos h0]
    clear he h0
    go_enter Tryz.func270, Tryz.ntmps270
    go_wp2
    go_ret
    exact ⟨ret_bool H.out.symm, rfl⟩
  · have h1 : s.toList.isEmpty = false := by rw [he]; exact decide_eq_false h0
    have hI := fun w => indexByte s 10 w
    obtain ⟨i, hi⟩ : ∃ i, i = Lib.indexByte s.data.toList 10 := ⟨_, rfl⟩
    have hge := Lib.indexByte_ge s.data.toList 10
    have e10 : (10 : Int).toNat.toUInt8 = 10 := rfl
    rw [e10, ← hi] at hI
    rw [← hi] at hge
    have hsz : s.data.toList.length = s.size := by simp
    by_cases hneg : i < 0
    · have H : Hid (okLine s.data.toList last = last) := by show okLine _ _ = _; unfold okLine; rw [if_neg h0, ← hi, if_pos hneg]
      clear he h0 hi e10 hsz
      go_enter Tryz.func270, Tryz.ntmps270
      go_wp2_with (go_at_call 179; refine (hI _).mono ?_; rintro e w' ⟨rfl, rfl⟩)
      go_ret
      exact ⟨ret_bool H.out.symm, rfl⟩
    · have H : Hid (okLine s.data.toList last = decide (i = (s.size : Int) - 1)) := by show okLine _ _ = _; unfold okLine; rw [if_neg h0, ← hi, if_neg hneg, hsz]
      have hpos : 0 < s.size := by
        rw [← hsz]
        cases h : s.data.toList with
        | nil => exact absurd h h0
        | cons => simp
      clear he h0 hi e10 hsz
      go_enter Tryz.func270, Tryz.ntmps270
      go_wp2_with (go_at_call 179; refine (hI _).mono ?_; rintro e w' ⟨rfl, rfl⟩)
      go_ret
      exact ⟨ret_bool (by rw [H.out]; rfl), rfl⟩

def manyB (ss : List ByteArray) : Bool := decide (100 < (ss.length : Int) ∨ 2000 < tot ss)

theorem okAt_eq (ss : List ByteArray) (k : Nat) (s : ByteArray) (b : Bool) (hs : s = ss.getD k ByteArray.empty) (hb : ((k : Int) == (ss.length : Int) - 1) = b) : okAt ss k = okLine s.data.toList b := by
  unfold okAt
  rw [← hs, ← hb]
  rfl

end Go.Proofs.YtmmccpdaklkciaaGreatDoor
