/- The contract of the program's writeWords. No statement is proved here. -/
import Derived.Test.YtnififnogdekiaaDoorRows
import Derived.Test.YtnififnogdekiaaDoorLemQ
import Derived.Test.YtnififnogdekiaaDoorBldQ
import Derived.Test.YtnififnogdekiaaDoorShelfBQ
import Derived.Test.YtnififnogdekiaaDoorDTabQ
import Derived.Test.YtnififnogdekiaaDoorBldFQ
import Derived.Test.YtnififnogdekiaaDoorJnCQ
import Derived.WalkKit
import Derived.ProofKit
import Derived.Below
import Derived.WalkSpells
namespace Go.Proofs.YtnififnogdekiaaDoor
open Go.ChangeShapes Go.WideShapes Go.ChangeAt Go.RowKit

/-- A builder that holds these bytes. -/
def TB (B b : Nat) (l : List UInt8) (w : World) : Prop := Lib.IsBuilderF 118 5 B b (Lib.byteCells l) w
theorem TB.fresh (w : World) : TB w.heap.size w.heap.size [] (w.alloc (.cells #[.pointer none, .slice none 0 0] 118)) := Lib.IsBuilderF.of (Lib.fresh_isBuilder 118 5 w)
theorem atF_below {T e : TypeId} {B b : Nat} {p : Value} {bs : List Value} {w w' : World} (h : Lib.BuilderAtF T e B b p bs w) (hb : Below w.heap.size w w') : Lib.BuilderAtF T e B b p bs w' := by
  have hlt := h.lt
  obtain ⟨hB, v, hbk, hown, hne⟩ := h
  exact ⟨hB, v, (hb.block b hlt).trans hbk, hown.kept (grownOfBelow hb none) (by cases hv : v.ownBlock <;> simp), hne⟩
theorem TB.below {B b : Nat} {l : List UInt8} {w w' : World} (h : TB B b l w) (hb : Below w.heap.size w w') : TB B b l w' := h.elim (fun x => .inl (atF_below x hb)) (fun x => .inr (atF_below x hb))
/-- A line of words. -/
def wl (ss : List ByteArray) : List UInt8 := (jnB ss).data.toList ++ [10]

set_option maxHeartbeats 1000000 in
theorem writeWords (B b g off c : Nat) (l : List UInt8) (ss : List ByteArray) (w : World) (hB : TB B b l w) (hbs : B ≤ w.heap.size) (hs : SS w (some ⟨g, off, none⟩) ss) (h2 : 2 ≤ ss.length) (hc : ss.length ≤ c) (hn : ss.length ≤ 1048576) (htot : tot ss ≤ 1048576) (hl : l.length ≤ 1000000000) :
    Calls Tryd.prog 96 #[.pointer (some ⟨b, 0, none⟩), .slice (some ⟨g, off, none⟩) ss.length c] w fun e w' => e = .returned (.tuple #[]) ∧ TB B b (l ++ wl ss) w' ∧ Below B w w' := by
  have hJ := joinC g off c ss w hs h2 hc hn htot
  have hsz : (jnB ss).size ≤ 3145728 := by
    have := jl_len ss (ss.length - 1) (by omega)
    have h3 := tot_take_le ss (ss.length - 1 + 1)
    show (jl ss (ss.length - 1)).toArray.size ≤ _
    simp
    omega
  have HW : Hid (wl ss = (jnB ss).data.toList ++ [10]) := rfl
  obtain ⟨J, hJe⟩ : ∃ J, jnB ss = J := ⟨_, rfl⟩
  rw [hJe] at hJ hsz HW
  clear hJe
  go_enter Tryd.func96, Tryd.ntmps96
  go_wp2_with fail
  refine hJ.mono ?_; rintro e w1 ⟨rfl, b1⟩
  have T1 := hB.below b1
  have s1 := b1.size
  have hWs := writeStringF B b _ J w1 T1 (by rw [Lib.byteCells_length]; omega) (by omega)
  clear hJ T1
  go_wp2_with fail
  refine hWs.mono ?_; rintro e w2 ⟨rfl, h2', b2⟩
  have s2 := b2.size
  have hWb := writeByteF B b _ 10 w2 (.inr h2') (by rw [List.length_append, Lib.byteCells_length, Lib.strCells_eq, Lib.byteCells_length]; simp; omega) (by omega)
  clear hWs
  go_wp2_with fail
  refine hWb.mono ?_; rintro e w3 ⟨rfl, h3', b3⟩
  have HT : Hid (TB B b (l ++ wl ss) w3) := by
    show Lib.IsBuilderF _ _ _ _ _ _
    refine .inr ?_
    have e : Lib.byteCells (l ++ wl ss) = Lib.byteCells l ++ Lib.strCells J ++ [.int .u8 10] := by
      rw [HW.out, Lib.byteCells_append, Lib.byteCells_append, ← Lib.strCells_eq, List.append_assoc]
      rfl
    rw [e]
    exact h3'
  have HB : Hid (Below B w w3) := ((b1.mono hbs).trans b2).trans b3
  clear hWb h2' h3' b1 b2 b3 hB
  go_wp2
  go_end0
  exact ⟨rfl, HT.out, HB.out⟩
end Go.Proofs.YtnififnogdekiaaDoor
