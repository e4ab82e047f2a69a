/- The contract of the program's wantText, at a tree. No statement is proved here. -/
import Derived.Test.YtijphomojljckaaGreatDoorRows
import Derived.Test.YtijphomojljckaaGreatDoorLemQ
import Derived.Test.YtijphomojljckaaGreatDoorComQ
import Derived.Test.YtijphomojljckaaGreatDoorHkTQ
import Derived.Test.YtijphomojljckaaGreatDoorTeLQ
import Derived.Test.YtijphomojljckaaGreatDoorTrCQ
import Derived.Test.YtijphomojljckaaGreatDoorTrFQ
import Derived.Test.YtijphomojljckaaGreatDoorTrEQ
import Derived.Test.YtijphomojljckaaGreatDoorDtLQ
import Derived.WalkKit
import Derived.ProofKit
import Derived.Below
import Derived.WalkSpells
namespace Go.Proofs.YtijphomojljckaaGreatDoor.Te
open Go.ChangeShapes Go.WideShapes Go.ChangeAt Go.RowKit

/-- The program's errOtherForm: some error. -/
def OfG (w : World) : Prop := ∃ (T : TypeId) (u : Value), w.cell? ⟨1, 0, none⟩ = some (.iface T u)
theorem OfG.below {B : Nat} {w w' : World} (h : OfG w) (hb : Below B w w') (hB : 1 < B) : OfG w' := by
  obtain ⟨T, u, h⟩ := h
  exact ⟨T, u, (hb.cell (p := ⟨1, 0, none⟩) hB).trans h⟩
/-- What wantText answers. -/
def WT2 (l : List Ob) (d : ByteArray) (e : Ending) : Prop :=
  ((tfl l = 0 ∧ trB l = d) ∧ e = .returned .nilIface) ∨ (¬ (tfl l = 0 ∧ trB l = d) ∧ ∃ T u, e = .returned (.iface 80 (.agg #[.iface T u])))
set_option maxRecDepth 20000 in
set_option maxHeartbeats 1000000 in
theorem wantTextC (a : Option Addr) (c : Nat) (l : List Ob) (d : ByteArray) (w : World) (h : OB w.heap.size w a l) (hg : MwG w) (hgB : 0 < w.heap.size) (ho : OfG w) (hoB : 1 < w.heap.size) (hn : l.length ≤ 1048576) :
    Calls Tryz.prog 45 #[.iface 54 (.slice a l.length c), .string d] w fun e w' => WT2 l d e ∧ Below w.heap.size w w' := by
  have hE := encodeTree a c l w h hg hgB hn
  have w1 : tfl l = 0 → trB l = d → Hid (WT2 l d (.returned .nilIface)) := fun a b => .inl ⟨⟨a, b⟩, rfl⟩
  have w2 : ¬ (tfl l = 0 ∧ trB l = d) → ∀ T u, Hid (WT2 l d (.returned (.iface 80 (.agg #[.iface T u])))) := fun a T u => .inr ⟨a, T, u, rfl⟩
  go_enter Tryz.func45, Tryz.ntmps45
  go_wp2_with fail
  refine hE.mono ?_
  rintro e w2' ⟨b2, he⟩
  obtain ⟨T0, u0, c0⟩ := ho.below b2 hoB
  rcases he with ⟨h0, rfl⟩ | ⟨h0, rfl⟩
  · by_cases hd : trB l = d
    · have W1 := w1 h0 hd
      have q := beq_bytes_true hd
      obtain ⟨T, hT⟩ : ∃ T, trB l = T := ⟨_, rfl⟩
      rw [hT] at q ⊢
      clear w1 w2 hE h0 hd hT c0
      go_wp2
      go_ret
      exact ⟨W1.out, b2⟩
    · have W2 := w2 (fun k => hd k.2) T0 u0
      have q := beq_bytes_false hd
      obtain ⟨T, hT⟩ : ∃ T, trB l = T := ⟨_, rfl⟩
      rw [hT] at q ⊢
      clear w1 w2 hE h0 hd hT
      go_wp2
      go_ret
      exact ⟨W2.out, b2⟩
  · have W2 := w2 (fun k => h0 k.1)
    clear w1 w2 hE c0
    go_wp2
    go_ret
    exact ⟨(W2 _ _).out, b2⟩
end Go.Proofs.YtijphomojljckaaGreatDoor.Te
