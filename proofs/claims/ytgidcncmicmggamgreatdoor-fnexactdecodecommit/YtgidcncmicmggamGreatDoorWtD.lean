/- The contract of the program's wantText, at a commit. No statement is proved here. -/
import Derived.Test.YtgidcncmicmggamGreatDoorRows
import Derived.Test.YtgidcncmicmggamGreatDoorLem
import Derived.Test.YtgidcncmicmggamGreatDoorStrs
import Derived.Test.YtgidcncmicmggamGreatDoorDTab
import Derived.Test.YtgidcncmicmggamGreatDoorOwn
import Derived.Test.YtgidcncmicmggamGreatDoorFr
import Derived.Test.YtgidcncmicmggamGreatDoorHkT
import Derived.Test.YtgidcncmicmggamGreatDoorFiC
import Derived.Test.YtgidcncmicmggamGreatDoorCmE
import Derived.WalkKit
import Derived.ProofKit
import Derived.Below
import Derived.WalkSpells
namespace Go.Proofs.YtgidcncmicmggamGreatDoor.Dc
open Go.ChangeShapes Go.WideShapes Go.ChangeAt Go.RowKit

/-- The program's errOtherForm: some error. -/
def OfG (w : World) : Prop := ∃ (T : TypeId) (u : Value), w.cell? ⟨0, 0, none⟩ = some (.iface T u)
theorem OfG.below {B : Nat} {w w' : World} (h : OfG w) (hb : Below B w w') (hB : 0 < B) : OfG w' := by
  obtain ⟨T, u, h⟩ := h
  exact ⟨T, u, (hb.cell (p := ⟨0, 0, none⟩) hB).trans h⟩
/-- What wantText answers. -/
def WT2 (t : ByteArray) (ps : List ByteArray) (tm : Int) (no d : ByteArray) (e : Ending) : Prop :=
  ((cmF t ps tm no = 0 ∧ cmB t ps tm no = d) ∧ e = .returned .nilIface) ∨ (¬ (cmF t ps tm no = 0 ∧ cmB t ps tm no = d) ∧ ∃ T u, e = .returned (.iface 100 (.agg #[.iface T u])))
set_option maxRecDepth 20000 in
set_option maxHeartbeats 1000000 in
theorem wantTextC (t : ByteArray) (a : Option Addr) (c : Nat) (ps : List ByteArray) (tm : Int) (no d : ByteArray) (w : World) (h : SS w a ps) (hc : ps.length ≤ c) (hn : ps.length ≤ 1048576) (hTa : TaG w) (hgB : 6 < w.heap.size) (ho : OfG w) (hoB : 0 < w.heap.size) :
    Calls Tryz.prog 64 #[.iface 110 (.agg #[.string t, .slice a ps.length c, .int .i64 tm, .string no]), .string d] w fun e w' => WT2 t ps tm no d e ∧ Below w.heap.size w w' := by
  have hE := encodeCommit t a c ps tm no w h hc hn hTa hgB
  have w1 : cmF t ps tm no = 0 → cmB t ps tm no = d → Hid (WT2 t ps tm no d (.returned .nilIface)) := fun a b => .inl ⟨⟨a, b⟩, rfl⟩
  have w2 : ¬ (cmF t ps tm no = 0 ∧ cmB t ps tm no = d) → ∀ T u, Hid (WT2 t ps tm no d (.returned (.iface 100 (.agg #[.iface T u])))) := fun a T u => .inr ⟨a, T, u, rfl⟩
  go_enter Tryz.func64, Tryz.ntmps64
  go_wp2_with fail
  refine hE.mono ?_
  rintro e w2' ⟨b2, he⟩
  obtain ⟨T0, u0, c0⟩ := ho.below b2 hoB
  rcases he with ⟨h0, rfl⟩ | ⟨h0, rfl⟩
  · by_cases hd : cmB t ps tm no = d
    · have W1 := w1 h0 hd
      have q := beq_bytes_true hd
      obtain ⟨T, hT⟩ : ∃ T, cmB t ps tm no = T := ⟨_, rfl⟩
      rw [hT] at q ⊢
      clear w1 w2 hE h0 hd hT c0
      go_wp2
      go_ret
      exact ⟨W1.out, b2⟩
    · have W2 := w2 (fun k => hd k.2) T0 u0
      have q := beq_bytes_false hd
      obtain ⟨T, hT⟩ : ∃ T, cmB t ps tm no = T := ⟨_, rfl⟩
      rw [hT] at q ⊢
      clear w1 w2 hE h0 hd hT
      go_wp2
      go_ret
      exact ⟨W2.out, b2⟩
  · have W2 := w2 (fun k => h0 k.1)
    clear w1 w2 hE c0
    go_wp2
    go_ret
    exact ⟨(W2 _ _).out, b2⟩
end Go.Proofs.YtgidcncmicmggamGreatDoor.Dc
