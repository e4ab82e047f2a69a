/- The contract of the program's CommitFault. No statement is proved here. -/
import Derived.Test.YtibgfngicijnlalDoorRows
import Derived.Test.YtibgfngicijnlalDoorLem
import Derived.Test.YtibgfngicijnlalDoorStrs
import Derived.Test.YtibgfngicijnlalDoorDTab
import Derived.Test.YtibgfngicijnlalDoorHkT
import Derived.Test.YtibgfngicijnlalDoorCdC
import Derived.Test.YtibgfngicijnlalDoorHdC
import Derived.Test.YtibgfngicijnlalDoorFiC
import Derived.Test.YtibgfngicijnlalDoorCmE
import Derived.WalkKit
import Derived.ProofKit
import Derived.Below
import Derived.WalkSpells
namespace Go.Proofs.YtibgfngicijnlalDoor
open Go.ChangeShapes Go.WideShapes Go.ChangeAt Go.RowKit

set_option maxRecDepth 20000 in
set_option maxHeartbeats 2000000 in
theorem implCommitFault (t : ByteArray) (a : Option Addr) (c : Nat) (ps : List ByteArray) (tm : Int) (no : ByteArray) (w : World) (h : SS w a ps) (hc : ps.length ≤ c) (hn : ps.length ≤ 1048576) (hTa : TaG w) (hgB : 2 < w.heap.size) (hE : ErrG w) :
    Calls Tryd.prog 17 #[.agg #[.string t, .slice a ps.length c, .int .i64 tm, .string no]] w fun e w' => e = .returned (.int .i64 (cmF t ps tm no)) ∧ Below w.heap.size w w' := by
  obtain ⟨W1, hW1⟩ : ∃ W, w.alloc (.cells #[.string t, .slice a ps.length c, .int .i64 tm, .string no] 38) = W := ⟨_, rfl⟩
  have b1 : Below w.heap.size w W1 := by rw [← hW1]; exact allocBelow _ _
  have r1 : Rf W1 w.heap.size [.string t, .slice a ps.length c, .int .i64 tm, .string no] := by rw [← hW1]; exact Rf.new _ _ _
  have c0 := r1.at_ 0 _ rfl
  have c1 := r1.at_ 1 _ rfl
  have c2 := r1.at_ 2 _ rfl
  have c3 := r1.at_ 3 _ rfl
  have s1 := b1.size
  have hC := encodeCommit t a c ps tm no W1 (h.below b1) hc hn (hTa.below b1 hgB) (by omega)
  clear r1
  go_enter Tryd.func17, Tryd.ntmps17
  go_wp2_with fail
  refine hC.mono ?_
  rintro e w2 ⟨b2, he⟩
  have B2 : Below w.heap.size w w2 := b1.trans (b2.mono s1)
  clear c0 c1 c2 c3 hW1 b1 b2 hC
  rcases he with ⟨h0, rfl⟩ | ⟨h0, rfl⟩
  · have H0 : Hid (cmF t ps tm no = 0) := h0
    have hD := codeOf_nil w2
    clear h0
    go_wp2_with fail
    refine hD.mono ?_
    rintro e w3 ⟨rfl, b3⟩
    clear hD
    go_wp2
    go_ret
    exact ⟨ret_int H0.out.symm, B2.trans (b3.mono B2.size)⟩
  · obtain ⟨X, hX⟩ : ∃ X, cmF t ps tm no = X := ⟨_, rfl⟩
    have hD := codeOf_code X w2 (hE.below B2)
    have HX : Hid (cmF t ps tm no = X) := hX
    rw [hX]
    clear h0 hX
    go_wp2_with fail
    refine hD.mono ?_
    rintro e w3 ⟨rfl, b3⟩
    clear hD
    go_wp2
    go_ret
    exact ⟨ret_int HX.out.symm, B2.trans (b3.mono B2.size)⟩
end Go.Proofs.YtibgfngicijnlalDoor
