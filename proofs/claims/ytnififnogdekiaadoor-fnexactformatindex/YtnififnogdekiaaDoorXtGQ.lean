/- The contract of the specification's FormatIndex. No statement is proved here. -/
import Derived.Test.YtnififnogdekiaaDoorRows
import Derived.Test.YtnififnogdekiaaDoorLemQ
import Derived.Test.YtnififnogdekiaaDoorInQ
import Derived.Test.YtnififnogdekiaaDoorDTabQ
import Derived.Test.YtnififnogdekiaaDoorHkTQ
import Derived.Test.YtnififnogdekiaaDoorTrWQ
import Derived.Test.YtnififnogdekiaaDoorFiCQ
import Derived.Test.YtnififnogdekiaaDoorEnLQ
import Derived.Test.YtnififnogdekiaaDoorIxMQ
import Derived.Test.YtnififnogdekiaaDoorIxIQ
import Derived.Test.YtnififnogdekiaaDoorIxSQ
import Derived.Test.YtnififnogdekiaaDoorXtMQ
import Derived.Test.YtnififnogdekiaaDoorXtCQ
import Derived.Test.YtnififnogdekiaaDoorXtFQ
import Derived.Test.YtnififnogdekiaaDoorXtSQ
import Derived.WalkKit
import Derived.ProofKit
import Derived.Below
import Derived.WalkSpells
namespace Go.Proofs.YtnififnogdekiaaDoor.En
open Go.ChangeShapes Go.WideShapes Go.ChangeAt Go.RowKit

set_option maxRecDepth 20000 in
set_option maxHeartbeats 2000000 in
theorem specFormatIndex (a : Option Addr) (c : Nat) (l : List Ob) (w : World) (h : OB w.heap.size w a l) (hs : SmallO l) (hn : l.length ≤ 1048576) :
    Calls Tryd.prog 33 #[.slice a l.length c] w fun e w' => e = .returned (.agg #[.int .i64 (ixf l), .string (xT l)]) ∧ Below w.heap.size w w' := by
  obtain ⟨W1, hW1⟩ : ∃ W, w.alloc (.cells #[.int .i64 0, .string ⟨#[]⟩] 56) = W := ⟨_, rfl⟩
  have b1 : Below w.heap.size w W1 := by rw [← hW1]; exact allocBelow _ _
  have r1 : Res2 W1 w.heap.size (.int .i64 0) (.string ⟨#[]⟩) := by rw [← hW1]; exact Res2.new _ _ _ _
  have zz : w.heap.size < W1.heap.size := by rw [← hW1]; simp
  have hI := specIndexFault a c l W1 (h.below b1 |>.mono (Nat.le_of_lt zz)) hs hn
  go_enter Tryd.func33, Tryd.ntmps33
  go_wp2_with fail
  refine hI.mono ?_
  rintro e w2 ⟨rfl, b2⟩
  have B2 : Below w.heap.size w w2 := b1.trans (b2.mono b1.size)
  have r2 := r1.below zz b2
  have z2 := b2.size
  clear hI hW1 r1
  by_cases h0 : ixf l = 0
  · have H0 : Hid (ixf l = 0) := h0
    have H1 : Hid (xT l = xB l) := xT_ok h0
    have hX := l10TextC a c l w2 (h.below B2 |>.mono B2.size) h0
    rw [h0]
    clear h0
    obtain ⟨T, hT⟩ : ∃ T, xB l = T := ⟨_, rfl⟩
    rw [hT] at H1 hX
    clear hT
    go_wp2_with fail
    refine hX.mono ?_
    rintro e w3 ⟨rfl, b3⟩
    have r3 := r2.below (by omega) b3
    have d0 := r3.c0
    have d1 := r3.c1
    have f0 := r3.f0
    have f1 := r3.f1
    have B3 := B2.trans (b3.mono B2.size)
    have HB : Hid (Below w.heap.size w ((w3.setCell ⟨w.heap.size, 0, none⟩ (.int .i64 0)).setCell ⟨w.heap.size, 1, none⟩ (.string T))) := below_sets B3 (by omega) _ _
    clear hX r2 r3 b3 b2 B2 B3
    go_wp2
    refine bodyPost_ret (v := .agg #[.int .i64 0, .string T]) (by simp [results, Tryd.results33, go_sem, d0, d1]) rfl ?_
    exact ⟨x_ret H0.out.symm H1.out.symm, HB.out⟩
  · have H1 : Hid (xT l = ⟨#[]⟩) := xT_no h0
    obtain ⟨X, hX⟩ : ∃ X, ixf l = X := ⟨_, rfl⟩
    have H0 : Hid (ixf l = X) := hX
    rw [hX] at h0 ⊢
    have qX : (X != 0) = true := by simp [h0]
    have d0 := r2.c0
    have d1 := r2.c1
    have f0 := r2.f0
    have f1 := r2.f1
    have HB : Hid (Below w.heap.size w ((w2.setCell ⟨w.heap.size, 0, none⟩ (.int .i64 X)).setCell ⟨w.heap.size, 1, none⟩ (.string ⟨#[]⟩))) := below_sets B2 (by omega) _ _
    clear h0 hX r2 b2 B2
    go_wp2
    refine bodyPost_ret (v := .agg #[.int .i64 X, .string ⟨#[]⟩]) (by simp [results, Tryd.results33, go_sem, d0, d1]) rfl ?_
    exact ⟨x_ret H0.out.symm H1.out.symm, HB.out⟩
end Go.Proofs.YtnififnogdekiaaDoor.En
