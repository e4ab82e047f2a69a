/- What the laid variables give a walk over commits (the variable of errors.As, strconv's table), and a world that meets the condition. No statement is proved here. -/
import Derived.Test.YtgidcncmicmggamGreatDoorRows
import Derived.Test.YtgidcncmicmggamGreatDoorLem
import Derived.Test.YtgidcncmicmggamGreatDoorCdC
import Derived.Test.YtgidcncmicmggamGreatDoorTrG
import Derived.Test.YtgidcncmicmggamGreatDoorFiC
import Derived.ProofKit
import Derived.ChangeSame
import Derived.ChangeVars
import Derived.JoinedOf
import Derived.RowKit
import Derived.RowKitTokens
import Derived.LaidLaws
import Derived.LaidHandle
import Derived.LaidMore
import Derived.OpenShut
import Derived.OpenVars
import Derived.Lib.LaidTab
import Derived.Stop.Joined
namespace Go.Proofs.YtgidcncmicmggamGreatDoor.Cm
open Go.ChangeShapes Go.WideShapes Go.ChangeAt Go.RowKit

theorem gTa : Tryz.prog.globalNamed "internal/strconv.uint64pow10" = some 6 := by kernel_rfl
theorem tTa : (Tryz.prog.globals[6]?).map (·.type) = some 301 := by kernel_rfl
theorem tab_of {P : Program} {W : World} {name : String} {k : IntKind} {zs : List Int} {t e : TypeId} {n : Nat} {cs : Array Value} {fuel : Nat} {p : List MemPlace}
    (ht : P.underlying t = some (.array n e)) (he : P.underlying e = some (.int k)) (hce : P.cellsOf e = 1) (hct : P.cellsOf t = n)
    (hv : W.var? P name = some cs) (hd : DataW.trod (fun _ => ()) P W 0 (fun _ => true) false fuel t cs.toList = some (Lib.tabData k zs, p)) : Lib.TabIs P W name k zs := by
  unfold Lib.TabIs
  rw [hv, ← Lib.cells_of_tab ht he hce hct hd]
theorem laid_gives {W : World} (h : laidMet Tryz.prog [("math/bits.deBruijn32tab", Rows.laid_math_bits_deBruijn32tab), ("math/bits.deBruijn64tab", Rows.laid_math_bits_deBruijn64tab), ("internal/strconv.uint64pow10", Lib.tabData .u64 Lib.pow10Tab), ("loop.example/g00172/impl.modeWords", Rows.laid_loop_example_g00172_impl_modeWords)] W ∧ handlesMet Tryz.prog [("errors.errorType", Rows.laid_errors_errorType)] W) : TaG W ∧ ErrG W := by
  refine ⟨?_, Te.errG_of h.2⟩
  obtain ⟨ps, ⟨_, _, _, _, _, _, _, _, _, _, ⟨_, _, _, _, _, _, _, _, _, _, ⟨g1, t1, cs1, f1, p1, q1, hg1, ht1, hv1, hd1, _, _⟩, _⟩, _⟩, _, _⟩ := h.1
  obtain rfl := Option.some.inj (gTa.symm.trans hg1)
  obtain rfl := Option.some.inj (tTa.symm.trans ht1)
  exact tab_of Tryz.underlying301 Tryz.underlying203 (by kernel_rfl) (by kernel_rfl) hv1 hd1
theorem cellLtTa {W : World} (h : TaG W) : 6 < W.heap.size :=
  cellLt (h.cell gTa 0 (by decide))
end Go.Proofs.YtgidcncmicmggamGreatDoor.Cm
