/- What the laid variables of DecodeTree give a walk. No statement is proved here. -/
import Derived.Test.YtibgfngicijnlalGreatDoorRows
import Derived.Test.YtibgfngicijnlalGreatDoorLem
import Derived.Test.YtibgfngicijnlalGreatDoorCdC
import Derived.Test.YtibgfngicijnlalGreatDoorTrW
import Derived.Test.YtibgfngicijnlalGreatDoorTrG
import Derived.Test.YtibgfngicijnlalGreatDoorWtC
import Derived.ProofKit
import Derived.ChangeSame
import Derived.ChangeVars
import Derived.JoinedOf
import Derived.RowKit
import Derived.RowKitTokens
import Derived.LaidLaws
import Derived.LaidHandle
import Derived.LaidMore
import Derived.OpenShut
import Derived.OpenVars
import Derived.Stop.Joined
namespace Go.Proofs.YtibgfngicijnlalGreatDoor.Te
open Go.ChangeShapes Go.WideShapes Go.ChangeAt Go.RowKit

theorem gOf : Tryz.prog.globalNamed "loop.example/g00172/impl.errOtherForm" = some 1 := by kernel_rfl
theorem tOf : (Tryz.prog.globals[1]?).map (·.type) = some 32 := by kernel_rfl
theorem ofG_of {W : World} {cs : Array Value} {fuel : Nat} {p : List MemPlace} (hv : W.var? Tryz.prog "loop.example/g00172/impl.errOtherForm" = some cs) (hd : DataW.trod (fun _ => ()) Tryz.prog W 0 (fun _ => true) false fuel 32 cs.toList = some (Rows.laid_loop_example_g00172_impl_errOtherForm, p)) : OfG W := by
  obtain ⟨f1, u, v, e, _, _⟩ := iface_of_trod Tryz.underlying32 hd
  have e' : cs = #[.iface u v] := by cases cs; simpa using e
  subst e'
  have k0 := World.var?_cell gOf hv 0
  exact ⟨u, v, by simpa using k0⟩
theorem dt_laid {W : World} (h : laidMetH Tryz.prog Rows.fnExactDecodeTreeRow.laid W) : MwG W ∧ OfG W ∧ ErrG W := by
  have h' : laidMet Tryz.prog [("math/bits.deBruijn32tab", Rows.laid_math_bits_deBruijn32tab), ("math/bits.deBruijn64tab", Rows.laid_math_bits_deBruijn64tab), ("internal/strconv.uint64pow10", Rows.laid_internal_strconv_uint64pow10), ("loop.example/g00172/impl.modeWords", Rows.laid_loop_example_g00172_impl_modeWords), ("loop.example/g00172/impl.errOtherForm", Rows.laid_loop_example_g00172_impl_errOtherForm)] W ∧ handlesMet Tryz.prog [("errors.errorType", Rows.laid_errors_errorType)] W := h
  obtain ⟨ps, ⟨_, _, _, _, _, _, _, _, _, _, ⟨_, _, _, _, _, _, _, _, _, _, ⟨_, _, _, _, _, _, _, _, _, _, ⟨g1, t1, cs1, f1, p1, q1, hg1, ht1, hv1, hd1, ⟨g2, t2, cs2, f2, p2, q2, hg2, ht2, hv2, hd2, _, _⟩, _⟩, _⟩, _⟩, _⟩, _, _⟩ := h'.1
  obtain rfl := Option.some.inj (gMw.symm.trans hg1)
  obtain rfl := Option.some.inj (tMw.symm.trans ht1)
  obtain rfl := Option.some.inj (gOf.symm.trans hg2)
  obtain rfl := Option.some.inj (tOf.symm.trans ht2)
  exact ⟨mwG_of hv1 hd1, ofG_of hv2 hd2, errG_of h'.2⟩
theorem dt_met (os : Os) (args : Array Value) : laidMetH Tryz.prog Rows.fnExactDecodeTreeRow.laid ((World.doorLaid Tryz.prog 400 os).forCall (fun _ _ => 0) ⟨#[], args, []⟩).memory :=
  laidMetH_of_parts3 (fuel := 8) (laidMet_of_run' 8 (by kernel_rfl) (by kernel_rfl)) (by kernel_rfl) (by kernel_rfl)
end Go.Proofs.YtibgfngicijnlalGreatDoor.Te
