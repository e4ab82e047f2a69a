/- What the laid variables of DecodeCommit give a walk. No statement is proved here. -/
import Derived.Test.YtgidcncmicmggamGreatDoorRows
import Derived.Test.YtgidcncmicmggamGreatDoorLem
import Derived.Test.YtgidcncmicmggamGreatDoorCdC
import Derived.Test.YtgidcncmicmggamGreatDoorTrG
import Derived.Test.YtgidcncmicmggamGreatDoorFiC
import Derived.Test.YtgidcncmicmggamGreatDoorCmG
import Derived.Test.YtgidcncmicmggamGreatDoorWtD
import Derived.Test.YtgidcncmicmggamGreatDoorRcH
import Derived.ProofKit
import Derived.ChangeSame
import Derived.ChangeVars
import Derived.JoinedOf
import Derived.RowKit
import Derived.RowKitTokens
import Derived.LaidLaws
import Derived.LaidHandle
import Derived.LaidMore
import Derived.OpenShut
import Derived.OpenVars
import Derived.Lib.LaidTab
import Derived.Stop.Joined
namespace Go.Proofs.YtgidcncmicmggamGreatDoor.Dc
open Go.ChangeShapes Go.WideShapes Go.ChangeAt Go.RowKit

theorem gOf : Tryz.prog.globalNamed "loop.example/g00172/impl.errOtherForm" = some 0 := by kernel_rfl
theorem tOf : (Tryz.prog.globals[0]?).map (·.type) = some 58 := by kernel_rfl
theorem gSy : Tryz.prog.globalNamed "strconv.ErrSyntax" = some 3 := by kernel_rfl
theorem tSy : (Tryz.prog.globals[3]?).map (·.type) = some 58 := by kernel_rfl
theorem gRa : Tryz.prog.globalNamed "strconv.ErrRange" = some 4 := by kernel_rfl
theorem tRa : (Tryz.prog.globals[4]?).map (·.type) = some 58 := by kernel_rfl
theorem err_of1 {W : World} {cs : Array Value} {name : String} {g fuel : Nat} {p : List MemPlace} (hg : Tryz.prog.globalNamed name = some g) (hv : W.var? Tryz.prog name = some cs) (hd : DataW.trod (fun _ => ()) Tryz.prog W 0 (fun _ => true) false fuel 58 cs.toList = some (Rows.laid_strconv_ErrSyntax, p)) : ∃ (T : TypeId) (u : Value), W.cell? ⟨g, 0, none⟩ = some (.iface T u) := by
  obtain ⟨f1, u, v, e, _, _⟩ := iface_of_trod Tryz.underlying58 hd
  have e' : cs = #[.iface u v] := by cases cs; simpa using e
  subst e'
  have k0 := World.var?_cell hg hv 0
  exact ⟨u, v, by simpa using k0⟩
theorem err_of2 {W : World} {cs : Array Value} {name : String} {g fuel : Nat} {p : List MemPlace} (hg : Tryz.prog.globalNamed name = some g) (hv : W.var? Tryz.prog name = some cs) (hd : DataW.trod (fun _ => ()) Tryz.prog W 0 (fun _ => true) false fuel 58 cs.toList = some (Rows.laid_strconv_ErrRange, p)) : ∃ (T : TypeId) (u : Value), W.cell? ⟨g, 0, none⟩ = some (.iface T u) := by
  obtain ⟨f1, u, v, e, _, _⟩ := iface_of_trod Tryz.underlying58 hd
  have e' : cs = #[.iface u v] := by cases cs; simpa using e
  subst e'
  have k0 := World.var?_cell hg hv 0
  exact ⟨u, v, by simpa using k0⟩
theorem err_of3 {W : World} {cs : Array Value} {name : String} {g fuel : Nat} {p : List MemPlace} (hg : Tryz.prog.globalNamed name = some g) (hv : W.var? Tryz.prog name = some cs) (hd : DataW.trod (fun _ => ()) Tryz.prog W 0 (fun _ => true) false fuel 58 cs.toList = some (Rows.laid_loop_example_g00172_impl_errOtherForm, p)) : ∃ (T : TypeId) (u : Value), W.cell? ⟨g, 0, none⟩ = some (.iface T u) := by
  obtain ⟨f1, u, v, e, _, _⟩ := iface_of_trod Tryz.underlying58 hd
  have e' : cs = #[.iface u v] := by cases cs; simpa using e
  subst e'
  have k0 := World.var?_cell hg hv 0
  exact ⟨u, v, by simpa using k0⟩
theorem dc_laid {W : World} (h : laidMetH Tryz.prog Rows.fnExactDecodeCommitRow.laid W) : TaG W ∧ OfG W ∧ PeG W ∧ ErrG W := by
  have h' : laidMet Tryz.prog [("math/bits.deBruijn32tab", Rows.laid_math_bits_deBruijn32tab), ("math/bits.deBruijn64tab", Rows.laid_math_bits_deBruijn64tab), ("internal/strconv.uint64pow10", Lib.tabData .u64 Lib.pow10Tab), ("strconv.ErrRange", Rows.laid_strconv_ErrRange), ("strconv.ErrSyntax", Rows.laid_strconv_ErrSyntax), ("loop.example/g00172/impl.modeWords", Rows.laid_loop_example_g00172_impl_modeWords), ("loop.example/g00172/impl.errOtherForm", Rows.laid_loop_example_g00172_impl_errOtherForm)] W ∧ handlesMet Tryz.prog [("errors.errorType", Rows.laid_errors_errorType)] W := h
  obtain ⟨ps, ⟨_, _, _, _, _, _, _, _, _, _, ⟨_, _, _, _, _, _, _, _, _, _, ⟨gpow, tpow, cspow, fpow, ppow, qpow, hgpow, htpow, hvpow, hdpow, ⟨grng, trng, csrng, frng, prng, qrng, hgrng, htrng, hvrng, hdrng, ⟨gsyn, tsyn, cssyn, fsyn, psyn, qsyn, hgsyn, htsyn, hvsyn, hdsyn, ⟨_, _, _, _, _, _, _, _, _, _, ⟨gof, tof, csof, fof, pof, qof, hgof, htof, hvof, hdof, _, _⟩, _⟩, _⟩, _⟩, _⟩, _⟩, _⟩, _, _⟩ := h'.1
  obtain rfl := Option.some.inj (gTa.symm.trans hgpow)
  obtain rfl := Option.some.inj (Cm.tTa.symm.trans htpow)
  obtain rfl := Option.some.inj (gRa.symm.trans hgrng)
  obtain rfl := Option.some.inj (tRa.symm.trans htrng)
  obtain rfl := Option.some.inj (gSy.symm.trans hgsyn)
  obtain rfl := Option.some.inj (tSy.symm.trans htsyn)
  obtain rfl := Option.some.inj (gOf.symm.trans hgof)
  obtain rfl := Option.some.inj (tOf.symm.trans htof)
  exact ⟨Cm.tab_of Tryz.underlying301 Tryz.underlying203 (by kernel_rfl) (by kernel_rfl) hvpow hdpow, err_of3 gOf hvof hdof, ⟨err_of1 gSy hvsyn hdsyn, err_of2 gRa hvrng hdrng⟩, Te.errG_of h'.2⟩
theorem dc_met (os : Os) (args : Array Value) : laidMetH Tryz.prog Rows.fnExactDecodeCommitRow.laid ((World.doorLaid Tryz.prog 400 os).forCall (fun _ _ => 0) ⟨#[], args, []⟩).memory :=
  laidMetH_of_parts3 (fuel := 8) (laidMet_of_run' 8 (by kernel_rfl) (by kernel_rfl)) (by kernel_rfl) (by kernel_rfl)
end Go.Proofs.YtgidcncmicmggamGreatDoor.Dc
