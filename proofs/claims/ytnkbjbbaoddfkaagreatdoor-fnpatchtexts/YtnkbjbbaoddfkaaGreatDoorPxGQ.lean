/- What the laid variables of FnPatchTexts give a walk. No statement is proved here. -/
import Derived.Test.YtnkbjbbaoddfkaaGreatDoorRows
import Derived.Test.YtnkbjbbaoddfkaaGreatDoorLemQ
import Derived.Test.YtnkbjbbaoddfkaaGreatDoorFiCQ
import Derived.Test.YtnkbjbbaoddfkaaGreatDoorPqTQ
import Derived.Test.YtnkbjbbaoddfkaaGreatDoorPqNQ
import Derived.ProofKit
import Derived.ChangeSame
import Derived.ChangeVars
import Derived.JoinedOf
import Derived.RowKit
import Derived.RowKitTokens
import Derived.LaidLaws
import Derived.LaidHandle
import Derived.LaidMore
import Derived.Lay
import Derived.OpenShut
import Derived.OpenVars
import Derived.Lib.LaidTab
import Derived.Stop.Joined
set_option linter.unusedVariables false
namespace Go.Proofs.YtnkbjbbaoddfkaaGreatDoor.Pp
open Go.ChangeShapes Go.WideShapes Go.ChangeAt Go.RowKit

theorem tTa : (Tryz.prog.globals[1]?).map (·.type) = some 150 := by kernel_rfl
theorem gUn : Tryz.prog.globalNamed "loop.example/g00172/impl.errUnreadable" = some 0 := by kernel_rfl
theorem tUn : (Tryz.prog.globals[0]?).map (·.type) = some 74 := by kernel_rfl
theorem gSy : Tryz.prog.globalNamed "strconv.ErrSyntax" = some 2 := by kernel_rfl
theorem tSy : (Tryz.prog.globals[2]?).map (·.type) = some 74 := by kernel_rfl
theorem gRa : Tryz.prog.globalNamed "strconv.ErrRange" = some 3 := by kernel_rfl
theorem tRa : (Tryz.prog.globals[3]?).map (·.type) = some 74 := by kernel_rfl
theorem gAc : Tryz.prog.globalNamed "math/bits.deBruijn64tab" = some 8 := by kernel_rfl
theorem gAll : 9 ≤ 8 + 1 := by decide
theorem var_lt {W : World} {name : String} {g : Nat} {cs : Array Value} (hg : Tryz.prog.globalNamed name = some g) (hv : W.var? Tryz.prog name = some cs) : g < W.heap.size := by
  unfold World.var? at hv
  rw [hg] at hv
  cases e : W.heap[g]? with
  | none => simp [e] at hv
  | some o => exact (Array.getElem?_eq_some_iff.1 e).1
theorem tab_of {P : Program} {W : World} {name : String} {k : IntKind} {zs : List Int} {t e : TypeId} {n : Nat} {cs : Array Value} {fuel : Nat} {p : List MemPlace}
    (ht : P.underlying t = some (.array n e)) (he : P.underlying e = some (.int k)) (hce : P.cellsOf e = 1) (hct : P.cellsOf t = n)
    (hv : W.var? P name = some cs) (hd : DataW.trod (fun _ => ()) P W 0 (fun _ => true) false fuel t cs.toList = some (Lib.tabData k zs, p)) : Lib.TabIs P W name k zs := by
  unfold Lib.TabIs
  rw [hv, ← Lib.cells_of_tab ht he hce hct hd]
theorem err_of1 {W : World} {cs : Array Value} {name : String} {g fuel : Nat} {p : List MemPlace} (hg : Tryz.prog.globalNamed name = some g) (hv : W.var? Tryz.prog name = some cs) (hd : DataW.trod (fun _ => ()) Tryz.prog W 0 (fun _ => true) false fuel 74 cs.toList = some (Rows.laid_strconv_ErrSyntax, p)) : ∃ (T : TypeId) (u : Value), W.cell? ⟨g, 0, none⟩ = some (.iface T u) := by
  obtain ⟨f1, u, v, e, _, _⟩ := iface_of_trod Tryz.underlying74 hd
  have e' : cs = #[.iface u v] := by cases cs; simpa using e
  subst e'
  have k0 := World.var?_cell hg hv 0
  exact ⟨u, v, by simpa using k0⟩
theorem err_of2 {W : World} {cs : Array Value} {name : String} {g fuel : Nat} {p : List MemPlace} (hg : Tryz.prog.globalNamed name = some g) (hv : W.var? Tryz.prog name = some cs) (hd : DataW.trod (fun _ => ()) Tryz.prog W 0 (fun _ => true) false fuel 74 cs.toList = some (Rows.laid_strconv_ErrRange, p)) : ∃ (T : TypeId) (u : Value), W.cell? ⟨g, 0, none⟩ = some (.iface T u) := by
  obtain ⟨f1, u, v, e, _, _⟩ := iface_of_trod Tryz.underlying74 hd
  have e' : cs = #[.iface u v] := by cases cs; simpa using e
  subst e'
  have k0 := World.var?_cell hg hv 0
  exact ⟨u, v, by simpa using k0⟩
theorem err_of3 {W : World} {cs : Array Value} {name : String} {g fuel : Nat} {p : List MemPlace} (hg : Tryz.prog.globalNamed name = some g) (hv : W.var? Tryz.prog name = some cs) (hd : DataW.trod (fun _ => ()) Tryz.prog W 0 (fun _ => true) false fuel 74 cs.toList = some (Rows.laid_loop_example_g00172_impl_errUnreadable, p)) : ∃ (T : TypeId) (u : Value), W.cell? ⟨g, 0, none⟩ = some (.iface T u) := by
  obtain ⟨f1, u, v, e, _, _⟩ := iface_of_trod Tryz.underlying74 hd
  have e' : cs = #[.iface u v] := by cases cs; simpa using e
  subst e'
  have k0 := World.var?_cell hg hv 0
  exact ⟨u, v, by simpa using k0⟩
theorem px_laid {W : World} (h0 : laidMetH Tryz.prog Rows.fnPatchTextsRow.laid W) : TaG W ∧ UnG W ∧ PeG W ∧ 9 ≤ W.heap.size := by
  rw [MakeChecks.laidMetH_plain _ _ _ (by kernel_rfl)] at h0
  have h : laidMet Tryz.prog [("math/bits.deBruijn32tab", Rows.laid_math_bits_deBruijn32tab), ("math/bits.deBruijn64tab", Rows.laid_math_bits_deBruijn64tab), ("internal/strconv.uint64pow10", Lib.tabData .u64 Lib.pow10Tab), ("unicode/utf8.acceptRanges", Rows.laid_unicode_utf8_acceptRanges), ("strconv.ErrRange", Rows.laid_strconv_ErrRange), ("strconv.ErrSyntax", Rows.laid_strconv_ErrSyntax), ("loop.example/g00172/impl.errUnreadable", Rows.laid_loop_example_g00172_impl_errUnreadable), ("unicode/utf8.first", Rows.laid_unicode_utf8_first)] W := h0
  obtain ⟨ps, ⟨_, _, _, _, _, _, _, _, _, _, ⟨_, _, csdb, _, _, _, _, _, hvdb, _, ⟨gpow, tpow, cspow, fpow, ppow, qpow, hgpow, htpow, hvpow, hdpow, ⟨gacc, tacc, csacc, facc, pacc, qacc, hgacc, htacc, hvacc, hdacc, ⟨grng, trng, csrng, frng, prng, qrng, hgrng, htrng, hvrng, hdrng, ⟨gsyn, tsyn, cssyn, fsyn, psyn, qsyn, hgsyn, htsyn, hvsyn, hdsyn, ⟨gun, tun, csun, fun_, pun, qun, hgun, htun, hvun, hdun, _, _⟩, _⟩, _⟩, _⟩, _⟩, _⟩, _⟩, _, _⟩ := h
  obtain rfl := Option.some.inj (gTa.symm.trans hgpow)
  obtain rfl := Option.some.inj (tTa.symm.trans htpow)
  obtain rfl := Option.some.inj (gRa.symm.trans hgrng)
  obtain rfl := Option.some.inj (tRa.symm.trans htrng)
  obtain rfl := Option.some.inj (gSy.symm.trans hgsyn)
  obtain rfl := Option.some.inj (tSy.symm.trans htsyn)
  obtain rfl := Option.some.inj (gUn.symm.trans hgun)
  obtain rfl := Option.some.inj (tUn.symm.trans htun)
  refine ⟨tab_of Tryz.underlying150 Tryz.underlying128 (by kernel_rfl) (by kernel_rfl) hvpow hdpow, err_of3 gUn hvun hdun, ⟨err_of1 gSy hvsyn hdsyn, err_of2 gRa hvrng hdrng⟩, ?_⟩
  have := var_lt gAc hvdb
  have := gAll
  omega
end Go.Proofs.YtnkbjbbaoddfkaaGreatDoor.Pp
