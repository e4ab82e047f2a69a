/- What FnObjects asks, as mathematics: what is read is what was written. No statement is proved here. -/
import Derived.Test.YtijphomojljckaaGreatDoorRows
import Derived.Test.YtijphomojljckaaGreatDoorLemQ
import Derived.Test.YtijphomojljckaaGreatDoorLFLemQ
import Derived.Test.YtijphomojljckaaGreatDoorIterQ
import Derived.Test.YtijphomojljckaaGreatDoorIdLQ
import Derived.Test.YtijphomojljckaaGreatDoorTeLQ
import Derived.Test.YtijphomojljckaaGreatDoorTrCQ
import Derived.Test.YtijphomojljckaaGreatDoorTrFQ
import Derived.Test.YtijphomojljckaaGreatDoorTrEQ
import Derived.Test.YtijphomojljckaaGreatDoorDtLQ
import Derived.Test.YtijphomojljckaaGreatDoorRtCQ
import Derived.Test.YtijphomojljckaaGreatDoorNtCQ
import Derived.Test.YtijphomojljckaaGreatDoorFpSQ
import Derived.Test.YtijphomojljckaaGreatDoorWcCQ
import Derived.Test.YtijphomojljckaaGreatDoorCmTQ
import Derived.Test.YtijphomojljckaaGreatDoorCmJQ
import Derived.Test.YtijphomojljckaaGreatDoorDcLQ
import Derived.Test.YtijphomojljckaaGreatDoorDcWQ
import Derived.WalkKit
import Derived.Test.YtijphomojljckaaGreatDoorAsCQ
import Derived.ProofKit
import Derived.ChangeSame
import Derived.ChangeVars
import Derived.JoinedOf
import Derived.RowKit
import Derived.RowKitTokens
import Derived.LaidLaws
import Derived.LaidHandle
import Derived.LaidMore
import Derived.OpenShut
import Derived.OpenVars
import Derived.Stop.Joined
import Derived.Lib.LaidTab
import Derived.Test.YtijphomojljckaaGreatDoorWtCQ
import Derived.Test.YtijphomojljckaaGreatDoorRcHQ
namespace Go.Proofs.YtijphomojljckaaGreatDoor.Fo
open Go.ChangeShapes Go.WideShapes Go.ChangeAt Go.RowKit
theorem et_short (l : List Te.Ob) : (Te.etT l).size ≤ 2000 := by
  by_cases h : Te.tfl l = 0
  · rw [Te.etT_ok h]
    by_cases h2 : 2000 < ((Te.trB l).size : Int) ∨ 100 < ((linesOf (Te.trB l)).length : Int)
    · have q := tf_many h2
      by_cases h3 : Te.trE l = 0
      · rw [Te.tfl_ok h3, q] at h; omega
      · rw [Te.tfl_bad h3] at h; exact absurd h h3
    · omega
  · rw [Te.etT_no h]; decide
theorem et_back {s : ByteArray} (h : Te.dtC s = 0) : Te.etT (Te.dtE s) = s := by
  cases hI : Te.dtI s with
  | false => rw [(Te.dt_no hI).1] at h; omega
  | true =>
    rw [(Te.dt_yes hI).2]
    unfold Te.dtI at hI
    simp only [Bool.and_eq_true, decide_eq_true_eq] at hI
    rw [Te.etT_ok hI.2.1, hI.2.2]
theorem de_short (s : ByteArray) : (Te.dtE s).length ≤ 100 := by
  cases hI : Te.dtI s with
  | false => rw [(Te.dt_no hI).2]; simp
  | true =>
    rw [(Te.dt_yes hI).2]
    unfold Te.dtI at hI
    simp only [Bool.and_eq_true, decide_eq_true_eq] at hI
    exact (Te.tfl_fineD hI.2.1).2
theorem ec_short (t : ByteArray) (ps : List ByteArray) (tm : Int) (no : ByteArray) : (Cm.ecT t ps tm no).size ≤ 2000 := by
  by_cases h : cmF t ps tm no = 0
  · rw [Cm.ecT_ok h]
    obtain ⟨k0, k1, k2⟩ := cmF_zero h
    obtain ⟨x1, x2, x3⟩ := hd_zero k0
    obtain ⟨q1, q3⟩ := inB_lo k1
    have hq := Cm.cmQ_size t ps (by have := Te.isOf_size x1; omega) x2 (fun k hk => by have := Te.isOf_size (x3 k hk).1; omega) ps.length (Nat.le_refl _)
    have hn := nt_size k2
    have hds : (decB tm.toNat).size ≤ 10 := by
      have q9 := it_size q1 q3
      rw [Cm.itB_dec q1] at q9
      exact q9
    rw [Cm.cmB_all q1]
    simp only [ByteArray.size_append]
    have e1 : (⟨#[116, 105, 109, 101, 32]⟩ : ByteArray).size = 5 := rfl
    have e2 : (⟨#[10, 110, 111, 116, 101, 32]⟩ : ByteArray).size = 6 := rfl
    have e3 : (⟨#[10]⟩ : ByteArray).size = 1 := rfl
    omega
  · rw [Cm.ecT_no h]; decide
theorem ec_back {s : ByteArray} (h : Dc.dcC s = 0) : Cm.ecT (Dc.dcK s).1 (Dc.dcK s).2.1 (Dc.dcK s).2.2.1 (Dc.dcK s).2.2.2 = s := by
  cases hI : Dc.dcI Dc.pI s with
  | none => rw [(Dc.dc_none hI).1] at h; omega
  | some c =>
    rw [(Dc.dc_some hI).2]
    obtain ⟨h0, h1⟩ := Dc.dcI_some hI
    rw [Cm.ecT_ok h0]
    unfold cmB
    rw [h1]
theorem dk_short (s : ByteArray) : (Dc.dcK s).2.1.length ≤ 3 := by
  cases hI : Dc.dcI Dc.pI s with
  | none => rw [(Dc.dc_none hI).2]; simp
  | some c =>
    rw [(Dc.dc_some hI).2]
    obtain ⟨h0, h1⟩ := Dc.dcI_some hI
    obtain ⟨k0, k1, k2⟩ := cmF_zero h0
    exact (hd_zero k0).2.1
theorem dc_back {t : ByteArray} {ps : List ByteArray} {tm : Int} {no : ByteArray} (h : cmF t ps tm no = 0) : Dc.dcC (Cm.ecT t ps tm no) = 0 ∧ Dc.dcK (Cm.ecT t ps tm no) = (t, ps, tm, no) := by
  have e : Dc.dcI Dc.pI (Cm.ecT t ps tm no) = some (t, ps, tm, no) := by
    rw [Cm.ecT_ok h]
    exact Dc.dcI_of Dc.pI_dec (c := (t, ps, tm, no)) h (by unfold cmB; simp)
  exact Dc.dc_some e
end Go.Proofs.YtijphomojljckaaGreatDoor.Fo
/- What the laid variables give a walk (the words of modes, the variable of errors.As), and a world that meets the condition. No statement is proved here. -/
namespace Go.Proofs.YtijphomojljckaaGreatDoor.Te
open Go.ChangeShapes Go.WideShapes Go.ChangeAt Go.RowKit

theorem gMw : Tryz.prog.globalNamed "loop.example/g00172/impl.modeWords" = some 0 := by kernel_rfl
theorem gEt : Tryz.prog.globalNamed "errors.errorType" = some 2 := by kernel_rfl
theorem tMw : (Tryz.prog.globals[0]?).map (·.type) = some 115 := by kernel_rfl
theorem rtE : (Tryz.prog.cutTypes.find? (·.1 == "internal/reflectlite.rtype")).map (·.2) = some 139 := by kernel_rfl
theorem oneE : ((List.range 223).filter fun t => Tryz.prog.rowNamed t [101, 114, 114, 111, 114]) = [48] := by kernel_rfl
theorem sizeT : Tryz.prog.types.size = 223 := by kernel_rfl
theorem errG_of {W : World} (h : handlesMet Tryz.prog [("errors.errorType", Rows.laid_errors_errorType)] W) : ErrG W := by
  obtain ⟨name, u, ty, e1, e2, e3, e4, e5⟩ := h _ (List.mem_singleton.2 rfl)
  have en : name = [101, 114, 114, 111, 114] := (Option.some.inj e1).symm
  subst en
  obtain rfl := Option.some.inj (rtE.symm.trans e2)
  have hm : ty ∈ (List.range 223).filter fun t => Tryz.prog.rowNamed t [101, 114, 114, 111, 114] := List.mem_filter.2 ⟨List.mem_range.2 (by rw [← sizeT]; exact e3), e4⟩
  rw [oneE] at hm
  obtain rfl := List.mem_singleton.1 hm
  have hh : typeHandle Tryz.prog 48 = .pointer (some ⟨9, 48, none⟩) := by kernel_rfl
  rw [hh] at e5
  simpa [ErrG] using World.var?_cell gEt e5 0
theorem str_of {P : Program} {w : World} {sp : Nat → Bool} {m : Nat} {t : TypeId} {v : Value} {l : List UInt8} {q : List MemPlace} (ht : P.underlying t = some .string) (h : DataW.trod (fun _ => ()) P w 0 sp false m t [v] = some (.lit (.string l), q)) : v = .string ⟨l.toArray⟩ := by
  obtain ⟨s, e1, e2, _⟩ := DataW.trod_string ht h
  simp only [List.cons.injEq, and_true] at e1
  simp only [Prod.mk.injEq, DataW.lit.injEq, Lit.string.injEq] at e2
  rw [e1, e2.1]
theorem arr3 {P : Program} {w : World} {sp : Nat → Bool} {fuel : Nat} {t e : TypeId} {cs : Array Value} {l0 l1 l2 : List UInt8} {q : List MemPlace} (ht : P.underlying t = some (.array 3 e)) (he : P.underlying e = some .string) (ct : P.cellsOf t = 3) (ce : P.cellsOf e = 1)
    (hd : DataW.trod (fun _ => ()) P w 0 sp false fuel t cs.toList = some (.agg [.lit (.string l0), .lit (.string l1), .lit (.string l2)], q)) : cs = #[.string ⟨l0.toArray⟩, .string ⟨l1.toArray⟩, .string ⟨l2.toArray⟩] := by
  obtain ⟨xs, m1, rfl, hx1, hlen, hn3, hel⟩ := DataW.trod_array ht hd
  rw [ct] at hlen
  have h0 := hel 0 (by decide)
  have h1 := hel 1 (by decide)
  have h2 := hel 2 (by decide)
  rw [ce] at h0 h1 h2
  simp only [Prod.mk.injEq, DataW.agg.injEq] at hx1
  obtain ⟨c1⟩ := cs
  match c1, hlen, xs, hn3, hx1 with
  | [v0, v1, v2], _, [x0, x1, x2], _, hx1 =>
    simp only [List.map_cons, List.map_nil, List.cons.injEq, and_true] at hx1
    obtain ⟨⟨y0, y1, y2⟩, _⟩ := hx1
    obtain ⟨a0, b0⟩ := x0
    obtain ⟨a1, b1⟩ := x1
    obtain ⟨a2, b2⟩ := x2
    simp only [] at y0 y1 y2
    subst y0; subst y1; subst y2
    have z0 := str_of he (show DataW.trod (fun _ => ()) P w 0 _ false m1 e [v0] = some _ from h0)
    have z1 := str_of he (show DataW.trod (fun _ => ()) P w 0 _ false m1 e [v1] = some _ from h1)
    have z2 := str_of he (show DataW.trod (fun _ => ()) P w 0 _ false m1 e [v2] = some _ from h2)
    subst z0; subst z1; subst z2
    rfl
theorem mwG_of {W : World} {cs : Array Value} {fuel : Nat} {p : List MemPlace} (hv : W.var? Tryz.prog "loop.example/g00172/impl.modeWords" = some cs) (hd : DataW.trod (fun _ => ()) Tryz.prog W 0 (fun _ => true) false fuel 115 cs.toList = some (Rows.laid_loop_example_g00172_impl_modeWords, p)) : MwG W := by
  have e := arr3 Tryz.underlying115 Tryz.underlying9 (by kernel_rfl) (by kernel_rfl) hd
  subst e
  have k0 := World.var?_cell gMw hv 0
  have k1 := World.var?_cell gMw hv 1
  have k2 := World.var?_cell gMw hv 2
  exact ⟨by simpa using k0, by simpa using k1, by simpa using k2⟩
end Go.Proofs.YtijphomojljckaaGreatDoor.Te
/- What the laid variables give a walk over commits (the variable of errors.As, strconv's table), and a world that meets the condition. No statement is proved here. -/
namespace Go.Proofs.YtijphomojljckaaGreatDoor.Cm
open Go.ChangeShapes Go.WideShapes Go.ChangeAt Go.RowKit

theorem gTa : Tryz.prog.globalNamed "internal/strconv.uint64pow10" = some 6 := by kernel_rfl
theorem tTa : (Tryz.prog.globals[6]?).map (·.type) = some 185 := by kernel_rfl
theorem tab_of {P : Program} {W : World} {name : String} {k : IntKind} {zs : List Int} {t e : TypeId} {n : Nat} {cs : Array Value} {fuel : Nat} {p : List MemPlace}
    (ht : P.underlying t = some (.array n e)) (he : P.underlying e = some (.int k)) (hce : P.cellsOf e = 1) (hct : P.cellsOf t = n)
    (hv : W.var? P name = some cs) (hd : DataW.trod (fun _ => ()) P W 0 (fun _ => true) false fuel t cs.toList = some (Lib.tabData k zs, p)) : Lib.TabIs P W name k zs := by
  unfold Lib.TabIs
  rw [hv, ← Lib.cells_of_tab ht he hce hct hd]
theorem laid_gives {W : World} (h : laidMet Tryz.prog [("math/bits.deBruijn32tab", Rows.laid_math_bits_deBruijn32tab), ("math/bits.deBruijn64tab", Rows.laid_math_bits_deBruijn64tab), ("internal/strconv.uint64pow10", Lib.tabData .u64 Lib.pow10Tab), ("loop.example/g00172/impl.modeWords", Rows.laid_loop_example_g00172_impl_modeWords)] W ∧ handlesMet Tryz.prog [("errors.errorType", Rows.laid_errors_errorType)] W) : TaG W ∧ ErrG W := by
  refine ⟨?_, Te.errG_of h.2⟩
  obtain ⟨ps, ⟨_, _, _, _, _, _, _, _, _, _, ⟨_, _, _, _, _, _, _, _, _, _, ⟨g1, t1, cs1, f1, p1, q1, hg1, ht1, hv1, hd1, _, _⟩, _⟩, _⟩, _, _⟩ := h.1
  obtain rfl := Option.some.inj (gTa.symm.trans hg1)
  obtain rfl := Option.some.inj (tTa.symm.trans ht1)
  exact tab_of Tryz.underlying185 Tryz.underlying159 (by kernel_rfl) (by kernel_rfl) hv1 hd1
theorem cellLtTa {W : World} (h : TaG W) : 6 < W.heap.size :=
  cellLt (h.cell gTa 0 (by decide))
end Go.Proofs.YtijphomojljckaaGreatDoor.Cm
/- What the laid variables of FnObjects give a walk. No statement is proved here. -/
namespace Go.Proofs.YtijphomojljckaaGreatDoor.Fo
open Go.ChangeShapes Go.WideShapes Go.ChangeAt Go.RowKit

theorem gOf : Tryz.prog.globalNamed "loop.example/g00172/impl.errOtherForm" = some 1 := by kernel_rfl
theorem tOf : (Tryz.prog.globals[1]?).map (·.type) = some 48 := by kernel_rfl
theorem gSy : Tryz.prog.globalNamed "strconv.ErrSyntax" = some 4 := by kernel_rfl
theorem tSy : (Tryz.prog.globals[4]?).map (·.type) = some 48 := by kernel_rfl
theorem gRa : Tryz.prog.globalNamed "strconv.ErrRange" = some 5 := by kernel_rfl
theorem tRa : (Tryz.prog.globals[5]?).map (·.type) = some 48 := by kernel_rfl
theorem err_of1 {W : World} {cs : Array Value} {name : String} {g fuel : Nat} {p : List MemPlace} (hg : Tryz.prog.globalNamed name = some g) (hv : W.var? Tryz.prog name = some cs) (hd : DataW.trod (fun _ => ()) Tryz.prog W 0 (fun _ => true) false fuel 48 cs.toList = some (Rows.laid_strconv_ErrSyntax, p)) : ∃ (T : TypeId) (u : Value), W.cell? ⟨g, 0, none⟩ = some (.iface T u) := by
  obtain ⟨f1, u, v, e, _, _⟩ := iface_of_trod Tryz.underlying48 hd
  have e' : cs = #[.iface u v] := by cases cs; simpa using e
  subst e'
  have k0 := World.var?_cell hg hv 0
  exact ⟨u, v, by simpa using k0⟩
theorem err_of2 {W : World} {cs : Array Value} {name : String} {g fuel : Nat} {p : List MemPlace} (hg : Tryz.prog.globalNamed name = some g) (hv : W.var? Tryz.prog name = some cs) (hd : DataW.trod (fun _ => ()) Tryz.prog W 0 (fun _ => true) false fuel 48 cs.toList = some (Rows.laid_strconv_ErrRange, p)) : ∃ (T : TypeId) (u : Value), W.cell? ⟨g, 0, none⟩ = some (.iface T u) := by
  obtain ⟨f1, u, v, e, _, _⟩ := iface_of_trod Tryz.underlying48 hd
  have e' : cs = #[.iface u v] := by cases cs; simpa using e
  subst e'
  have k0 := World.var?_cell hg hv 0
  exact ⟨u, v, by simpa using k0⟩
theorem err_of3 {W : World} {cs : Array Value} {name : String} {g fuel : Nat} {p : List MemPlace} (hg : Tryz.prog.globalNamed name = some g) (hv : W.var? Tryz.prog name = some cs) (hd : DataW.trod (fun _ => ()) Tryz.prog W 0 (fun _ => true) false fuel 48 cs.toList = some (Rows.laid_loop_example_g00172_impl_errOtherForm, p)) : ∃ (T : TypeId) (u : Value), W.cell? ⟨g, 0, none⟩ = some (.iface T u) := by
  obtain ⟨f1, u, v, e, _, _⟩ := iface_of_trod Tryz.underlying48 hd
  have e' : cs = #[.iface u v] := by cases cs; simpa using e
  subst e'
  have k0 := World.var?_cell hg hv 0
  exact ⟨u, v, by simpa using k0⟩
theorem fo_laid {W : World} (h : laidMetH Tryz.prog Rows.fnObjectsRow.laid W) : Te.MwG W ∧ TaG W ∧ Dc.OfG W ∧ Dc.PeG W ∧ ErrG W := by
  have h' : laidMet Tryz.prog [("math/bits.deBruijn32tab", Rows.laid_math_bits_deBruijn32tab), ("math/bits.deBruijn64tab", Rows.laid_math_bits_deBruijn64tab), ("internal/strconv.uint64pow10", Lib.tabData .u64 Lib.pow10Tab), ("strconv.ErrRange", Rows.laid_strconv_ErrRange), ("strconv.ErrSyntax", Rows.laid_strconv_ErrSyntax), ("loop.example/g00172/impl.modeWords", Rows.laid_loop_example_g00172_impl_modeWords), ("loop.example/g00172/impl.errOtherForm", Rows.laid_loop_example_g00172_impl_errOtherForm)] W ∧ handlesMet Tryz.prog [("errors.errorType", Rows.laid_errors_errorType)] W := h
  obtain ⟨ps, ⟨_, _, _, _, _, _, _, _, _, _, ⟨_, _, _, _, _, _, _, _, _, _, ⟨gpow, tpow, cspow, fpow, ppow, qpow, hgpow, htpow, hvpow, hdpow, ⟨grng, trng, csrng, frng, prng, qrng, hgrng, htrng, hvrng, hdrng, ⟨gsyn, tsyn, cssyn, fsyn, psyn, qsyn, hgsyn, htsyn, hvsyn, hdsyn, ⟨gmw, tmw, csmw, fmw, pmw, qmw, hgmw, htmw, hvmw, hdmw, ⟨gof, tof, csof, fof, pof, qof, hgof, htof, hvof, hdof, _, _⟩, _⟩, _⟩, _⟩, _⟩, _⟩, _⟩, _, _⟩ := h'.1
  obtain rfl := Option.some.inj (gTa.symm.trans hgpow)
  obtain rfl := Option.some.inj (Cm.tTa.symm.trans htpow)
  obtain rfl := Option.some.inj (gRa.symm.trans hgrng)
  obtain rfl := Option.some.inj (tRa.symm.trans htrng)
  obtain rfl := Option.some.inj (gSy.symm.trans hgsyn)
  obtain rfl := Option.some.inj (tSy.symm.trans htsyn)
  obtain rfl := Option.some.inj (gOf.symm.trans hgof)
  obtain rfl := Option.some.inj (tOf.symm.trans htof)
  obtain rfl := Option.some.inj (Te.gMw.symm.trans hgmw)
  obtain rfl := Option.some.inj (Te.tMw.symm.trans htmw)
  exact ⟨Te.mwG_of hvmw hdmw, Cm.tab_of Tryz.underlying185 Tryz.underlying159 (by kernel_rfl) (by kernel_rfl) hvpow hdpow, err_of3 gOf hvof hdof, ⟨err_of1 gSy hvsyn hdsyn, err_of2 gRa hvrng hdrng⟩, Te.errG_of h'.2⟩
theorem fo_met (os : Os) (args : Array Value) : laidMetH Tryz.prog Rows.fnObjectsRow.laid ((World.doorLaid Tryz.prog 400 os).forCall (fun _ _ => 0) ⟨#[], args, []⟩).memory :=
  laidMetH_of_parts3 (fuel := 8) (laidMet_of_run' 8 (by kernel_rfl) (by kernel_rfl)) (by kernel_rfl) (by kernel_rfl)
end Go.Proofs.YtijphomojljckaaGreatDoor.Fo
