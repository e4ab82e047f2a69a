/- Proved: at every list of hunks FnExactFormatPatch returns true (FormatPatch answers as its specification and changes no argument). Its condition: the laid variables hold what the row says (the tied card FnExactFormatPatchCardSaid). -/
import Derived.Test.YtdfoponekgifkaaDoorRows
import Derived.Test.YtdfoponekgifkaaDoorLem
import Derived.Test.YtdfoponekgifkaaDoorStrs
import Derived.Test.YtdfoponekgifkaaDoorMarks
import Derived.Test.YtdfoponekgifkaaDoorLFLem
import Derived.Test.YtdfoponekgifkaaDoorLF
import Derived.Test.YtdfoponekgifkaaDoorDTab
import Derived.Test.YtdfoponekgifkaaDoorOwn
import Derived.Test.YtdfoponekgifkaaDoorFr
import Derived.Test.YtdfoponekgifkaaDoorIn
import Derived.Test.YtdfoponekgifkaaDoorHkL
import Derived.Test.YtdfoponekgifkaaDoorHkC
import Derived.Test.YtdfoponekgifkaaDoorHkS
import Derived.Test.YtdfoponekgifkaaDoorHkT
import Derived.Test.YtdfoponekgifkaaDoorHkE
import Derived.Test.YtdfoponekgifkaaDoorHfL
import Derived.Test.YtdfoponekgifkaaDoorHfC
import Derived.Test.YtdfoponekgifkaaDoorHfI
import Derived.Test.YtdfoponekgifkaaDoorHfS
import Derived.Test.YtdfoponekgifkaaDoorHnL
import Derived.Test.YtdfoponekgifkaaDoorHnT
import Derived.Test.YtdfoponekgifkaaDoorOpH
import Derived.Test.YtdfoponekgifkaaDoorOpN
import Derived.Test.YtdfoponekgifkaaDoorFiC
import Derived.Test.YtdfoponekgifkaaDoorFpM
import Derived.Test.YtdfoponekgifkaaDoorFpI
import Derived.Test.YtdfoponekgifkaaDoorFpT
import Derived.Test.YtdfoponekgifkaaDoorTie
import Derived.Test.YtdfoponekgifkaaDoorCards
import Derived.Below
import Derived.Carry
import Derived.ChangeVars
import Derived.JoinedOf
import Derived.LaidMore
import Derived.Lay
import Derived.Lib.LaidTab
import Derived.OpenShut
import Derived.OpenVars
import Derived.ProofKit
import Derived.SevenTiedAt
import Derived.Stop.Joined
import Derived.WalkKit
set_option linter.unusedVariables false
namespace Go.Proofs.YtdfoponekgifkaaDoor.FpLaw
open Go.ChangeShapes Go.WideShapes Go.ChangeAt Go.RowKit

theorem gTa : Tryd.prog.globalNamed "internal/strconv.uint64pow10" = some 1 := by kernel_rfl
theorem tTa : (Tryd.prog.globals[1]?).map (·.type) = some 126 := by kernel_rfl
theorem tab_of {P : Program} {W : World} {name : String} {k : IntKind} {zs : List Int} {t e : TypeId} {n : Nat} {cs : Array Value} {fuel : Nat} {p : List MemPlace}
    (ht : P.underlying t = some (.array n e)) (he : P.underlying e = some (.int k)) (hce : P.cellsOf e = 1) (hct : P.cellsOf t = n)
    (hv : W.var? P name = some cs) (hd : DataW.trod (fun _ => ()) P W 0 (fun _ => true) false fuel t cs.toList = some (Lib.tabData k zs, p)) : Lib.TabIs P W name k zs := by
  unfold Lib.TabIs
  rw [hv, ← Lib.cells_of_tab ht he hce hct hd]
theorem of_laid {W : World} (h0 : laidMetH Tryd.prog Rows.fnExactFormatPatchRow.laid W) : TaG W := by
  rw [MakeChecks.laidMetH_plain _ _ _ (by kernel_rfl)] at h0
  have h : laidMet Tryd.prog [("math/bits.deBruijn32tab", Rows.laid_math_bits_deBruijn32tab), ("math/bits.deBruijn64tab", Rows.laid_math_bits_deBruijn64tab), ("internal/strconv.uint64pow10", Lib.tabData .u64 Lib.pow10Tab)] W := h0
  obtain ⟨ps, ⟨_, _, _, _, _, _, _, _, _, _, ⟨_, _, _, _, _, _, _, _, _, _, ⟨g1, t1, cs1, f1, p1, q1, hg1, ht1, hv1, hd1, _, _⟩, _⟩, _⟩, _, _⟩ := h
  obtain rfl := Option.some.inj (gTa.symm.trans hg1)
  obtain rfl := Option.some.inj (tTa.symm.trans ht1)
  exact tab_of Tryd.underlying126 Tryd.underlying108 (by kernel_rfl) (by kernel_rfl) hv1 hd1
theorem cellLtTa {W : World} (h : TaG W) : 1 < W.heap.size :=
  cellLt (h.cell gTa 0 (by decide))
theorem beq_self (s : ByteArray) : (s.toList == s.toList) = true := beq_bytes_true rfl
set_option maxHeartbeats 400000 in
theorem eqTextResult (c : Int) (s : ByteArray) (w : World) :
    Calls Tryd.prog 9 #[.agg #[.int .i64 c, .string s], .agg #[.int .i64 c, .string s]] w fun e w' => e = .returned (.bool true) ∧ Below w.heap.size w w' := by
  have hb := beq_self s
  go_enter Tryd.func9, Tryd.ntmps9
  go_wp2
  go_ret
  exact ⟨rfl, ((Below.refl _ _).alloc (Nat.le_refl _) _).alloc (by simp) _⟩
set_option maxRecDepth 20000 in
set_option maxHeartbeats 4000000 in
theorem walk (a : Option Addr) (c : Nat) (l : List Hk) (w : World) (h : HB w.heap.size w a l) (hl : Long l) (hf : Fits l) (hn : l.length ≤ 9223372036854775807) (hTa : TaG w) (hgB : 1 < w.heap.size) :
    Calls Tryd.prog 3 #[.slice a l.length c] w fun e w' => e = .returned (.bool true) ∧ Below w.heap.size w w' := by
  have hZ := szHunkS a c l 1048576 w h hl hn (by omega) (by omega)
  by_cases hx : leftH 1048576 l < 0
  · go_enter Tryd.func3, Tryd.ntmps3
    go_wp2_with fail
    refine hZ.mono ?_; rintro e w1 ⟨rfl, b1⟩
    clear hZ
    go_wp2_with fail
    go_ret
    exact ⟨rfl, b1⟩
  obtain ⟨n1, n2, n3⟩ := leftH_nums hx
  have hs : Shortly l := fun x hx => by have := (n3 x hx).1; omega
  have ht : Fp.TotH l := fun x hx => by have := (n3 x hx).2; omega
  have hls : l.length ≤ 1048576 := by omega
  clear n1 n2 n3
  have hS := fun (a : Option Addr) (c : Nat) W h => Fp.specFormatPatch a c l W h hls hs ht
  have hI := fun (a : Option Addr) (c : Nat) W h (hb : Below w.heap.size w W) => Fp.implFormatPatch a c l W h hls hs ht (hTa.below hb hgB) (Nat.lt_of_lt_of_le hgB hb.size)
  have hT := fun W h => toHunkS a c l W h hs hls
  obtain ⟨v, hv⟩ : ∃ v, Fp.fpC l = v := ⟨_, rfl⟩
  obtain ⟨T, hvT⟩ : ∃ T, Fp.fpT l = T := ⟨_, rfl⟩
  rw [hv, hvT] at hS hI
  have hQ := fun W => eqTextResult v T W
  clear hv hvT
  go_enter Tryd.func3, Tryd.ntmps3
  go_wp2_with fail
  refine hZ.mono ?_; rintro e w1 ⟨rfl, b1⟩
  have A1 := h.below b1
  have S1 := b1.size
  have BB1 := b1
  clear hZ b1 h
  go_wp2_with fail
  refine (hT _ (A1.mono S1)).mono ?_; rintro e w2 ⟨rfl, ⟨sl2, o2⟩, b2⟩
  have A2 := A1.below b2
  have S2 := b2.size
  have BB2 := below_step BB1 S1 b2
  have r2 := o2.read hf
  clear o2 b2 A1 BB1
  go_wp2_with fail
  refine (hS _ _ _ r2).mono ?_; rintro e w3 ⟨rfl, b3⟩
  obtain ⟨W3, hW3⟩ : ∃ W, w3.alloc (.cells #[.int .i64 v, .string T] 25) = W := ⟨_, rfl⟩
  have z3 : w3.heap.size < W3.heap.size := by rw [← hW3]; simp
  have q3 : Below w3.heap.size w3 W3 := by rw [← hW3]; exact allocBelow _ _
  have R3 : Rf W3 w3.heap.size [.int .i64 v, .string T] := by rw [← hW3]; exact Rf.new _ _ _
  have b3' : Below w2.heap.size w2 W3 := b3.trans (q3.mono b3.size)
  have A3 := A2.below b3'
  have S3 := b3'.size
  have BB3 := below_step BB2 (by omega) b3'
  clear b3 b3' q3 A2 BB2 r2 hS
  go_wp2_with fail
  refine (hT _ (A3.mono (by omega))).mono ?_; rintro e w4 ⟨rfl, ⟨sl4, o4⟩, b4⟩
  have R4 := R3.below z3 b4
  have A4 := A3.below b4
  have S4 := b4.size
  have BB4 := below_step BB3 (by omega) b4
  have r4 := o4.read hf
  clear b4 A3 BB3 R3 hW3
  go_wp2_with fail
  refine (hI _ _ _ r4 BB4).mono ?_; rintro e w5 ⟨rfl, b5⟩
  obtain ⟨W5, hW5⟩ : ∃ W, w5.alloc (.cells #[.int .i64 v, .string T] 25) = W := ⟨_, rfl⟩
  have z5 : w5.heap.size < W5.heap.size := by rw [← hW5]; simp
  have q5 : Below w5.heap.size w5 W5 := by rw [← hW5]; exact allocBelow _ _
  have G5 : Rf W5 w5.heap.size [.int .i64 v, .string T] := by rw [← hW5]; exact Rf.new _ _ _
  have b5' : Below w4.heap.size w4 W5 := b5.trans (q5.mono b5.size)
  have R5 := R4.below (by omega) b5'
  have A5 := A4.below b5'
  have S5 := b5'.size
  have BB5 := below_step BB4 (by omega) b5'
  have o5 := o4.below b5'
  have d0 := R5.at_ 0 _ rfl
  have d1 := R5.at_ 1 _ rfl
  have g0 := G5.at_ 0 _ rfl
  have g1 := G5.at_ 1 _ rfl
  clear b5 b5' q5 A4 BB4 o4 r4 R4 R5 G5 hI
  go_wp2_with fail
  refine (hQ _).mono ?_; rintro e w5' ⟨rfl, b6'⟩
  have S5' := b6'.size
  have A5' := A5.below b6'
  have BB5' := below_step BB5 (by omega) b6'
  have o5' := o5.below b6'
  clear b6' d0 d1 g0 g1 hW5 hQ A5 BB5 o5
  go_wp2_with fail
  refine (hT _ (A5'.mono (by omega))).mono ?_; rintro e w6 ⟨rfl, ⟨sl6, o6⟩, b6⟩
  have S6 := b6.size
  have BB6 := below_step BB5' (by omega) b6
  have o7 := o5'.below b6
  have r6 := o6.read hf
  have r7 := o7.read hf
  clear b6 A5' BB5' o5' o6 o7
  go_wp2_with fail
  refine (eqHunkS _ _ _ _ l _ r7 r6 hs hls).mono ?_; rintro e w8 ⟨rfl, b8⟩
  have BB8 := below_step BB6 (by omega) b8
  clear b8 r6 r7 BB6
  go_wp2_with fail
  go_ret
  exact ⟨rfl, BB8⟩

set_option linter.unusedVariables false
theorem laidOut : laidOutB Tryd.prog = true := by kernel_rfl
theorem own : ownKnob Tryd.prog.godebug = none := by kernel_rfl
set_option maxRecDepth 100000 in
theorem lifted (os : Os) (started : os.Started) (H : Type) (enc : TypeId × Value → H) :
    ReturnsInHanded {} Tryd.checked os 3 .any (fun w args => (Rows.fnExactFormatPatchSpec.pre enc Tryd.prog Tryd.f3 [] false w args ∧ laidMetH Tryd.prog Rows.fnExactFormatPatchRow.laid w) ∧ sizedMet enc Tryd.prog Tryd.f3 (OpenSpec.ofChange Rows.fnExactFormatPatchSpec) false w args)
      (Rows.fnExactFormatPatchSpec.post enc Tryd.prog Tryd.f3 false true false false) := by
  refine returnsInHanded_of_change_and (C := Tryd.checked) (X := fun w _ => laidMetH Tryd.prog Rows.fnExactFormatPatchRow.laid w) (fun _ _ _ hh h => h.of_heap hh) own started (by kernel_rfl) Tryd.func3
    (ChangeSpec.witness_shaped (enc := enc) (C := Tryd.checked) (os := os) (X := fun w _ => laidMetH Tryd.prog Rows.fnExactFormatPatchRow.laid w) false (World.laidAll Tryd.prog os Rows.fnExactFormatPatchRow.laid) #[.slice none 0 0] 8 (World.laidAll_os _ _ _) (World.shaped_of_ZipB (by kernel_rfl) (by kernel_rfl)) (by kernel_rfl) (by kernel_rfl) (by kernel_rfl) (by rw [MakeChecks.laidMetH_plain _ _ _ (by kernel_rfl)]; exact laidMet_laidAll _ (by kernel_rfl) (by kernel_rfl))) ?_
  intro W base args ds gs before hval0 hW _ _ hL _
  have hval : ∀ (j : Nat) t v, Tryd.f3.params[j]? = some t → args[j]? = some v → Value.okWide Tryd.prog W .any base t v := hval0
  have hW' := hW
  obtain ⟨p, q, hA0, hV, rfl, hfz, hnd⟩ := hW
  have hA : DataW.TrodAll enc Tryd.prog W 0 (fun _ => true) true Tryd.f3.params.toList args.toList ds p := hA0
  rw [Tryd.params3] at hA hval
  obtain ⟨v0, vs0, d0, ds0, p0, q0, hargs, rfl, rfl, h0, r0⟩ := trodAll_cons hA
  obtain ⟨rfl, rfl, rfl⟩ := trodAll_nil r0
  obtain rfl : args = #[v0] := by cases args; simp_all
  obtain ⟨rfl, rfl⟩ := trodVars_none hV
  obtain ⟨a0, len0, cap0, rfl⟩ := okWide_slice Tryd.underlying22 (hval 0 22 v0 rfl rfl)
  have k0 := h0
  have lt0 : ∀ x ∈ p0, x.block < W.heap.size := by obtain ⟨m, hm⟩ := k0; exact DataW.trod_lt m _ _ _ hm
  obtain ⟨ss0, rfl, w0, lg0, ft0, n0⟩ := openHB h0
  obtain hTa := of_laid hL
  clear hA0 hval0
  refine (walk a0 cap0 ss0 W w0 lg0 ft0 n0 hTa (cellLtTa hTa)).mono fun e W' ⟨he, bel⟩ => ?_
  subst he
  exact ⟨_, rfl, _, _, _, [], _, [], hW', trodAll_mk1 (shut_bool Tryd.underlying4 _), (trodAll_cons_mk (Below.trod laidOut (by kernel_rfl) (of_decide_eq_true (by kernel_rfl)) k0 bel lt0) trodAll_mk0), rfl, bel.frame _, fun h => by cases h⟩

theorem over : Rows.fnExactFormatPatchRow.holds Tryd.pinned (OpenSpec.ofChange Rows.fnExactFormatPatchSpec) :=
  OpenClaim.holds_of_wide 3 Tryd.f3 rfl rfl rfl rfl rfl rfl rfl ⟨rfl, rfl, rfl, rfl, rfl⟩ rfl rfl rfl rfl rfl (by kernel_rfl) Tryd.func3 (by kernel_rfl)
    (of_decide_eq_true (by kernel_rfl)) (by unfold Func.isWrapper; first | (rw [if_pos (by decide +kernel)]; kernel_rfl) | (rw [if_neg (by decide +kernel)]; exact ⟨rfl, rfl⟩))
    (fun os started H enc _ => lifted os started H enc)

theorem proved : Rows.FnExactFormatPatchCardSaid :=
  Claim7.holds_tied_plain_at .later [] [.data, .data, .data] true _ true
    over (fun _ h => by cases h) (by kernel_rfl) (fun _ h => by cases h) fnExactFormatPatch_row_tie rfl ⟨rfl, rfl⟩ (by kernel_rfl) rfl
    (fun f fn hf hfn => by
      obtain rfl : f = 3 := Option.some.inj ((show Tryd.prog.funcNamed "loop.example/g00172/laws.FnExactFormatPatch" = some 3 by kernel_rfl).symm.trans hf) |>.symm
      obtain rfl : fn = Tryd.f3 := (Option.some.inj (Tryd.func3.symm.trans hfn)).symm
      exact ⟨by kernel_rfl, fun j t ht => by
        rw [Tryd.params3] at ht
        have hm : t ∈ [22] := by simpa using Array.mem_of_getElem? ht
        have hall : ([22].all fun u => !Tryd.prog.wantsStandIn u) = true := by kernel_rfl
        exact (show Tryd.prog.wantsStandIn t = false by simpa using List.all_eq_true.1 hall t hm)⟩)
    (by kernel_rfl)
end Go.Proofs.YtdfoponekgifkaaDoor.FpLaw
namespace Go.Proofs.YtdfoponekgifkaaDoor
theorem fnExactFormatPatch_proved : Rows.FnExactFormatPatchCardSaid := FpLaw.proved
end Go.Proofs.YtdfoponekgifkaaDoor
