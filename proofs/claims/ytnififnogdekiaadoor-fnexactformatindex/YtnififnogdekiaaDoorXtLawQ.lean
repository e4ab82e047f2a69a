/- Proved: at every list of entries FnExactFormatIndex returns true (FormatIndex answers as its specification and changes no argument); the card itself. -/
import Derived.Test.YtnififnogdekiaaDoorRows
import Derived.Test.YtnififnogdekiaaDoorLemQ
import Derived.Test.YtnififnogdekiaaDoorDTabQ
import Derived.Test.YtnififnogdekiaaDoorInQ
import Derived.Test.YtnififnogdekiaaDoorHkTQ
import Derived.Test.YtnififnogdekiaaDoorTrCQ
import Derived.Test.YtnififnogdekiaaDoorTrWQ
import Derived.Test.YtnififnogdekiaaDoorFiCQ
import Derived.Test.YtnififnogdekiaaDoorEnLQ
import Derived.Test.YtnififnogdekiaaDoorEnTQ
import Derived.Test.YtnififnogdekiaaDoorOpEQ
import Derived.Test.YtnififnogdekiaaDoorIxMQ
import Derived.Test.YtnififnogdekiaaDoorXtMQ
import Derived.Test.YtnififnogdekiaaDoorXtFQ
import Derived.Test.YtnififnogdekiaaDoorXtGQ
import Derived.Test.YtnififnogdekiaaDoorXtLQ
import Derived.Test.YtnififnogdekiaaDoorTie
import Derived.Test.YtnififnogdekiaaDoorCards
import Derived.Lay
import Derived.WalkKit
import Derived.ProofKit
import Derived.OpenShut
import Derived.Below
import Derived.Carry
import Derived.ChangeVars
import Derived.OpenVars
import Derived.LaidMore
import Derived.SevenTiedAt
import Derived.Stop.Joined
import Derived.JoinedOf
namespace Go.Proofs.YtnififnogdekiaaDoor.XtLaw
open Go.Proofs.YtnififnogdekiaaDoor.En
open Go.ChangeShapes Go.WideShapes Go.ChangeAt Go.RowKit

theorem beq_self (s : ByteArray) : (s.toList == s.toList) = true := beq_bytes_true rfl
set_option maxHeartbeats 400000 in
theorem eqTextResult (c : Int) (s : ByteArray) (w : World) :
    Calls Tryd.prog 35 #[.agg #[.int .i64 c, .string s], .agg #[.int .i64 c, .string s]] w fun e w' => e = .returned (.bool true) ∧ Below w.heap.size w w' := by
  have hb := beq_self s
  go_enter Tryd.func35, Tryd.ntmps35
  go_wp2
  go_ret
  exact ⟨rfl, ((Below.refl _ _).alloc (Nat.le_refl _) _).alloc (by simp) _⟩
set_option maxRecDepth 20000 in
set_option maxHeartbeats 4000000 in
theorem walk (a : Option Addr) (c : Nat) (l : List Ob) (w : World) (h : OB w.heap.size w a l) (hf : FitsO l) (hn : l.length ≤ 9223372036854775807) (hg : Te.MwG w) (hgB : 0 < w.heap.size) (hTa : TaG w) (hTB : 2 < w.heap.size) :
    Calls Tryd.prog 7 #[.slice a l.length c] w fun e w' => e = .returned (.bool true) ∧ Below w.heap.size w w' := by
  have hZ := szEntryS a c l 1048576 w h hf hn (by omega) (by omega)
  by_cases hx : leftO 1048576 l < 0
  · go_enter Tryd.func7, Tryd.ntmps7
    go_wp2_with fail
    refine hZ.mono ?_; rintro e w1 ⟨rfl, b1⟩
    clear hZ
    go_wp2_with fail
    go_ret
    exact ⟨rfl, b1⟩
  obtain ⟨hs, hls⟩ := leftO_nums hx (by omega)
  have hS := fun (a : Option Addr) (c : Nat) W h => specFormatIndex a c l W h hs hls
  have hI := fun (a : Option Addr) (c : Nat) W h (hb : Below w.heap.size w W) => implFormatIndex a c l W h hs hls (hg.below hb hgB) (Nat.lt_of_lt_of_le hgB hb.size) (hTa.below hb hTB) (Nat.lt_of_lt_of_le hTB hb.size)
  have hT := fun W h => toEntryS a c l W h hls
  obtain ⟨v, hv⟩ : ∃ v, ixf l = v := ⟨_, rfl⟩
  obtain ⟨T, hvT⟩ : ∃ T, xT l = T := ⟨_, rfl⟩
  rw [hv, hvT] at hS hI
  have hQ := fun W => eqTextResult v T W
  clear hv hvT
  go_enter Tryd.func7, Tryd.ntmps7
  go_wp2_with fail
  refine hZ.mono ?_; rintro e w1 ⟨rfl, b1⟩
  have A1 := h.below b1
  have S1 := b1.size
  have BB1 := b1
  clear hZ b1 h
  go_wp2_with fail
  refine (hT _ (A1.mono S1)).mono ?_; rintro e w2 ⟨rfl, o2, b2⟩
  have A2 := A1.below b2
  have S2 := b2.size
  have BB2 := below_step BB1 S1 b2
  have r2 := OB.of o2
  clear o2 b2 A1 BB1
  go_wp2_with fail
  refine (hS _ _ _ r2).mono ?_; rintro e w3 ⟨rfl, b3⟩
  obtain ⟨W3, hW3⟩ : ∃ W, w3.alloc (.cells #[.int .i64 v, .string T] 56) = W := ⟨_, rfl⟩
  have z3 : w3.heap.size < W3.heap.size := by rw [← hW3]; simp
  have q3 : Below w3.heap.size w3 W3 := by rw [← hW3]; exact allocBelow _ _
  have R3 : Rf W3 w3.heap.size [.int .i64 v, .string T] := by rw [← hW3]; exact Rf.new _ _ _
  have b3' : Below w2.heap.size w2 W3 := b3.trans (q3.mono b3.size)
  have A3 := A2.below b3'
  have S3 := b3'.size
  have BB3 := below_step BB2 (by omega) b3'
  clear b3 b3' q3 A2 BB2 r2 hS
  go_wp2_with fail
  refine (hT _ (A3.mono (by omega))).mono ?_; rintro e w4 ⟨rfl, o4, b4⟩
  have R4 := R3.below z3 b4
  have A4 := A3.below b4
  have S4 := b4.size
  have BB4 := below_step BB3 (by omega) b4
  have r4 := OB.of o4
  clear b4 A3 BB3 R3 hW3
  go_wp2_with fail
  refine (hI _ _ _ r4 BB4).mono ?_; rintro e w5 ⟨rfl, b5⟩
  obtain ⟨W5, hW5⟩ : ∃ W, w5.alloc (.cells #[.int .i64 v, .string T] 56) = W := ⟨_, rfl⟩
  have z5 : w5.heap.size < W5.heap.size := by rw [← hW5]; simp
  have q5 : Below w5.heap.size w5 W5 := by rw [← hW5]; exact allocBelow _ _
  have G5 : Rf W5 w5.heap.size [.int .i64 v, .string T] := by rw [← hW5]; exact Rf.new _ _ _
  have b5' : Below w4.heap.size w4 W5 := b5.trans (q5.mono b5.size)
  have R5 := R4.below (by omega) b5'
  have A5 := A4.below b5'
  have S5 := b5'.size
  have BB5 := below_step BB4 (by omega) b5'
  have o5 := o4.kept (grownOfBelow b5' none) (.inr (by simp [Value.ownBlock]))
  have d0 := R5.at_ 0 _ rfl
  have d1 := R5.at_ 1 _ rfl
  have g0 := G5.at_ 0 _ rfl
  have g1 := G5.at_ 1 _ rfl
  clear b5 b5' q5 A4 BB4 o4 r4 R4 R5 G5 hI
  go_wp2_with fail
  refine (hQ _).mono ?_; rintro e w5' ⟨rfl, b6'⟩
  have S5' := b6'.size
  have A5 := A5.below b6'
  have BB5 := below_step BB5 (by omega) b6'
  have o5 := o5.kept (grownOfBelow b6' none) (.inr (by simp [Value.ownBlock]))
  clear b6' d0 d1 g0 g1 hW5 hQ
  go_wp2_with fail
  refine (hT _ (A5.mono (by omega))).mono ?_; rintro e w6 ⟨rfl, o6, b6⟩
  have S6 := b6.size
  have BB6 := below_step BB5 (by omega) b6
  have o7 := o5.kept (grownOfBelow b6 none) (.inr (by simp [Value.ownBlock]))
  have r6 := OB.of o6
  have r7 := OB.of o7
  clear b6 A5 BB5 o5 o6 o7
  go_wp2_with fail
  refine (eqEntryS _ _ _ _ l _ r7 r6 hls).mono ?_; rintro e w8 ⟨rfl, b8⟩
  have BB8 := below_step BB6 (by omega) b8
  clear b8 r6 r7 BB6
  go_wp2_with fail
  go_ret
  exact ⟨rfl, BB8⟩

set_option linter.unusedVariables false
theorem laidOut : laidOutB Tryd.prog = true := by kernel_rfl
theorem own : ownKnob Tryd.prog.godebug = none := by kernel_rfl
set_option maxRecDepth 100000 in
theorem lifted (os : Os) (started : os.Started) (H : Type) (enc : TypeId × Value → H) :
    ReturnsInHanded {} Tryd.checked os 7 .any (fun w args => (Rows.fnExactFormatIndexSpec.pre enc Tryd.prog Tryd.f7 [] false w args ∧ laidMetH Tryd.prog Rows.fnExactFormatIndexRow.laid w) ∧ sizedMet enc Tryd.prog Tryd.f7 (OpenSpec.ofChange Rows.fnExactFormatIndexSpec) false w args)
      (Rows.fnExactFormatIndexSpec.post enc Tryd.prog Tryd.f7 false true false false) := by
  refine returnsInHanded_of_change_and (C := Tryd.checked) (X := fun w _ => laidMetH Tryd.prog Rows.fnExactFormatIndexRow.laid w) (fun _ _ _ hh h => h.of_heap hh) own started (by kernel_rfl) Tryd.func7
    (ChangeSpec.witness_shaped (enc := enc) (C := Tryd.checked) (os := os) (X := fun w _ => laidMetH Tryd.prog Rows.fnExactFormatIndexRow.laid w) false (World.laidAll Tryd.prog os Rows.fnExactFormatIndexRow.laid) #[.slice none 0 0] 8 (World.laidAll_os _ _ _) (World.shaped_of_ZipB (by kernel_rfl) (by kernel_rfl)) (by kernel_rfl) (by kernel_rfl) (by kernel_rfl) (by rw [MakeChecks.laidMetH_plain _ _ _ (by kernel_rfl)]; exact laidMet_laidAll _ (by kernel_rfl) (by kernel_rfl))) ?_
  intro W base args ds gs before hval0 hW _ _ hL _
  have hval : ∀ (j : Nat) t v, Tryd.f7.params[j]? = some t → args[j]? = some v → Value.okWide Tryd.prog W .any base t v := hval0
  have hW' := hW
  obtain ⟨p, q, hA0, hV0, rfl, hfz, hnd⟩ := hW
  have hA : DataW.TrodAll enc Tryd.prog W 0 (fun _ => true) true Tryd.f7.params.toList args.toList ds p := hA0
  have hV : DataW.TrodVars enc Tryd.prog W (fun _ => true) ["loop.example/g00172/impl.modeWords"] gs q := hV0
  rw [Tryd.params7] at hA hval
  obtain ⟨v0, vs0, d0, ds0, p0, q0, hargs, rfl, rfl, h0, r0⟩ := trodAll_cons hA
  obtain ⟨rfl, rfl, rfl⟩ := trodAll_nil r0
  obtain rfl : args = #[v0] := by cases args; simp_all
  obtain ⟨g1, hg1⟩ : ∃ g1, gs = [g1] := by
    obtain ⟨_, _, _, _, d, _, e, _⟩ := trodVars_one hV
    exact ⟨d, e⟩
  subst hg1
  obtain ⟨a0, len0, cap0, rfl⟩ := okWide_slice Tryd.underlying48 (hval 0 48 v0 rfl rfl)
  have k0 := h0
  have lt0 : ∀ x ∈ p0, x.block < W.heap.size := by obtain ⟨m, hm⟩ := k0; exact DataW.trod_lt m _ _ _ hm
  obtain ⟨ss0, rfl, w0, ft0, n0⟩ := openOB h0
  obtain ⟨hTa, hMw⟩ := Xt.of_laid hL
  clear hA0 hval0
  refine (walk a0 cap0 ss0 W w0 ft0 n0 hMw (cellLt hMw.1) hTa (Xt.cellLtTa hTa)).mono fun e W' ⟨he, bel⟩ => ?_
  subst he
  exact ⟨_, rfl, _, _, _, [], _, _, hW', trodAll_mk1 (shut_bool Tryd.underlying4 _), (trodAll_cons_mk (Below.trod laidOut (by kernel_rfl) (of_decide_eq_true (by kernel_rfl)) k0 bel lt0) trodAll_mk0), Below.trodVars laidOut bel (by kernel_rfl) hV, bel.frame _, fun h => by cases h⟩

theorem over : Rows.fnExactFormatIndexRow.holds Tryd.pinned (OpenSpec.ofChange Rows.fnExactFormatIndexSpec) :=
  OpenClaim.holds_of_wide 7 Tryd.f7 rfl rfl rfl rfl rfl rfl rfl ⟨rfl, rfl, rfl, rfl, rfl⟩ rfl rfl rfl rfl rfl (by kernel_rfl) Tryd.func7 (by kernel_rfl)
    (of_decide_eq_true (by kernel_rfl)) (by unfold Func.isWrapper; first | (rw [if_pos (by decide +kernel)]; kernel_rfl) | (rw [if_neg (by decide +kernel)]; exact ⟨rfl, rfl⟩))
    (fun os started H enc _ => lifted os started H enc)

theorem proved : Rows.FnExactFormatIndexCardSaid :=
  Claim7.holds_tied_plain_at .later [] [.data, .data, .data, .data, .data, .pinned] true _ false
    over (fun _ h => by cases h) (by kernel_rfl) (fun _ h => by cases h) fnExactFormatIndex_row_tie rfl ⟨rfl, rfl⟩ (by kernel_rfl) rfl
    (fun f fn hf hfn => by
      obtain rfl : f = 7 := Option.some.inj ((show Tryd.prog.funcNamed "loop.example/g00172/laws.FnExactFormatIndex" = some 7 by kernel_rfl).symm.trans hf) |>.symm
      obtain rfl : fn = Tryd.f7 := (Option.some.inj (Tryd.func7.symm.trans hfn)).symm
      exact ⟨by kernel_rfl, fun j t ht => by
        rw [Tryd.params7] at ht
        have hm : t ∈ [48] := by simpa using Array.mem_of_getElem? ht
        have hall : ([48].all fun u => !Tryd.prog.wantsStandIn u) = true := by kernel_rfl
        exact (show Tryd.prog.wantsStandIn t = false by simpa using List.all_eq_true.1 hall t hm)⟩)
    (by kernel_rfl)
end Go.Proofs.YtnififnogdekiaaDoor.XtLaw
namespace Go.Proofs.YtnififnogdekiaaDoor
theorem fnExactFormatIndex_proved : Rows.FnExactFormatIndexCardSaid := XtLaw.proved
end Go.Proofs.YtnififnogdekiaaDoor
