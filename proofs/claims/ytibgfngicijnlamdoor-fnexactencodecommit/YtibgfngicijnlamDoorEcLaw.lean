/- Proved: at every commit FnExactEncodeCommit returns true (EncodeCommit answers as its specification, field by field, and changes no argument); the card itself. -/
import Derived.Test.YtibgfngicijnlamDoorRows
import Derived.Test.YtibgfngicijnlamDoorLem
import Derived.Test.YtibgfngicijnlamDoorStrs
import Derived.Test.YtibgfngicijnlamDoorDTab
import Derived.Test.YtibgfngicijnlamDoorOwn
import Derived.Test.YtibgfngicijnlamDoorFr
import Derived.Test.YtibgfngicijnlamDoorIn
import Derived.Test.YtibgfngicijnlamDoorHkT
import Derived.Test.YtibgfngicijnlamDoorCdC
import Derived.Test.YtibgfngicijnlamDoorHdC
import Derived.Test.YtibgfngicijnlamDoorCfS
import Derived.Test.YtibgfngicijnlamDoorFiC
import Derived.Test.YtibgfngicijnlamDoorCmE
import Derived.Test.YtibgfngicijnlamDoorCmJ
import Derived.Test.YtibgfngicijnlamDoorCmK
import Derived.Test.YtibgfngicijnlamDoorCmO
import Derived.Test.YtibgfngicijnlamDoorCmS
import Derived.WalkKit
import Derived.ProofKit
import Derived.OpenShut
import Derived.Below
import Derived.Carry
import Derived.Test.YtibgfngicijnlamDoorTie
import Derived.Test.YtibgfngicijnlamDoorCards
import Derived.ChangeVars
import Derived.OpenVars
import Derived.LaidMore
import Derived.SevenTiedAt
import Derived.Stop.Joined
import Derived.JoinedOf
import Derived.Test.YtibgfngicijnlamDoorTrG
import Derived.Test.YtibgfngicijnlamDoorCmG
import Derived.Test.YtibgfngicijnlamDoorOpM
namespace Go.Proofs.YtibgfngicijnlamDoor.EcLaw
open Go.Proofs.YtibgfngicijnlamDoor.Cm
open Go.ChangeShapes Go.WideShapes Go.ChangeAt Go.RowKit

theorem beq_self (s : ByteArray) : (s.toList == s.toList) = true := beq_bytes_true rfl
set_option maxHeartbeats 400000 in
theorem eqTextResult (c : Int) (s : ByteArray) (w : World) :
    Calls Tryd.prog 10 #[.agg #[.int .i64 c, .string s], .agg #[.int .i64 c, .string s]] w fun e w' => e = .returned (.bool true) ∧ Below w.heap.size w w' := by
  have hb := beq_self s
  go_enter Tryd.func10, Tryd.ntmps10
  go_wp2
  go_ret
  exact ⟨rfl, ((Below.refl _ _).alloc (Nat.le_refl _) _).alloc (by simp) _⟩
set_option maxRecDepth 20000 in
set_option maxHeartbeats 4000000 in
theorem walk (t no : ByteArray) (tm : Int) (a : Option Addr) (c : Nat) (ps : List ByteArray) (w : World) (h : SS w a ps) (hn : ps.length ≤ 9223372036854775807) (ht : t.size ≤ 9223372036854775807) (hno : no.size ≤ 9223372036854775807) (hTa : TaG w) (hgB : 5 < w.heap.size) (hE : ErrG w) :
    Calls Tryd.prog 3 #[.agg #[.string t, .slice a ps.length c, .int .i64 tm, .string no]] w fun e w' => e = .returned (.bool true) ∧ Below w.heap.size w w' := by
  obtain ⟨W0, hW0⟩ : ∃ W, w.alloc (.cells #[.string t, .slice a ps.length c, .int .i64 tm, .string no] 24) = W := ⟨_, rfl⟩
  have BB0 : Below w.heap.size w W0 := by rw [← hW0]; exact allocBelow _ _
  have z0 : w.heap.size < W0.heap.size := by rw [← hW0]; simp
  have R0 : Rf W0 w.heap.size [.string t, .slice a ps.length c, .int .i64 tm, .string no] := by rw [← hW0]; exact Rf.new _ _ _
  have A0 := h.below BB0
  have c0 := R0.at_ 0 _ rfl
  have c1 := R0.at_ 1 _ rfl
  have c2 := R0.at_ 2 _ rfl
  have c3 := R0.at_ 3 _ rfl
  have hZ := szCommit t no tm a c ps 1048576 W0 A0 hn (by omega) (by omega) ht hno
  by_cases hx : leftC 1048576 t ps no < 0
  · go_enter Tryd.func3, Tryd.ntmps3
    go_wp2_with fail
    refine hZ.mono ?_; rintro e w1 ⟨rfl, b1⟩
    clear hZ
    go_wp2_with fail
    go_ret
    exact ⟨rfl, below_step BB0 (by omega) b1⟩
  have hls := leftC_nums hx (by omega)
  have hS := fun (a : Option Addr) (c : Nat) W h => specEncodeCommit t a c ps tm no W h hls
  have hI := fun (a : Option Addr) W h (hb : Below w.heap.size w W) => implEncodeCommit t a ps.length ps tm no W h (Nat.le_refl _) hls (hTa.below hb hgB) (Nat.lt_of_lt_of_le hgB hb.size) (hE.below hb)
  have hT := fun W h => toCommit t no tm a c ps W h hls
  obtain ⟨v, hv⟩ : ∃ v, cmF t ps tm no = v := ⟨_, rfl⟩
  obtain ⟨T, hvT⟩ : ∃ T, ecT t ps tm no = T := ⟨_, rfl⟩
  simp only [hv, hvT] at hS hI
  have hQt := fun W => eqTextResult v T W
  clear hv hvT
  go_enter Tryd.func3, Tryd.ntmps3
  go_wp2_with fail
  refine hZ.mono ?_; rintro e w1 ⟨rfl, b1⟩
  have R1 := R0.below z0 b1
  have S1 := b1.size
  have A1 := A0.below b1
  have BB1 := below_step BB0 (by omega) b1
  have d0 := R1.at_ 0 _ rfl
  have d1 := R1.at_ 1 _ rfl
  have d2 := R1.at_ 2 _ rfl
  have d3 := R1.at_ 3 _ rfl
  clear hZ b1 c0 c1 c2 c3 hW0 R0
  go_wp2_with fail
  refine (hT _ A1).mono ?_; rintro e w2 ⟨g2, hg2, rfl, o2, b2⟩
  have R2 := R1.below (by omega) b2
  have S2 := b2.size
  have A2 := A1.below b2
  have BB2 := below_step BB1 (by omega) b2
  have r2 := SS_of_owns o2 (size_of_owns o2) h.1
  clear b2 o2 d0 d1 d2 d3 R1
  go_wp2_with fail
  refine (hS _ _ _ r2).mono ?_; rintro e w3 ⟨rfl, b3⟩
  obtain ⟨W3, hW3⟩ : ∃ W, w3.alloc (.cells #[.int .i64 v, .string T] 27) = W := ⟨_, rfl⟩
  have z3 : w3.heap.size < W3.heap.size := by rw [← hW3]; simp
  have q3 : Below w3.heap.size w3 W3 := by rw [← hW3]; exact allocBelow _ _
  have G3 : Rf W3 w3.heap.size [.int .i64 v, .string T] := by rw [← hW3]; exact Rf.new _ _ _
  have b3' : Below w2.heap.size w2 W3 := b3.trans (q3.mono b3.size)
  have R3 := R2.below (by omega) b3'
  have S3 := b3'.size
  have A3 := A2.below b3'
  have BB3 := below_step BB2 (by omega) b3'
  have d0 := R3.at_ 0 _ rfl
  have d1 := R3.at_ 1 _ rfl
  have d2 := R3.at_ 2 _ rfl
  have d3 := R3.at_ 3 _ rfl
  clear b3 b3' q3 r2 hS R2 A2 BB2
  go_wp2_with fail
  refine (hT _ A3).mono ?_; rintro e w4 ⟨g4, hg4, rfl, o4, b4⟩
  obtain ⟨W4, hW4⟩ : ∃ W, w4.alloc (.cells #[.string t, .slice (some ⟨g4, 0, none⟩) ps.length ps.length, .int .i64 tm, .string no] 29) = W := ⟨_, rfl⟩
  have q4 : Below w4.heap.size w4 W4 := by rw [← hW4]; exact allocBelow _ _
  have z4 : w4.heap.size < W4.heap.size := by rw [← hW4]; simp
  have X4 : Rf W4 w4.heap.size [.string t, .slice (some ⟨g4, 0, none⟩) ps.length ps.length, .int .i64 tm, .string no] := by rw [← hW4]; exact Rf.new _ _ _
  have r4 := (SS_of_owns o4 (size_of_owns o4) h.1).below q4
  have S4 := b4.size
  have b4' : Below W3.heap.size W3 W4 := b4.trans (q4.mono b4.size)
  have R4 := R3.below (by omega) b4'
  have G4 := G3.below z3 b4'
  have A4 := A3.below b4'
  have BB4 := below_step BB3 (by omega) b4'
  have x0 := X4.at_ 0 _ rfl
  have x1 := X4.at_ 1 _ rfl
  have x2 := X4.at_ 2 _ rfl
  have x3 := X4.at_ 3 _ rfl
  clear b4 b4' q4 o4 d0 d1 d2 d3 R3 A3 BB3 G3 hW3
  go_wp2_with fail
  refine (hI _ _ r4 BB4).mono ?_; rintro e w5 ⟨rfl, b5⟩
  obtain ⟨W5, hW5⟩ : ∃ W, w5.alloc (.cells #[.int .i64 v, .string T] 27) = W := ⟨_, rfl⟩
  have z5 : w5.heap.size < W5.heap.size := by rw [← hW5]; simp
  have q5 : Below w5.heap.size w5 W5 := by rw [← hW5]; exact allocBelow _ _
  have K5 : Rf W5 w5.heap.size [.int .i64 v, .string T] := by rw [← hW5]; exact Rf.new _ _ _
  have b5' : Below W4.heap.size W4 W5 := b5.trans (q5.mono b5.size)
  have X5 := X4.below z4 b5'
  have R5 := R4.below (by omega) b5'
  have G5 := G4.below (by omega) b5'
  have S5 := b5'.size
  have A5 := A4.below b5'
  have r5 := r4.below b5'
  have BB5 := below_step BB4 (by omega) b5'
  have g0 := G5.at_ 0 _ rfl
  have g1 := G5.at_ 1 _ rfl
  have k0 := K5.at_ 0 _ rfl
  have k1 := K5.at_ 1 _ rfl
  clear b5 b5' q5 hI hW4 R4 A4 BB4 X4 r4 G4 x0 x1 x2 x3 G5 K5
  go_wp2_with fail
  refine (hQt _).mono ?_; rintro e w6 ⟨rfl, b6⟩
  have S6 := b6.size
  have X6 := X5.below (by omega) b6
  have R6 := R5.below (by omega) b6
  have A6 := A5.below b6
  have r6 := r5.below b6
  have BB6 := below_step BB5 (by omega) b6
  have x0 := X6.at_ 0 _ rfl
  have x1 := X6.at_ 1 _ rfl
  have x2 := X6.at_ 2 _ rfl
  have x3 := X6.at_ 3 _ rfl
  have d0 := R6.at_ 0 _ rfl
  have d1 := R6.at_ 1 _ rfl
  have d2 := R6.at_ 2 _ rfl
  have d3 := R6.at_ 3 _ rfl
  clear b6 g0 g1 k0 k1 hW5 hQt X5 R5 A5 r5 BB5
  have A5' : SS w6.drew a ps := A6
  have r5' : SS w6.drew (some ⟨g4, 0, none⟩) ps := r6
  have X5' : Rf w6.drew w4.heap.size [.string t, .slice (some ⟨g4, 0, none⟩) ps.length ps.length, .int .i64 tm, .string no] := X6.below (by omega) (below_drew (Below.refl _ _))
  have BB5' : Below w.heap.size w w6.drew := below_drew BB6
  have hT5 := hT w6.drew A5'
  have S5' : w4.heap.size < w6.drew.heap.size := by show w4.heap.size < w6.heap.size; omega
  have S5'' : w.heap.size ≤ w6.drew.heap.size := BB5'.size
  have hQ : ∀ (W : World) (g : Nat), SS W (some ⟨g4, 0, none⟩) ps → SS W (some ⟨g, 0, none⟩) ps → Calls Tryd.prog 11 #[.agg #[.string t, .slice (some ⟨g4, 0, none⟩) ps.length ps.length, .int .i64 tm, .string no], .agg #[.string t, .slice (some ⟨g, 0, none⟩) ps.length ps.length, .int .i64 tm, .string no]] W fun e w' => e = .returned (.bool true) ∧ Below W.heap.size W w' := fun W g q1 q2 => eqCommit t no tm _ _ _ _ ps W q1 q2 hls
  clear hT R6 X6 r6 BB6 A6 A5'
  go_wp2_with fail
  go_region_with (first
    | (go_at_call 8; refine hT5.mono ?_; rintro e w7 ⟨g6, hg6, rfl, o6, b6⟩; have X6 := X5'.below S5' b6; have x0 := X6.at_ 0 _ rfl; have x1 := X6.at_ 1 _ rfl; have x2 := X6.at_ 2 _ rfl; have x3 := X6.at_ 3 _ rfl; have r6 := SS_of_owns o6 (size_of_owns o6) h.1; have r7 := r5'.below b6; have BB6 := below_step BB5' S5'' b6)
    | (go_at_call 11; refine (hQ _ _ r7 r6).mono ?_; rintro e w8 ⟨rfl, b8⟩))
  all_goals
    have BB8 := below_step BB6 (BB6.size) b8
    clear b8
    go_wp2_with fail
    go_ret
    exact ⟨rfl, BB8⟩

set_option linter.unusedVariables false
theorem laidOut : laidOutB Tryd.prog = true := by kernel_rfl
theorem of_laid {W : World} (h : laidMetH Tryd.prog Rows.fnExactEncodeCommitRow.laid W) : TaG W ∧ ErrG W := Cm.laid_gives h
theorem door_met (os : Os) (args : Array Value) : laidMetH Tryd.prog Rows.fnExactEncodeCommitRow.laid ((World.doorLaid Tryd.prog 400 os).forCall (fun _ _ => 0) ⟨#[], args, []⟩).memory :=
  laidMetH_of_parts3 (fuel := 8) (laidMet_of_run' 8 (by kernel_rfl) (by kernel_rfl)) (by kernel_rfl) (by kernel_rfl)
theorem own : ownKnob Tryd.prog.godebug = none := by kernel_rfl
set_option maxRecDepth 100000 in
theorem lifted (os : Os) (started : os.Started) (H : Type) (enc : TypeId × Value → H) :
    ReturnsInHanded {} Tryd.checked os 3 .any (fun w args => (Rows.fnExactEncodeCommitSpec.pre enc Tryd.prog Tryd.f3 [] false w args ∧ laidMetH Tryd.prog Rows.fnExactEncodeCommitRow.laid w) ∧ sizedMet enc Tryd.prog Tryd.f3 (OpenSpec.ofChange Rows.fnExactEncodeCommitSpec) false w args)
      (Rows.fnExactEncodeCommitSpec.post enc Tryd.prog Tryd.f3 false true false false) := by
  refine returnsInHanded_of_change_and (C := Tryd.checked) (X := fun w _ => laidMetH Tryd.prog Rows.fnExactEncodeCommitRow.laid w) (fun _ _ _ hh h => h.of_heap hh) own started (by kernel_rfl) Tryd.func3
    (ChangeSpec.witness_shaped (enc := enc) (C := Tryd.checked) (os := os) (X := fun w _ => laidMetH Tryd.prog Rows.fnExactEncodeCommitRow.laid w) false (World.doorLaid Tryd.prog 400 os) #[.agg #[.string ByteArray.empty, .slice none 0 0, .int .i64 0, .string ByteArray.empty]] 8 rfl (World.shaped_of_RefB (by kernel_rfl) (by kernel_rfl)) (by kernel_rfl) (by kernel_rfl) (by kernel_rfl) (door_met os _)) ?_
  intro W base args ds gs before hval0 hW _ _ hL _
  have hval : ∀ (j : Nat) t v, Tryd.f3.params[j]? = some t → args[j]? = some v → Value.okWide Tryd.prog W .any base t v := hval0
  have hW' := hW
  obtain ⟨p, q, hA0, hV0, rfl, hfz, hnd⟩ := hW
  have hA : DataW.TrodAll enc Tryd.prog W 0 (fun _ => true) true Tryd.f3.params.toList args.toList ds p := hA0
  have hV : DataW.TrodVars enc Tryd.prog W (fun _ => true) ["loop.example/g00172/impl.modeWords"] gs q := hV0
  rw [Tryd.params3] at hA hval
  obtain ⟨v0, vs0, d0, ds0, p0, q0, hargs, rfl, rfl, h0, r0⟩ := trodAll_cons hA
  obtain ⟨rfl, rfl, rfl⟩ := trodAll_nil r0
  obtain rfl : args = #[v0] := by cases args; simp_all
  obtain ⟨g1, hg1⟩ : ∃ g1, gs = [g1] := by
    obtain ⟨_, _, _, _, d, _, e, _⟩ := trodVars_one hV
    exact ⟨d, e⟩
  subst hg1
  obtain ⟨cs, rfl, hcs⟩ := okWide_struct Tryd.underlying24 (hval 0 24 v0 rfl rfl)
  have k0 := h0
  have lt0 : ∀ x ∈ p0, x.block < W.heap.size := by obtain ⟨m, hm⟩ := k0; exact DataW.trod_lt m _ _ _ hm
  obtain ⟨t0, no0, tm0, a0, cap0, ss0, hcc, w0, n0, m1, m2⟩ : ∃ (t no : ByteArray) (tm : Int) (a : Option Addr) (cap : Nat) (ss : List ByteArray), cs.toList = [.string t, .slice a ss.length cap, .int .i64 tm, .string no] ∧ SS W a ss ∧ ss.length ≤ 9223372036854775807 ∧ t.size ≤ 9223372036854775807 ∧ no.size ≤ 9223372036854775807 := by
    obtain ⟨m, hm⟩ := k0
    exact Cm.openCm hm lt0
  obtain rfl : cs = #[.string t0, .slice a0 ss0.length cap0, .int .i64 tm0, .string no0] := by
    cases cs; simp_all
  obtain ⟨hTa, hEr⟩ := of_laid hL
  clear hA0 hval0
  refine (walk t0 no0 tm0 a0 cap0 ss0 W w0 n0 m1 m2 hTa (Cm.cellLtTa hTa) hEr).mono fun e W' ⟨he, bel⟩ => ?_
  subst he
  exact ⟨_, rfl, _, _, _, [], _, _, hW', trodAll_mk1 (shut_bool Tryd.underlying4 _), (trodAll_cons_mk (Below.trod laidOut (by kernel_rfl) (of_decide_eq_true (by kernel_rfl)) k0 bel lt0) trodAll_mk0), Below.trodVars laidOut bel (by kernel_rfl) hV, bel.frame _, fun h => by cases h⟩

theorem over : Rows.fnExactEncodeCommitRow.holds Tryd.pinned (OpenSpec.ofChange Rows.fnExactEncodeCommitSpec) :=
  OpenClaim.holds_of_wide 3 Tryd.f3 rfl rfl rfl rfl rfl rfl rfl ⟨rfl, rfl, rfl, rfl, rfl⟩ rfl rfl rfl rfl rfl (by kernel_rfl) Tryd.func3 (by kernel_rfl)
    (of_decide_eq_true (by kernel_rfl)) (by unfold Func.isWrapper; first | (rw [if_pos (by decide +kernel)]; kernel_rfl) | (rw [if_neg (by decide +kernel)]; exact ⟨rfl, rfl⟩))
    (fun os started H enc _ => lifted os started H enc)

theorem proved : Rows.FnExactEncodeCommitCardSaid :=
  Claim7.holds_tied_plain_at .later [] [.data, .data, .data, .handle, .data] true _ true
    over (fun _ h => by cases h) (by kernel_rfl) (fun _ h => by cases h) fnExactEncodeCommit_row_tie rfl ⟨rfl, rfl⟩ (by kernel_rfl) rfl
    (fun f fn hf hfn => by
      obtain rfl : f = 3 := Option.some.inj ((show Tryd.prog.funcNamed "loop.example/g00172/laws.FnExactEncodeCommit" = some 3 by kernel_rfl).symm.trans hf) |>.symm
      obtain rfl : fn = Tryd.f3 := (Option.some.inj (Tryd.func3.symm.trans hfn)).symm
      exact ⟨by kernel_rfl, fun j t ht => by
        rw [Tryd.params3] at ht
        have hm : t ∈ [24] := by simpa using Array.mem_of_getElem? ht
        have hall : ([24].all fun u => !Tryd.prog.wantsStandIn u) = true := by kernel_rfl
        exact (show Tryd.prog.wantsStandIn t = false by simpa using List.all_eq_true.1 hall t hm)⟩)
    (by kernel_rfl)
end Go.Proofs.YtibgfngicijnlamDoor.EcLaw
namespace Go.Proofs.YtibgfngicijnlamDoor
theorem fnExactEncodeCommit_proved : Rows.FnExactEncodeCommitCardSaid := EcLaw.proved
end Go.Proofs.YtibgfngicijnlamDoor
