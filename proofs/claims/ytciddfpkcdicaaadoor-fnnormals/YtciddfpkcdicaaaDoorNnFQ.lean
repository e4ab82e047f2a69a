/- Proved: at every code FnNormals returns true (a clash is the same to the rules, whoever's side is which). Its condition: the laid variables hold what the row says (the tied card FnNormalsCardSaid). -/
import Derived.Test.YtciddfpkcdicaaaDoorRows
import Derived.Test.YtciddfpkcdicaaaDoorLemQ
import Derived.Test.YtciddfpkcdicaaaDoorDTabQ
import Derived.Test.YtciddfpkcdicaaaDoorHkTQ
import Derived.Test.YtciddfpkcdicaaaDoorDrawQ
import Derived.Test.YtciddfpkcdicaaaDoorDraw15Q
import Derived.Test.YtciddfpkcdicaaaDoorMxJQ
import Derived.Test.YtciddfpkcdicaaaDoorCoTQ
import Derived.Test.YtciddfpkcdicaaaDoorTvMQ
import Derived.Test.YtciddfpkcdicaaaDoorKpDQ
import Derived.Test.YtciddfpkcdicaaaDoorNoSQ
import Derived.Test.YtciddfpkcdicaaaDoorNoIQ
import Derived.Test.YtciddfpkcdicaaaDoorTie
import Derived.Test.YtciddfpkcdicaaaDoorCards
import Derived.Below
import Derived.Carry
import Derived.ChangeVars
import Derived.Deep.RegionHeld
import Derived.Deep.RegionWith
import Derived.JoinedOf
import Derived.LaidMore
import Derived.Lay
import Derived.Lib.LaidTab
import Derived.OpenShut
import Derived.OpenVars
import Derived.ProofKit
import Derived.SevenTiedAt
import Derived.Stop.Joined
import Derived.WalkKit
import Derived.WalkSpells
set_option linter.unusedVariables false
namespace Go.Proofs.YtciddfpkcdicaaaDoor.NnF
open Go.ChangeShapes Go.WideShapes Go.ChangeAt Go.RowKit
open Go.Proofs.YtciddfpkcdicaaaDoor.No

theorem tTa : (Tryd.prog.globals[0]?).map (·.type) = some 144 := by kernel_rfl
theorem tab_of {P : Program} {W : World} {name : String} {k : IntKind} {zs : List Int} {t e : TypeId} {n : Nat} {cs : Array Value} {fuel : Nat} {p : List MemPlace}
    (ht : P.underlying t = some (.array n e)) (he : P.underlying e = some (.int k)) (hce : P.cellsOf e = 1) (hct : P.cellsOf t = n)
    (hv : W.var? P name = some cs) (hd : DataW.trod (fun _ => ()) P W 0 (fun _ => true) false fuel t cs.toList = some (Lib.tabData k zs, p)) : Lib.TabIs P W name k zs := by
  unfold Lib.TabIs
  rw [hv, ← Lib.cells_of_tab ht he hce hct hd]
theorem of_laid {W : World} (h0 : laidMetH Tryd.prog Rows.fnNormalsRow.laid W) : TaG W := by
  rw [MakeChecks.laidMetH_plain _ _ _ (by kernel_rfl)] at h0
  have h : laidMet Tryd.prog [("math/bits.deBruijn32tab", Rows.laid_math_bits_deBruijn32tab), ("math/bits.deBruijn64tab", Rows.laid_math_bits_deBruijn64tab), ("internal/strconv.uint64pow10", Lib.tabData .u64 Lib.pow10Tab)] W := h0
  obtain ⟨ps, ⟨_, _, _, _, _, _, _, _, _, _, ⟨_, _, _, _, _, _, _, _, _, _, ⟨g1, t1, cs1, f1, p1, q1, hg1, ht1, hv1, hd1, _, _⟩, _⟩, _⟩, _, _⟩ := h
  obtain rfl := Option.some.inj (gTa.symm.trans hg1)
  obtain rfl := Option.some.inj (tTa.symm.trans ht1)
  exact tab_of Tryd.underlying144 Tryd.underlying135 (by kernel_rfl) (by kernel_rfl) hv1 hd1
theorem cellLtTa {W : World} (h : TaG W) : 0 < W.heap.size :=
  cellLt (h.cell gTa 0 (by decide))
theorem lwBig (a : Option Addr) (n cap : Nat) (w : World) : Calls Tryd.prog 5 #[.slice a n cap] w fun e w' => e = .returned (.bool (decide ((1048576 : Int) < (n : Int)))) ∧ w' = w := by
  go_enter Tryd.func5, Tryd.ntmps5
  go_wp2
  go_ret
  exact ⟨rfl, rfl⟩
theorem keepc {w w' : World} {g o : Nat} {v : Value} (b : Below w.heap.size w w') (hg : g < w.heap.size) (d : w.cell? ⟨g, o, none⟩ = some v) : w'.cell? ⟨g, o, none⟩ = some v := (b.cell (p := ⟨g, o, none⟩) hg).trans d
set_option maxHeartbeats 1000000 in
theorem drawNormalText (a : Option Addr) (n cap : Nat) (w : World) (h : Bts w a n) (hn : n ≤ 1048576) :
    Calls Tryd.prog 6 #[.slice a n cap] w fun e w' => ∃ x y z : ByteArray, e = .returned (.tuple #[.string x, .string y, .string z]) ∧ x.size ≤ 10000 ∧ y.size ≤ 10000 ∧ z.size ≤ 10000 ∧ Below w.heap.size w w' := by
  have hD := drawMergeTexts a n cap w h hn
  go_enter Tryd.func6, Tryd.ntmps6
  go_wp2_with fail
  refine hD.mono ?_; rintro e w1 ⟨x, y, z, rfl, zx, zy, zz, b1⟩
  clear hD
  go_wp2
  go_ret3
  exact ⟨x, y, z, rfl, zx, zy, zz, b1⟩
set_option maxRecDepth 20000 in
set_option maxHeartbeats 4000000 in
theorem walk (a : Option Addr) (n cap : Nat) (w : World) (h : Bts w a n) (hm : n ≤ 9223372036854775807) (hTa : TaG w) (hgB : 0 < w.heap.size) :
    Calls Tryd.prog 3 #[.slice a n cap] w fun e w' => e = .returned (.bool true) ∧ Below w.heap.size w w' := by
  by_cases hbig : (1048576 : Int) < (n : Int)
  · go_enter Tryd.func3, Tryd.ntmps3
    go_wp2_with (go_at_call 5; refine (lwBig _ _ _ _).mono ?_; rintro e w' ⟨rfl, rfl⟩)
    go_ret
    exact ⟨rfl, Below.refl _ _⟩
  have hn : n ≤ 1048576 := by omega
  go_enter Tryd.func3, Tryd.ntmps3
  go_wp2_with fail
  refine (lwBig _ _ _ _).mono ?_; rintro e w ⟨rfl, rfl⟩
  go_wp2_with fail
  refine (drawNormalText a n cap _ h hn).mono ?_; rintro e w1 ⟨x, y, z, rfl, zx, zy, zz, b1⟩
  have hI1 := fun W (b : Below w.heap.size w W) => implNormalText x y z W (by omega) (by omega) (by omega) (hTa.below b hgB) (Nat.lt_of_lt_of_le hgB b.size)
  have hI2 := fun W (b : Below w.heap.size w W) => implNormalText x z y W (by omega) (by omega) (by omega) (hTa.below b hgB) (Nat.lt_of_lt_of_le hgB b.size)
  have hS := fun W => specNormalText x y z W (by omega) (by omega) (by omega)
  have hMg := fun W => implMergeTexts x y z W (by omega) (by omega) (by omega)
  rw [(no_sides x y z).1, (no_sides x y z).2] at hI2
  have hZ := fun (e : noC x y z = 0) => no_zero e
  generalize noC x y z = C at hI1 hI2 hS hZ
  generalize noX x y z = X at hI1 hI2 hS hZ
  generalize mtR x y z = R at hMg hZ
  generalize mtN x y z = M at hMg hZ
  generalize mtT x y z = Y at hMg
  go_wp2_with fail
  refine (hI1 _ b1).mono ?_; rintro e w2 ⟨rfl, b2⟩
  have B2 : Below w.heap.size w w2 := b1.trans (b2.mono b1.size)
  obtain ⟨W3, hW3⟩ : ∃ W, w2.alloc (.cells #[.int .i64 C, .string X] 27) = W := ⟨_, rfl⟩
  have b3 : Below w2.heap.size w2 W3 := by rw [← hW3]; exact allocBelow _ _
  have u3 : Rf W3 w2.heap.size [.int .i64 C, .string X] := by rw [← hW3]; exact Rf.new _ _ _
  have z3 : w2.heap.size < W3.heap.size := by rw [← hW3]; simp
  have B3 : Below w.heap.size w W3 := B2.trans (b3.mono B2.size)
  obtain ⟨p1, hp1⟩ : ∃ p, w2.heap.size = p := ⟨_, rfl⟩
  rw [hp1] at u3 z3
  clear hI1 b1 b2 B2 b3
  go_wp2_with fail
  with_reducible refine (hI2 _ B3).mono ?_
  rintro e w4 ⟨rfl, b4⟩
  have B4 : Below w.heap.size w w4 := B3.trans (b4.mono B3.size)
  have u4 := u3.below z3 b4
  have z4 : p1 < w4.heap.size := Nat.lt_of_lt_of_le z3 b4.size
  obtain ⟨W5, hW5⟩ : ∃ W, w4.alloc (.cells #[.int .i64 C, .string X] 27) = W := ⟨_, rfl⟩
  have b5 : Below w4.heap.size w4 W5 := by rw [← hW5]; exact allocBelow _ _
  have v5 : Rf W5 w4.heap.size [.int .i64 C, .string X] := by rw [← hW5]; exact Rf.new _ _ _
  have z5 : w4.heap.size < W5.heap.size := by rw [← hW5]; simp
  have B5 : Below w.heap.size w W5 := B4.trans (b5.mono B4.size)
  have u5 := u4.below z4 b5
  have z51 : p1 < W5.heap.size := Nat.lt_of_lt_of_le z4 b5.size
  obtain ⟨p2, hp2⟩ : ∃ p, w4.heap.size = p := ⟨_, rfl⟩
  rw [hp2] at v5 z5
  have c0 := u5.at_ 0 _ rfl
  have c1 := u5.at_ 1 _ rfl
  have d0 := v5.at_ 0 _ rfl
  have d1 := v5.at_ 1 _ rfl
  clear hI2 b4 b5 B3 B4 u3 u4 z3 z4 hW3
  by_cases e0 : C = 0
  · subst e0
    obtain ⟨hX, hRM⟩ := hZ rfl
    have hXe : X.toList.isEmpty = false := by
      cases hx : X.toList with
      | nil =>
        rw [ByteArray.toList_eq] at hx
        have h1 := congrArg List.length hx
        have h2 : X.data.toList.length = X.size := by simp
        rw [h2] at h1
        simp only [List.length_nil] at h1
        omega
      | cons _ _ => rfl
    have hbX := beq_bytes_true (rfl : X = X)
    clear hZ hS hX
    go_wp2_with fail
    with_reducible refine (hMg _).mono ?_
    rintro e w6 ⟨rfl, b6⟩
    have B6 : Below w.heap.size w w6 := B5.trans (b6.mono B5.size)
    obtain ⟨W7, hW7⟩ : ∃ W, w6.alloc (.cells #[.int .i64 R, .int .i64 M, .string Y] 30) = W := ⟨_, rfl⟩
    have b7 : Below w6.heap.size w6 W7 := by rw [← hW7]; exact allocBelow _ _
    have t7 : Rf W7 w6.heap.size [.int .i64 R, .int .i64 M, .string Y] := by rw [← hW7]; exact Rf.new _ _ _
    have B7 : Below w.heap.size w W7 := B6.trans (b7.mono B6.size)
    have C0 := zcK b7 (zcK b6 c0)
    have C1 := zcK b7 (zcK b6 c1)
    have D0 := zcK b7 (zcK b6 d0)
    have D1 := zcK b7 (zcK b6 d1)
    obtain ⟨p3, hp3⟩ : ∃ p, w6.heap.size = p := ⟨_, rfl⟩
    rw [hp3] at t7
    have m0 := t7.at_ 0 _ rfl
    have m1 := t7.at_ 1 _ rfl
    clear c0 c1 d0 d1 b6 b7 B6 B5 hMg u5 v5 t7 hW5
    by_cases hR : R = 0
    · subst hR
      have hM : 0 < M := by omega
      clear hRM
      go_wp2
      go_ret
      exact ⟨rfl, B7⟩
    · have hR' : (R != 0) = true := by simp [hR]
      clear hRM
      go_wp2
      go_ret
      exact ⟨rfl, B7⟩
  · have q0 : (C != 0) = true := by simp [e0]
    have qC : (C == C) = true := by simp
    have hf0 : ∀ w, (Instr.field 27 (.agg #[.int .i64 C, .string X]) 0).run Tryd.prog w = .ok (.int .i64 C) w := fun w => by kernel_rfl
    clear hZ hMg c1 d1
    have BD : Below W5.heap.size W5 W5.drew := (Below.refl _ _).drew
    go_wp2_with fail
    go_region_held (fun W' => W'.cell? ⟨p1, 0, none⟩ = some (.int .i64 C) ∧ W'.cell? ⟨p2, 0, none⟩ = some (.int .i64 C)) (first | with_reducible exact ⟨c0, d0⟩ | exact ⟨c0, d0⟩)
      ((go_at_call 8; refine (hS _).mono ?_; rintro e w' ⟨rfl, b⟩; have c0 := zcK b c0; have d0 := zcK b d0; have sb := BD.size; have BD := below_step BD (by omega) b; clear b))
    all_goals
      try go_wp2
      try go_ret
      exact ⟨rfl, B5.trans (BD.mono B5.size)⟩

set_option linter.unusedVariables false
theorem laidOut : laidOutB Tryd.prog = true := by kernel_rfl
theorem own : ownKnob Tryd.prog.godebug = none := by kernel_rfl
set_option maxRecDepth 100000 in
theorem lifted (os : Os) (started : os.Started) (H : Type) (enc : TypeId × Value → H) :
    ReturnsInHanded {} Tryd.checked os 3 .any (fun w args => (Rows.fnNormalsSpec.pre enc Tryd.prog Tryd.f3 [] false w args ∧ laidMetH Tryd.prog Rows.fnNormalsRow.laid w) ∧ sizedMet enc Tryd.prog Tryd.f3 (OpenSpec.ofChange Rows.fnNormalsSpec) false w args)
      (Rows.fnNormalsSpec.post enc Tryd.prog Tryd.f3 false true false false) := by
  refine returnsInHanded_of_change_and (C := Tryd.checked) (X := fun w _ => laidMetH Tryd.prog Rows.fnNormalsRow.laid w) (fun _ _ _ hh h => h.of_heap hh) own started (by kernel_rfl) Tryd.func3
    (ChangeSpec.witness_shaped (enc := enc) (C := Tryd.checked) (os := os) (X := fun w _ => laidMetH Tryd.prog Rows.fnNormalsRow.laid w) false (World.laidAll Tryd.prog os Rows.fnNormalsRow.laid) #[.slice none 0 0] 8 (World.laidAll_os _ _ _) (World.shaped_of_ZipB (by kernel_rfl) (by kernel_rfl)) (by kernel_rfl) (by kernel_rfl) (by kernel_rfl) (by rw [MakeChecks.laidMetH_plain _ _ _ (by kernel_rfl)]; exact laidMet_laidAll _ (by kernel_rfl) (by kernel_rfl))) ?_
  intro W base args ds gs before hval0 hW _ _ hL _
  have hval : ∀ (j : Nat) t v, Tryd.f3.params[j]? = some t → args[j]? = some v → Value.okWide Tryd.prog W .any base t v := hval0
  have hW' := hW
  obtain ⟨p, q, hA0, hV, rfl, hfz, hnd⟩ := hW
  have hA : DataW.TrodAll enc Tryd.prog W 0 (fun _ => true) true Tryd.f3.params.toList args.toList ds p := hA0
  rw [Tryd.params3] at hA hval
  obtain ⟨v0, vs0, d0, ds0, p0, q0, hargs, rfl, rfl, h0, r0⟩ := trodAll_cons hA
  obtain ⟨rfl, rfl, rfl⟩ := trodAll_nil r0
  obtain rfl : args = #[v0] := by cases args; simp_all
  obtain ⟨rfl, rfl⟩ := trodVars_none hV
  obtain ⟨a0, len0, cap0, rfl⟩ := okWide_slice Tryd.underlying22 (hval 0 22 v0 rfl rfl)
  have k0 := h0
  have lt0 : ∀ x ∈ p0, x.block < W.heap.size := by obtain ⟨m, hm⟩ := k0; exact DataW.trod_lt m _ _ _ hm
  obtain ⟨w0, n0⟩ := openBts h0 lt0
  obtain hTa := of_laid hL
  clear hA0 hval0
  refine (walk a0 len0 cap0 W w0 n0 hTa (cellLtTa hTa)).mono fun e W' ⟨he, bel⟩ => ?_
  subst he
  exact ⟨_, rfl, _, _, _, [], _, [], hW', trodAll_mk1 (shut_bool Tryd.underlying4 _), (trodAll_cons_mk (Below.trod laidOut (by kernel_rfl) (of_decide_eq_true (by kernel_rfl)) k0 bel lt0) trodAll_mk0), rfl, bel.frame _, fun h => by cases h⟩

theorem over : Rows.fnNormalsRow.holds Tryd.pinned (OpenSpec.ofChange Rows.fnNormalsSpec) :=
  OpenClaim.holds_of_wide 3 Tryd.f3 rfl rfl rfl rfl rfl rfl rfl ⟨rfl, rfl, rfl, rfl, rfl⟩ rfl rfl rfl rfl rfl (by kernel_rfl) Tryd.func3 (by kernel_rfl)
    (of_decide_eq_true (by kernel_rfl)) (by unfold Func.isWrapper; first | (rw [if_pos (by decide +kernel)]; kernel_rfl) | (rw [if_neg (by decide +kernel)]; exact ⟨rfl, rfl⟩))
    (fun os started H enc _ => lifted os started H enc)

theorem proved : Rows.FnNormalsCardSaid :=
  Claim7.holds_tied_plain_at .later [] [.data, .data, .data] true _ false
    over (fun _ h => by cases h) (by kernel_rfl) (fun _ h => by cases h) fnNormals_row_tie rfl ⟨rfl, rfl⟩ (by kernel_rfl) rfl
    (fun f fn hf hfn => by
      obtain rfl : f = 3 := Option.some.inj ((show Tryd.prog.funcNamed "loop.example/g00172/laws.FnNormals" = some 3 by kernel_rfl).symm.trans hf) |>.symm
      obtain rfl : fn = Tryd.f3 := (Option.some.inj (Tryd.func3.symm.trans hfn)).symm
      exact ⟨by kernel_rfl, fun j t ht => by
        rw [Tryd.params3] at ht
        have hm : t ∈ [22] := by simpa using Array.mem_of_getElem? ht
        have hall : ([22].all fun u => !Tryd.prog.wantsStandIn u) = true := by kernel_rfl
        exact (show Tryd.prog.wantsStandIn t = false by simpa using List.all_eq_true.1 hall t hm)⟩)
    (by kernel_rfl)
end Go.Proofs.YtciddfpkcdicaaaDoor.NnF
namespace Go.Proofs.YtciddfpkcdicaaaDoor
theorem fnNormals_proved : Rows.FnNormalsCardSaid := NnF.proved
end Go.Proofs.YtciddfpkcdicaaaDoor
