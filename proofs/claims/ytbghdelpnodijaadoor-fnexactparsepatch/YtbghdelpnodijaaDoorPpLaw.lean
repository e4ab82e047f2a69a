/- Proved: at every text FnExactParsePatch returns true (ParsePatch answers as its specification, field by field; its answer owns its memory, behind another call too). Its condition: the laid variables hold what the row says (the tied card FnExactParsePatchCardSaid). -/
import Derived.Test.YtbghdelpnodijaaDoorRows
import Derived.Test.YtbghdelpnodijaaDoorLem
import Derived.Test.YtbghdelpnodijaaDoorStrs
import Derived.Test.YtbghdelpnodijaaDoorMarks
import Derived.Test.YtbghdelpnodijaaDoorHeld
import Derived.Test.YtbghdelpnodijaaDoorLFLem
import Derived.Test.YtbghdelpnodijaaDoorLF
import Derived.Test.YtbghdelpnodijaaDoorDTab
import Derived.Test.YtbghdelpnodijaaDoorOwn
import Derived.Test.YtbghdelpnodijaaDoorFr
import Derived.Test.YtbghdelpnodijaaDoorIn
import Derived.Test.YtbghdelpnodijaaDoorHkL
import Derived.Test.YtbghdelpnodijaaDoorHkC
import Derived.Test.YtbghdelpnodijaaDoorHkS
import Derived.Test.YtbghdelpnodijaaDoorHkT
import Derived.Test.YtbghdelpnodijaaDoorHkE
import Derived.Test.YtbghdelpnodijaaDoorHfL
import Derived.Test.YtbghdelpnodijaaDoorHfC
import Derived.Test.YtbghdelpnodijaaDoorHnL
import Derived.Test.YtbghdelpnodijaaDoorHnT
import Derived.Test.YtbghdelpnodijaaDoorHrR
import Derived.Test.YtbghdelpnodijaaDoorHrP
import Derived.Test.YtbghdelpnodijaaDoorFiC
import Derived.Test.YtbghdelpnodijaaDoorPpS
import Derived.Test.YtbghdelpnodijaaDoorPqT
import Derived.Test.YtbghdelpnodijaaDoorPqN
import Derived.Test.YtbghdelpnodijaaDoorPqP
import Derived.Test.YtbghdelpnodijaaDoorPqR
import Derived.Test.YtbghdelpnodijaaDoorPqB
import Derived.Test.YtbghdelpnodijaaDoorPqG
import Derived.Test.YtbghdelpnodijaaDoorTie
import Derived.Test.YtbghdelpnodijaaDoorCards
import Derived.WalkKit
import Derived.ProofKit
import Derived.OpenShut
import Derived.Below
import Derived.Carry
import Derived.ShutString
import Derived.ChangeVars
import Derived.OpenVars
import Derived.LaidMore
import Derived.SevenTiedAt
import Derived.Stop.Joined
import Derived.JoinedOf
import Derived.Lay
namespace Go.Proofs.YtbghdelpnodijaaDoor.PpLaw
open Go.Proofs.YtbghdelpnodijaaDoor.Pp
open Go.ChangeShapes Go.WideShapes Go.ChangeAt Go.RowKit
open Go.ChangeMaps (open_string shut_string)

theorem ownOne (b n cap : Nat) : ∀ j, (Value.slice (some ⟨b, 0, none⟩) n cap).ownBlock = some j → b ≤ j ∧ j < b + 1 := by
  intro j hj
  have e : b = j := by simpa [Value.ownBlock] using hj
  omega
set_option maxRecDepth 20000 in
set_option maxHeartbeats 4000000 in
theorem walk (d : ByteArray) (w : World) (hT : TaG w) (hU : UnG w) (hP : PeG w) (hG : 9 ≤ w.heap.size) :
    Calls Tryd.prog 4 #[.string d] w fun e w' => e = .returned (.bool true) ∧ Below w.heap.size w w' := by
  have BB := Below.refl w.heap.size w
  by_cases hbig : (1048576 : Int) < (d.size : Int)
  · go_enter Tryd.func4, Tryd.ntmps4
    go_wp2
    go_ret
    exact ⟨rfl, BB⟩
  have hd : d.size ≤ 1048576 := by omega
  have hS : ∀ W, Calls Tryd.prog 11 #[.string d] W fun e w' => HP (ppR d) (ppA d) (ppH d) W e w' := fun W => specParsePatch d W hd
  have hI : ∀ W, Below w.heap.size w W → Calls Tryd.prog 12 #[.string d] W fun e w' => HP (ppR d) (ppA d) (ppH d) W e w' := fun W b => implParsePatch readC d W hd (hU.below b (by omega)) (hP.below b (by omega) (by omega)) (hT.below b (by omega)) (Nat.le_trans hG b.size)
  obtain ⟨hLs, hLf, hLn2, hLm2⟩ := ppH_bd d
  clear hT hU hP
  obtain ⟨r, hrr⟩ : ∃ r, ppR d = r := ⟨_, rfl⟩
  obtain ⟨A, hAA⟩ : ∃ A, ppA d = A := ⟨_, rfl⟩
  obtain ⟨L, hL⟩ : ∃ L, ppH d = L := ⟨_, rfl⟩
  rw [hrr, hAA, hL] at hS hI
  rw [hL] at hLs hLf hLn2 hLm2
  have hMf := mixM_fits hLm2
  have hMl := mixM_length L 1 L.length
  clear hrr hAA hL
  go_enter Tryd.func4, Tryd.ntmps4
  go_wp2_with fail
  refine (hS  _ ).mono ?_; rintro e w1 ⟨vp, slp, rfl, p, bp⟩
  obtain ⟨pa, pc, ep⟩ := shape3 p.row
  subst ep
  have jp : ∀ j, (Value.slice pa L.length pc).ownBlock = some j → w.heap.size ≤ j ∧ j < w1.heap.size := fun j hj => p.row.lt j hj
  have sp : ∀ n, n < L.length → ∀ j, (slp n).ownBlock = some j → w.heap.size ≤ j ∧ j < w1.heap.size := fun n hn j hj => (p.each n hn).lt j hj
  have F2 : Fr w.heap.size w.heap.size w w1 := Fr.ofBelow bp
  replace BB := F2.below BB (by omega) (by omega)
  have SF2 := F2.size
  clear bp F2
  obtain ⟨W3, hW3⟩ : ∃ W, w1.alloc (.cells #[.int .i64 r, .int .i64 A, .slice pa L.length pc] 33) = W := ⟨_, rfl⟩
  have Rp : Rs W3 w1.heap.size [.int .i64 r, .int .i64 A, .slice pa L.length pc] := by rw [← hW3]; exact Rs.new _ _ _
  have F4 : Fr w.heap.size w.heap.size w1 W3 := by rw [← hW3]; exact Fr.ofAlloc _ _
  have zW3 : w1.heap.size < W3.heap.size := by rw [← hW3]; simp
  replace BB := F4.below BB (by omega) (by omega)
  replace p := p.fr F4 (fun j hj => by have := jp j hj; omega) (fun n hn j hj => by have := sp n hn j hj; omega)
  have SF4 := F4.size
  clear F4
  go_wp2_with fail
  refine (hI  _ BB).mono ?_; rintro e w5 ⟨vq, slq, rfl, q, bq⟩
  obtain ⟨qa, qc, eq⟩ := shape3 q.row
  subst eq
  have jq : ∀ j, (Value.slice qa L.length qc).ownBlock = some j → W3.heap.size ≤ j ∧ j < w5.heap.size := fun j hj => q.row.lt j hj
  have sq : ∀ n, n < L.length → ∀ j, (slq n).ownBlock = some j → W3.heap.size ≤ j ∧ j < w5.heap.size := fun n hn j hj => (q.each n hn).lt j hj
  have F6 : Fr w.heap.size w.heap.size W3 w5 := Fr.ofBelow bq
  replace BB := F6.below BB (by omega) (by omega)
  replace p := p.fr F6 (fun j hj => by have := jp j hj; omega) (fun n hn j hj => by have := sp n hn j hj; omega)
  replace Rp := F6.rs Rp (by omega)
  have SF6 := F6.size
  clear bq F6
  obtain ⟨W7, hW7⟩ : ∃ W, w5.alloc (.cells #[.int .i64 r, .int .i64 A, .slice qa L.length qc] 33) = W := ⟨_, rfl⟩
  have Rq : Rs W7 w5.heap.size [.int .i64 r, .int .i64 A, .slice qa L.length qc] := by rw [← hW7]; exact Rs.new _ _ _
  have F8 : Fr w.heap.size w.heap.size w5 W7 := by rw [← hW7]; exact Fr.ofAlloc _ _
  have zW7 : w5.heap.size < W7.heap.size := by rw [← hW7]; simp
  replace BB := F8.below BB (by omega) (by omega)
  replace p := p.fr F8 (fun j hj => by have := jp j hj; omega) (fun n hn j hj => by have := sp n hn j hj; omega)
  replace Rp := F8.rs Rp (by omega)
  replace q := q.fr F8 (fun j hj => by have := jq j hj; omega) (fun n hn j hj => by have := sq n hn j hj; omega)
  have SF8 := F8.size
  clear F8
  have dp0 := Rp 0 _ rfl
  have dp1 := Rp 1 _ rfl
  have dp2 := Rp 2 _ rfl
  have dq0 := Rq 0 _ rfl
  have dq1 := Rq 1 _ rfl
  have dq2 := Rq 2 _ rfl
  go_wp2_with fail
  refine (eqHunksResult _ _ _ _ _ _ L _ (q.read hLf) (p.read hLf) hLs hLn2).mono ?_; rintro e w9 ⟨rfl, b⟩
  have F10 : Fr w.heap.size w.heap.size W7 w9 := Fr.ofBelow b
  replace BB := F10.below BB (by omega) (by omega)
  replace p := p.fr F10 (fun j hj => by have := jp j hj; omega) (fun n hn j hj => by have := sp n hn j hj; omega)
  replace Rp := F10.rs Rp (by omega)
  replace q := q.fr F10 (fun j hj => by have := jq j hj; omega) (fun n hn j hj => by have := sq n hn j hj; omega)
  replace Rq := F10.rs Rq (by omega)
  have SF10 := F10.size
  clear b F10
  clear dp0 dp1 dp2
  clear dq0 dq1 dq2
  clear hW7
  have dq0 := Rq 0 _ rfl
  have dq1 := Rq 1 _ rfl
  have dq2 := Rq 2 _ rfl
  go_wp2_with fail
  refine (markHunksAny _ _ W3.heap.size w5.heap.size _ _ 1 L slq _ (by omega) hLm2 q (fun j hj => (jq j hj).2) (fun n hn j hj => (sq n hn j hj).2)).mono ?_; rintro e w11 ⟨rfl, Q, FM⟩
  clear q
  clear dq0 dq1 dq2
  replace BB := FM.below BB (by omega) (by omega)
  replace p := p.fr FM (fun j hj => by have := jp j hj; omega) (fun n hn j hj => by have := sp n hn j hj; omega)
  replace Rp := FM.rs Rp (by omega)
  replace Rq := FM.rs Rq (by omega)
  have SFM := FM.size
  clear FM
  have jQ := jq
  have sQ : ∀ n, n < (mixM L 1 L.length).length → ∀ j, (slq n).ownBlock = some j → W3.heap.size ≤ j ∧ j < w5.heap.size := fun n hn j hj => sq n (by rw [hMl] at hn; exact hn) j hj
  obtain ⟨M, hM⟩ : ∃ M : Int, ((1 + mkN L L.length : Nat) : Int) = M := ⟨_, rfl⟩
  have hM0 : ¬ M < 0 := by omega
  have hMM : (M != M) = false := by simp
  rw [hM]
  have dq0 := Rq 0 _ rfl
  have dq1 := Rq 1 _ rfl
  have dq2 := Rq 2 _ rfl
  go_wp2_with fail
  refine (heldHunksResult _ _ _ _ 1 L _ (by omega) hLm2 (HO.read (c := qc) (by rw [hMl]; exact Q) hMf)).mono ?_; rintro e w12 ⟨rfl, b⟩
  rw [hM]
  clear dq0 dq1 dq2
  have F13 : Fr w.heap.size w.heap.size w11 w12 := Fr.ofBelow b
  replace BB := F13.below BB (by omega) (by omega)
  replace p := p.fr F13 (fun j hj => by have := jp j hj; omega) (fun n hn j hj => by have := sp n hn j hj; omega)
  replace Rp := F13.rs Rp (by omega)
  replace Rq := F13.rs Rq (by omega)
  replace Q := Q.fr F13 (fun j hj => by have := jQ j hj; omega) (fun n hn j hj => by have := sQ n hn j hj; omega)
  have SF13 := F13.size
  clear b F13
  go_wp2_with fail
  refine (hI  _ BB).mono ?_; rintro e w14 ⟨vs, sls, rfl, s, bs⟩
  obtain ⟨sa, sc, es⟩ := shape3 s.row
  subst es
  have js : ∀ j, (Value.slice sa L.length sc).ownBlock = some j → w12.heap.size ≤ j ∧ j < w14.heap.size := fun j hj => s.row.lt j hj
  have ss : ∀ n, n < L.length → ∀ j, (sls n).ownBlock = some j → w12.heap.size ≤ j ∧ j < w14.heap.size := fun n hn j hj => (s.each n hn).lt j hj
  have F15 : Fr w.heap.size w.heap.size w12 w14 := Fr.ofBelow bs
  replace BB := F15.below BB (by omega) (by omega)
  replace p := p.fr F15 (fun j hj => by have := jp j hj; omega) (fun n hn j hj => by have := sp n hn j hj; omega)
  replace Rp := F15.rs Rp (by omega)
  replace Rq := F15.rs Rq (by omega)
  replace Q := Q.fr F15 (fun j hj => by have := jQ j hj; omega) (fun n hn j hj => by have := sQ n hn j hj; omega)
  have SF15 := F15.size
  clear bs F15
  obtain ⟨W16, hW16⟩ : ∃ W, w14.alloc (.cells #[.int .i64 r, .int .i64 A, .slice sa L.length sc] 33) = W := ⟨_, rfl⟩
  have Rs : Rs W16 w14.heap.size [.int .i64 r, .int .i64 A, .slice sa L.length sc] := by rw [← hW16]; exact Rs.new _ _ _
  have F17 : Fr w.heap.size w.heap.size w14 W16 := by rw [← hW16]; exact Fr.ofAlloc _ _
  have zW16 : w14.heap.size < W16.heap.size := by rw [← hW16]; simp
  replace BB := F17.below BB (by omega) (by omega)
  replace p := p.fr F17 (fun j hj => by have := jp j hj; omega) (fun n hn j hj => by have := sp n hn j hj; omega)
  replace Rp := F17.rs Rp (by omega)
  replace Rq := F17.rs Rq (by omega)
  replace Q := Q.fr F17 (fun j hj => by have := jQ j hj; omega) (fun n hn j hj => by have := sQ n hn j hj; omega)
  replace s := s.fr F17 (fun j hj => by have := js j hj; omega) (fun n hn j hj => by have := ss n hn j hj; omega)
  have SF17 := F17.size
  clear F17
  have dp0 := Rp 0 _ rfl
  have dp1 := Rp 1 _ rfl
  have dp2 := Rp 2 _ rfl
  have ds0 := Rs 0 _ rfl
  have ds1 := Rs 1 _ rfl
  have ds2 := Rs 2 _ rfl
  go_wp2_with fail
  refine (eqHunksResult _ _ _ _ _ _ L _ (s.read hLf) (p.read hLf) hLs hLn2).mono ?_; rintro e w18 ⟨rfl, b⟩
  have F19 : Fr w.heap.size w.heap.size W16 w18 := Fr.ofBelow b
  replace BB := F19.below BB (by omega) (by omega)
  replace p := p.fr F19 (fun j hj => by have := jp j hj; omega) (fun n hn j hj => by have := sp n hn j hj; omega)
  replace Rp := F19.rs Rp (by omega)
  replace Rq := F19.rs Rq (by omega)
  replace Q := Q.fr F19 (fun j hj => by have := jQ j hj; omega) (fun n hn j hj => by have := sQ n hn j hj; omega)
  replace s := s.fr F19 (fun j hj => by have := js j hj; omega) (fun n hn j hj => by have := ss n hn j hj; omega)
  replace Rs := F19.rs Rs (by omega)
  have SF19 := F19.size
  clear b F19
  clear dp0 dp1 dp2
  clear ds0 ds1 ds2
  clear hW16
  have dq0 := Rq 0 _ rfl
  have dq1 := Rq 1 _ rfl
  have dq2 := Rq 2 _ rfl
  go_wp2_with fail
  refine (heldHunksResult _ _ _ _ 1 L _ (by omega) hLm2 (HO.read (c := qc) (by rw [hMl]; exact Q) hMf)).mono ?_; rintro e w20 ⟨rfl, b⟩
  rw [hM]
  clear dq0 dq1 dq2
  have F21 : Fr w.heap.size w.heap.size w18 w20 := Fr.ofBelow b
  replace BB := F21.below BB (by omega) (by omega)
  replace p := p.fr F21 (fun j hj => by have := jp j hj; omega) (fun n hn j hj => by have := sp n hn j hj; omega)
  replace Rp := F21.rs Rp (by omega)
  replace Rq := F21.rs Rq (by omega)
  replace Q := Q.fr F21 (fun j hj => by have := jQ j hj; omega) (fun n hn j hj => by have := sQ n hn j hj; omega)
  replace s := s.fr F21 (fun j hj => by have := js j hj; omega) (fun n hn j hj => by have := ss n hn j hj; omega)
  replace Rs := F21.rs Rs (by omega)
  have SF21 := F21.size
  clear b F21
  go_wp2_with fail
  go_ret
  exact ⟨rfl, BB⟩

set_option linter.unusedVariables false
theorem laidOut : laidOutB Tryd.prog = true := by kernel_rfl
theorem own : ownKnob Tryd.prog.godebug = none := by kernel_rfl
set_option maxRecDepth 100000 in
theorem lifted (os : Os) (started : os.Started) (H : Type) (enc : TypeId × Value → H) :
    ReturnsInHanded {} Tryd.checked os 4 .any (fun w args => (Rows.fnExactParsePatchSpec.pre enc Tryd.prog Tryd.f4 [] false w args ∧ laidMetH Tryd.prog Rows.fnExactParsePatchRow.laid w) ∧ sizedMet enc Tryd.prog Tryd.f4 (OpenSpec.ofChange Rows.fnExactParsePatchSpec) false w args)
      (Rows.fnExactParsePatchSpec.post enc Tryd.prog Tryd.f4 false true false false) := by
  refine returnsInHanded_of_change_and (C := Tryd.checked) (X := fun w _ => laidMetH Tryd.prog Rows.fnExactParsePatchRow.laid w) (fun _ _ _ hh h => h.of_heap hh) own started (by kernel_rfl) Tryd.func4
    (ChangeSpec.witness_shaped (enc := enc) (C := Tryd.checked) (os := os) (X := fun w _ => laidMetH Tryd.prog Rows.fnExactParsePatchRow.laid w) false (World.laidAll Tryd.prog os Rows.fnExactParsePatchRow.laid) #[.string ByteArray.empty] 8 (World.laidAll_os _ _ _) (World.shaped_of_ZipB (by kernel_rfl) (by kernel_rfl)) (by kernel_rfl) (by kernel_rfl) (by kernel_rfl) (by rw [MakeChecks.laidMetH_plain _ _ _ (by kernel_rfl)]; exact laidMet_laidAll _ (by kernel_rfl) (by kernel_rfl))) ?_
  intro W base args ds gs before hval0 hW _ _ hL _
  have hval : ∀ (j : Nat) t v, Tryd.f4.params[j]? = some t → args[j]? = some v → Value.okWide Tryd.prog W .any base t v := hval0
  have hW' := hW
  obtain ⟨p, q, hA0, hV0, rfl, hfz, hnd⟩ := hW
  have hA : DataW.TrodAll enc Tryd.prog W 0 (fun _ => true) true Tryd.f4.params.toList args.toList ds p := hA0
  have hV : DataW.TrodVars enc Tryd.prog W (fun _ => true) ["loop.example/g00172/impl.errUnreadable"] gs q := hV0
  rw [Tryd.params4] at hA hval
  obtain ⟨v0, vs0, d0, ds0, p0, q0, hargs, rfl, rfl, h0, r0⟩ := trodAll_cons hA
  obtain ⟨rfl, rfl, rfl⟩ := trodAll_nil r0
  obtain rfl : args = #[v0] := by cases args; simp_all
  obtain ⟨g1, hg1⟩ : ∃ g1, gs = [g1] := by
    obtain ⟨_, _, _, _, d, _, e, _⟩ := trodVars_one hV
    exact ⟨d, e⟩
  subst hg1
  obtain ⟨a0, rfl, rfl, rfl, w0⟩ := open_string Tryd.underlying9 (hval 0 9 v0 rfl rfl) h0
  obtain ⟨hTa, hUn, hPe, hGG⟩ := pq_laid hL
  clear hA0 hval0
  refine (walk a0 W hTa hUn hPe hGG).mono fun e W' ⟨he, bel⟩ => ?_
  subst he
  exact ⟨_, rfl, _, _, _, [], _, _, hW', trodAll_mk1 (shut_bool Tryd.underlying4 _), (trodAll_cons_mk (shut_string Tryd.underlying9 w0) trodAll_mk0), Below.trodVars laidOut bel (by kernel_rfl) hV, bel.frame _, fun h => by cases h⟩

theorem over : Rows.fnExactParsePatchRow.holds Tryd.pinned (OpenSpec.ofChange Rows.fnExactParsePatchSpec) :=
  OpenClaim.holds_of_wide 4 Tryd.f4 rfl rfl rfl rfl rfl rfl rfl ⟨rfl, rfl, rfl, rfl, rfl⟩ rfl rfl rfl rfl rfl (by kernel_rfl) Tryd.func4 (by kernel_rfl)
    (of_decide_eq_true (by kernel_rfl)) (by unfold Func.isWrapper; first | (rw [if_pos (by decide +kernel)]; kernel_rfl) | (rw [if_neg (by decide +kernel)]; exact ⟨rfl, rfl⟩))
    (fun os started H enc _ => lifted os started H enc)

theorem proved : Rows.FnExactParsePatchCardSaid :=
  Claim7.holds_tied_plain_at .later [] [.data, .data, .data, .data, .sentinel, .sentinel, .sentinel, .pinned] true _ true
    over (fun _ h => by cases h) (by kernel_rfl) (fun _ h => by cases h) fnExactParsePatch_row_tie rfl ⟨rfl, rfl⟩ (by kernel_rfl) rfl
    (fun f fn hf hfn => by
      obtain rfl : f = 4 := Option.some.inj ((show Tryd.prog.funcNamed "loop.example/g00172/laws.FnExactParsePatch" = some 4 by kernel_rfl).symm.trans hf) |>.symm
      obtain rfl : fn = Tryd.f4 := (Option.some.inj (Tryd.func4.symm.trans hfn)).symm
      exact ⟨by kernel_rfl, fun j t ht => by
        rw [Tryd.params4] at ht
        have hm : t ∈ [9] := by simpa using Array.mem_of_getElem? ht
        have hall : ([9].all fun u => !Tryd.prog.wantsStandIn u) = true := by kernel_rfl
        exact (show Tryd.prog.wantsStandIn t = false by simpa using List.all_eq_true.1 hall t hm)⟩)
    (by kernel_rfl)
end Go.Proofs.YtbghdelpnodijaaDoor.PpLaw
namespace Go.Proofs.YtbghdelpnodijaaDoor
theorem fnExactParsePatch_proved : Rows.FnExactParsePatchCardSaid := PpLaw.proved
end Go.Proofs.YtbghdelpnodijaaDoor
