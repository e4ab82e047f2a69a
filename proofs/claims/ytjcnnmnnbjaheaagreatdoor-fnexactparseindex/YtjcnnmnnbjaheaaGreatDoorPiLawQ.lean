/- Proved: at every text FnExactParseIndex returns true (ParseIndex answers as its specification, field by field; its answer owns its memory, behind another call too). Its condition: the laid variables hold what the row says (the tied card FnExactParseIndexCardSaid). -/
import Derived.Test.YtjcnnmnnbjaheaaGreatDoorRows
import Derived.Test.YtjcnnmnnbjaheaaGreatDoorLemQ
import Derived.Test.YtjcnnmnnbjaheaaGreatDoorMarksQ
import Derived.Test.YtjcnnmnnbjaheaaGreatDoorDTabQ
import Derived.Test.YtjcnnmnnbjaheaaGreatDoorHkTQ
import Derived.Test.YtjcnnmnnbjaheaaGreatDoorFlLQ
import Derived.Test.YtjcnnmnnbjaheaaGreatDoorEnLQ
import Derived.Test.YtjcnnmnnbjaheaaGreatDoorEnTQ
import Derived.Test.YtjcnnmnnbjaheaaGreatDoorEnRQ
import Derived.Test.YtjcnnmnnbjaheaaGreatDoorIxMQ
import Derived.Test.YtjcnnmnnbjaheaaGreatDoorIxIQ
import Derived.Test.YtjcnnmnnbjaheaaGreatDoorIxSQ
import Derived.Test.YtjcnnmnnbjaheaaGreatDoorTie
import Derived.Test.YtjcnnmnnbjaheaaGreatDoorCards
import Derived.Test.YtjcnnmnnbjaheaaGreatDoorSgCQ
import Derived.Test.YtjcnnmnnbjaheaaGreatDoorSlBQ
import Derived.Test.YtjcnnmnnbjaheaaGreatDoorSlDQ
import Derived.Test.YtjcnnmnnbjaheaaGreatDoorIxNQ
import Derived.Test.YtjcnnmnnbjaheaaGreatDoorTrWQ
import Derived.Test.YtjcnnmnnbjaheaaGreatDoorFiCQ
import Derived.Test.YtjcnnmnnbjaheaaGreatDoorPiMQ
import Derived.Test.YtjcnnmnnbjaheaaGreatDoorPiUQ
import Derived.Test.YtjcnnmnnbjaheaaGreatDoorPiIQ
import Derived.WalkKit
import Derived.ProofKit
import Derived.OpenShut
import Derived.Below
import Derived.Carry
import Derived.ShutString
import Derived.ChangeVars
import Derived.OpenVars
import Derived.LaidMore
import Derived.Lay
import Derived.SevenTiedAt
import Derived.Stop.Joined
import Derived.JoinedOf
namespace Go.Proofs.YtjcnnmnnbjaheaaGreatDoor.PiLaw
open Go.ChangeShapes Go.WideShapes Go.ChangeAt Go.RowKit
open Go.ChangeMaps (open_string shut_string)

theorem shapeO {w : World} {base : Nat} {e : TypeId} {s : Nat} {v : Value} {n : Nat} {xs : List Value} (h : w.ownsRow base e s v n xs) : ∃ a c, v = .slice a n c := by
  rcases h.2 with ⟨h', h0'⟩ | ⟨g, c, cur, h', _⟩
  · exact ⟨none, 0, by rw [h', h0']⟩
  · exact ⟨_, _, h'⟩
theorem pe_len {d : ByteArray} (h : d.size ≤ 1048576) : (En.pE d).length ≤ 1048576 := by
  have k := En.pA_len d
  unfold En.pE
  split
  · omega
  · simp
theorem ownOne (b n cap : Nat) : ∀ j, (Value.slice (some ⟨b, 0, none⟩) n cap).ownBlock = some j → b ≤ j ∧ j < b + 1 := by
  intro j hj
  have e : b = j := by simpa [Value.ownBlock] using hj
  omega
set_option maxRecDepth 20000 in
set_option maxHeartbeats 4000000 in
theorem walk (d : ByteArray) (w : World) (hMw : Te.MwG w) (hM0 : 0 < w.heap.size) (hTa : TaG w) (hT0 : 1 < w.heap.size) :
    Calls Tryz.prog 4 #[.string d] w fun e w' => e = .returned (.bool true) ∧ Below w.heap.size w w' := by
  have BB := Below.refl w.heap.size w
  by_cases hbig : (1048576 : Int) < (d.size : Int)
  · go_enter Tryz.func4, Tryz.ntmps4
    go_wp2
    go_ret
    exact ⟨rfl, BB⟩
  have hd : d.size ≤ 1048576 := by omega
  have hS : ∀ W, Calls Tryz.prog 9 #[.string d] W fun e w' => En.EP (En.pC d) (En.pAt d) (En.pE d) W e w' := fun W => En.specParseIndex d W hd
  have hI : ∀ W, Below w.heap.size w W → Calls Tryz.prog 7 #[.string d] W fun e w' => En.EP (En.pC d) (En.pAt d) (En.pE d) W e w' := fun W b => En.implParseIndex d W hd (hMw.below b hM0) (Nat.lt_of_lt_of_le hM0 b.size) (hTa.below b hT0) (Nat.lt_of_lt_of_le hT0 b.size)
  have hLn : (En.pE d).length ≤ 1048576 := pe_len hd
  unfold En.EP at hS hI
  clear hMw hTa hM0 hT0
  obtain ⟨r, hrr⟩ : ∃ r, En.pC d = r := ⟨_, rfl⟩
  obtain ⟨z, hzz⟩ : ∃ z, En.pAt d = z := ⟨_, rfl⟩
  obtain ⟨L, hL⟩ : ∃ L, En.pE d = L := ⟨_, rfl⟩
  rw [hrr, hL, hzz] at hS hI
  rw [hL] at hLn
  clear hrr hL hzz
  go_enter Tryz.func4, Tryz.ntmps4
  go_wp2_with fail
  refine (hS  _ ).mono ?_; rintro e w1 ⟨vp, rfl, p, bp⟩
  obtain ⟨pa, pc, ep⟩ := shapeO p
  subst ep
  have jp : ∀ j, (Value.slice pa L.length pc).ownBlock = some j → w.heap.size ≤ j ∧ j < w1.heap.size := fun j hj => p.lt j hj
  have F2 : Fr w.heap.size w.heap.size w w1 := Fr.ofBelow bp
  replace BB := F2.below BB (by omega) (by omega)
  have SF2 := F2.size
  clear bp F2
  obtain ⟨W3, hW3⟩ : ∃ W, w1.alloc (.cells #[.int .i64 r, .int .i64 z, .slice pa L.length pc] 27) = W := ⟨_, rfl⟩
  have Rp : Rs W3 w1.heap.size [.int .i64 r, .int .i64 z, .slice pa L.length pc] := by rw [← hW3]; exact Rs.new _ _ _
  have F4 : Fr w.heap.size w.heap.size w1 W3 := by rw [← hW3]; exact Fr.ofAlloc _ _
  have zW3 : w1.heap.size < W3.heap.size := by rw [← hW3]; simp
  replace BB := F4.below BB (by omega) (by omega)
  replace p := F4.own p (fun j hj => by have := jp j hj; omega)
  have SF4 := F4.size
  clear F4
  go_wp2_with fail
  refine (hI  _  BB).mono ?_; rintro e w5 ⟨vq, rfl, q, bq⟩
  obtain ⟨qa, qc, eq⟩ := shapeO q
  subst eq
  have jq : ∀ j, (Value.slice qa L.length qc).ownBlock = some j → W3.heap.size ≤ j ∧ j < w5.heap.size := fun j hj => q.lt j hj
  have F6 : Fr w.heap.size w.heap.size W3 w5 := Fr.ofBelow bq
  replace BB := F6.below BB (by omega) (by omega)
  replace p := F6.own p (fun j hj => by have := jp j hj; omega)
  replace Rp := F6.rs Rp (by omega)
  have SF6 := F6.size
  clear bq F6
  obtain ⟨W7, hW7⟩ : ∃ W, w5.alloc (.cells #[.int .i64 r, .int .i64 z, .slice qa L.length qc] 27) = W := ⟨_, rfl⟩
  have Rq : Rs W7 w5.heap.size [.int .i64 r, .int .i64 z, .slice qa L.length qc] := by rw [← hW7]; exact Rs.new _ _ _
  have F8 : Fr w.heap.size w.heap.size w5 W7 := by rw [← hW7]; exact Fr.ofAlloc _ _
  have zW7 : w5.heap.size < W7.heap.size := by rw [← hW7]; simp
  replace BB := F8.below BB (by omega) (by omega)
  replace p := F8.own p (fun j hj => by have := jp j hj; omega)
  replace Rp := F8.rs Rp (by omega)
  replace q := F8.own q (fun j hj => by have := jq j hj; omega)
  have SF8 := F8.size
  clear F8
  have dp0 := Rp 0 _ rfl
  have dp1 := Rp 1 _ rfl
  have dp2 := Rp 2 _ rfl
  have dq0 := Rq 0 _ rfl
  have dq1 := Rq 1 _ rfl
  have dq2 := Rq 2 _ rfl
  go_wp2_with fail
  refine (En.eqEntriesResult _ _ _ _ _ _ L _ (En.OB.of q) (En.OB.of p) (by omega)).mono ?_; rintro e w9 ⟨rfl, b⟩
  have F10 : Fr w.heap.size w.heap.size W7 w9 := Fr.ofBelow b
  replace BB := F10.below BB (by omega) (by omega)
  replace p := F10.own p (fun j hj => by have := jp j hj; omega)
  replace Rp := F10.rs Rp (by omega)
  replace q := F10.own q (fun j hj => by have := jq j hj; omega)
  replace Rq := F10.rs Rq (by omega)
  have SF10 := F10.size
  clear b F10
  clear dp0 dp1 dp2
  clear dq0 dq1 dq2
  clear hW7
  have dq0 := Rq 0 _ rfl
  have dq1 := Rq 1 _ rfl
  have dq2 := Rq 2 _ rfl
  go_wp2_with fail
  refine (En.markEntriesResult W3.heap.size w5.heap.size _ _ _ L.length _ 1 _ _ (by omega) (by omega) q (fun j hj => (jq j hj).2)).mono ?_; rintro e w11 ⟨rfl, Q, FM⟩
  clear q
  clear dq0 dq1 dq2
  replace BB := FM.below BB (by omega) (by omega)
  replace p := FM.own p (fun j hj => by have := jp j hj; omega)
  replace Rp := FM.rs Rp (by omega)
  replace Rq := FM.rs Rq (by omega)
  have SFM := FM.size
  clear FM
  have jQ := jq
  obtain ⟨M, hM⟩ : ∃ M : Int, ((1 + 4 * L.length : Nat) : Int) = M := ⟨_, rfl⟩
  have hM0 : ¬ M < 0 := by omega
  have hMM : (M != M) = false := by simp
  rw [hM]
  have dq0 := Rq 0 _ rfl
  have dq1 := Rq 1 _ rfl
  have dq2 := Rq 2 _ rfl
  go_wp2_with fail
  refine (En.heldEntriesResult _ _ _ L.length _ 1 _ (by omega) (by omega) (En.obMk Q)).mono ?_; rintro e w12 ⟨rfl, b⟩
  rw [hM]
  clear dq0 dq1 dq2
  have F13 : Fr w.heap.size w.heap.size w11 w12 := Fr.ofBelow b
  replace BB := F13.below BB (by omega) (by omega)
  replace p := F13.own p (fun j hj => by have := jp j hj; omega)
  replace Rp := F13.rs Rp (by omega)
  replace Rq := F13.rs Rq (by omega)
  replace Q := F13.own Q (fun j hj => by have := jQ j hj; omega)
  have SF13 := F13.size
  clear b F13
  go_wp2_with fail
  refine (hI  _  BB).mono ?_; rintro e w14 ⟨vs, rfl, s, bs⟩
  obtain ⟨sa, sc, es⟩ := shapeO s
  subst es
  have js : ∀ j, (Value.slice sa L.length sc).ownBlock = some j → w12.heap.size ≤ j ∧ j < w14.heap.size := fun j hj => s.lt j hj
  have F15 : Fr w.heap.size w.heap.size w12 w14 := Fr.ofBelow bs
  replace BB := F15.below BB (by omega) (by omega)
  replace p := F15.own p (fun j hj => by have := jp j hj; omega)
  replace Rp := F15.rs Rp (by omega)
  replace Rq := F15.rs Rq (by omega)
  replace Q := F15.own Q (fun j hj => by have := jQ j hj; omega)
  have SF15 := F15.size
  clear bs F15
  obtain ⟨W16, hW16⟩ : ∃ W, w14.alloc (.cells #[.int .i64 r, .int .i64 z, .slice sa L.length sc] 27) = W := ⟨_, rfl⟩
  have Rs : Rs W16 w14.heap.size [.int .i64 r, .int .i64 z, .slice sa L.length sc] := by rw [← hW16]; exact Rs.new _ _ _
  have F17 : Fr w.heap.size w.heap.size w14 W16 := by rw [← hW16]; exact Fr.ofAlloc _ _
  have zW16 : w14.heap.size < W16.heap.size := by rw [← hW16]; simp
  replace BB := F17.below BB (by omega) (by omega)
  replace p := F17.own p (fun j hj => by have := jp j hj; omega)
  replace Rp := F17.rs Rp (by omega)
  replace Rq := F17.rs Rq (by omega)
  replace Q := F17.own Q (fun j hj => by have := jQ j hj; omega)
  replace s := F17.own s (fun j hj => by have := js j hj; omega)
  have SF17 := F17.size
  clear F17
  have dp0 := Rp 0 _ rfl
  have dp1 := Rp 1 _ rfl
  have dp2 := Rp 2 _ rfl
  have ds0 := Rs 0 _ rfl
  have ds1 := Rs 1 _ rfl
  have ds2 := Rs 2 _ rfl
  go_wp2_with fail
  refine (En.eqEntriesResult _ _ _ _ _ _ L _ (En.OB.of s) (En.OB.of p) (by omega)).mono ?_; rintro e w18 ⟨rfl, b⟩
  have F19 : Fr w.heap.size w.heap.size W16 w18 := Fr.ofBelow b
  replace BB := F19.below BB (by omega) (by omega)
  replace p := F19.own p (fun j hj => by have := jp j hj; omega)
  replace Rp := F19.rs Rp (by omega)
  replace Rq := F19.rs Rq (by omega)
  replace Q := F19.own Q (fun j hj => by have := jQ j hj; omega)
  replace s := F19.own s (fun j hj => by have := js j hj; omega)
  replace Rs := F19.rs Rs (by omega)
  have SF19 := F19.size
  clear b F19
  clear dp0 dp1 dp2
  clear ds0 ds1 ds2
  clear hW16
  have dq0 := Rq 0 _ rfl
  have dq1 := Rq 1 _ rfl
  have dq2 := Rq 2 _ rfl
  go_wp2_with fail
  refine (En.heldEntriesResult _ _ _ L.length _ 1 _ (by omega) (by omega) (En.obMk Q)).mono ?_; rintro e w20 ⟨rfl, b⟩
  rw [hM]
  clear dq0 dq1 dq2
  have F21 : Fr w.heap.size w.heap.size w18 w20 := Fr.ofBelow b
  replace BB := F21.below BB (by omega) (by omega)
  replace p := F21.own p (fun j hj => by have := jp j hj; omega)
  replace Rp := F21.rs Rp (by omega)
  replace Rq := F21.rs Rq (by omega)
  replace Q := F21.own Q (fun j hj => by have := jQ j hj; omega)
  replace s := F21.own s (fun j hj => by have := js j hj; omega)
  replace Rs := F21.rs Rs (by omega)
  have SF21 := F21.size
  clear b F21
  go_wp2_with fail
  go_ret
  exact ⟨rfl, BB⟩

set_option linter.unusedVariables false
theorem laidOut : laidOutB Tryz.prog = true := by kernel_rfl
theorem own : ownKnob Tryz.prog.godebug = none := by kernel_rfl
set_option maxRecDepth 100000 in
theorem lifted (os : Os) (started : os.Started) (H : Type) (enc : TypeId × Value → H) :
    ReturnsInHanded {} Tryz.checked os 4 .any (fun w args => (Rows.fnExactParseIndexSpec.pre enc Tryz.prog Tryz.f4 [] false w args ∧ laidMetH Tryz.prog Rows.fnExactParseIndexRow.laid w) ∧ sizedMet enc Tryz.prog Tryz.f4 (OpenSpec.ofChange Rows.fnExactParseIndexSpec) false w args)
      (Rows.fnExactParseIndexSpec.post enc Tryz.prog Tryz.f4 false true false false) := by
  refine returnsInHanded_of_change_and (C := Tryz.checked) (X := fun w _ => laidMetH Tryz.prog Rows.fnExactParseIndexRow.laid w) (fun _ _ _ hh h => h.of_heap hh) own started (by kernel_rfl) Tryz.func4
    (ChangeSpec.witness_shaped (enc := enc) (C := Tryz.checked) (os := os) (X := fun w _ => laidMetH Tryz.prog Rows.fnExactParseIndexRow.laid w) false (World.laidAll Tryz.prog os Rows.fnExactParseIndexRow.laid) #[.string ByteArray.empty] 8 (World.laidAll_os _ _ _) (World.shaped_of_ZipB (by kernel_rfl) (by kernel_rfl)) (by kernel_rfl) (by kernel_rfl) (by kernel_rfl) (by rw [MakeChecks.laidMetH_plain _ _ _ (by kernel_rfl)]; exact laidMet_laidAll _ (by kernel_rfl) (by kernel_rfl))) ?_
  intro W base args ds gs before hval0 hW _ _ hL _
  have hval : ∀ (j : Nat) t v, Tryz.f4.params[j]? = some t → args[j]? = some v → Value.okWide Tryz.prog W .any base t v := hval0
  have hW' := hW
  obtain ⟨p, q, hA0, hV0, rfl, hfz, hnd⟩ := hW
  have hA : DataW.TrodAll enc Tryz.prog W 0 (fun _ => true) true Tryz.f4.params.toList args.toList ds p := hA0
  have hV : DataW.TrodVars enc Tryz.prog W (fun _ => true) ["loop.example/g00172/impl.modeWords"] gs q := hV0
  rw [Tryz.params4] at hA hval
  obtain ⟨v0, vs0, d0, ds0, p0, q0, hargs, rfl, rfl, h0, r0⟩ := trodAll_cons hA
  obtain ⟨rfl, rfl, rfl⟩ := trodAll_nil r0
  obtain rfl : args = #[v0] := by cases args; simp_all
  obtain ⟨g1, hg1⟩ : ∃ g1, gs = [g1] := by
    obtain ⟨_, _, _, _, d, _, e, _⟩ := trodVars_one hV
    exact ⟨d, e⟩
  subst hg1
  obtain ⟨a0, rfl, rfl, rfl, w0⟩ := open_string Tryz.underlying9 (hval 0 9 v0 rfl rfl) h0
  obtain ⟨hTa, hMw⟩ := Xt.pi_laid hL
  clear hA0 hval0
  refine (walk a0 W hMw (cellLt hMw.1) hTa (Xt.cellLtTa hTa)).mono fun e W' ⟨he, bel⟩ => ?_
  subst he
  exact ⟨_, rfl, _, _, _, [], _, _, hW', trodAll_mk1 (shut_bool Tryz.underlying4 _), (trodAll_cons_mk (shut_string Tryz.underlying9 w0) trodAll_mk0), Below.trodVars laidOut bel (by kernel_rfl) hV, bel.frame _, fun h => by cases h⟩

theorem over : Rows.fnExactParseIndexRow.holds Tryz.pinned (OpenSpec.ofChange Rows.fnExactParseIndexSpec) :=
  OpenClaim.holds_of_wide 4 Tryz.f4 rfl rfl rfl rfl rfl rfl rfl ⟨rfl, rfl, rfl, rfl, rfl⟩ rfl rfl rfl rfl rfl (by kernel_rfl) Tryz.func4 (by kernel_rfl)
    (of_decide_eq_true (by kernel_rfl)) (by unfold Func.isWrapper; first | (rw [if_pos (by decide +kernel)]; kernel_rfl) | (rw [if_neg (by decide +kernel)]; exact ⟨rfl, rfl⟩))
    (fun os started H enc _ => lifted os started H enc)

theorem proved : Rows.FnExactParseIndexCardSaid :=
  Claim7.holds_tied_plain_at .later [] [.data, .data, .data, .data, .data, .pinned] true _ false
    over (fun _ h => by cases h) (by kernel_rfl) (fun _ h => by cases h) fnExactParseIndex_row_tie rfl ⟨rfl, rfl⟩ (by kernel_rfl) rfl
    (fun f fn hf hfn => by
      obtain rfl : f = 4 := Option.some.inj ((show Tryz.prog.funcNamed "loop.example/g00172/laws.FnExactParseIndex" = some 4 by kernel_rfl).symm.trans hf) |>.symm
      obtain rfl : fn = Tryz.f4 := (Option.some.inj (Tryz.func4.symm.trans hfn)).symm
      exact ⟨by kernel_rfl, fun j t ht => by
        rw [Tryz.params4] at ht
        have hm : t ∈ [9] := by simpa using Array.mem_of_getElem? ht
        have hall : ([9].all fun u => !Tryz.prog.wantsStandIn u) = true := by kernel_rfl
        exact (show Tryz.prog.wantsStandIn t = false by simpa using List.all_eq_true.1 hall t hm)⟩)
    (by kernel_rfl)
end Go.Proofs.YtjcnnmnnbjaheaaGreatDoor.PiLaw
namespace Go.Proofs.YtjcnnmnnbjaheaaGreatDoor
theorem fnExactParseIndex_proved : Rows.FnExactParseIndexCardSaid := PiLaw.proved
end Go.Proofs.YtjcnnmnnbjaheaaGreatDoor
