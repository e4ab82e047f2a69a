/- Proved: at every index, every two texts and every number FnExactResolvePath returns true (ResolvePath answers as its specification, field by field; its answer owns its memory, behind another call too; no argument is changed); the card itself. -/
import Derived.Test.YtmeppbfamjeljaaDoorRows
import Derived.Test.YtmeppbfamjeljaaDoorLemQ
import Derived.Test.YtmeppbfamjeljaaDoorMarksQ
import Derived.Test.YtmeppbfamjeljaaDoorDTabQ
import Derived.Test.YtmeppbfamjeljaaDoorHkTQ
import Derived.Test.YtmeppbfamjeljaaDoorFlLQ
import Derived.Test.YtmeppbfamjeljaaDoorFlTQ
import Derived.Test.YtmeppbfamjeljaaDoorFlMQ
import Derived.Test.YtmeppbfamjeljaaDoorEnLQ
import Derived.Test.YtmeppbfamjeljaaDoorEnTQ
import Derived.Test.YtmeppbfamjeljaaDoorEnMQ
import Derived.Test.YtmeppbfamjeljaaDoorOpEQ
import Derived.Test.YtmeppbfamjeljaaDoorIxMQ
import Derived.Test.YtmeppbfamjeljaaDoorIxIQ
import Derived.Test.YtmeppbfamjeljaaDoorIxSQ
import Derived.Test.YtmeppbfamjeljaaDoorTie
import Derived.Test.YtmeppbfamjeljaaDoorCards
import Derived.Test.YtmeppbfamjeljaaDoorSgCQ
import Derived.Test.YtmeppbfamjeljaaDoorSgDQ
import Derived.Test.YtmeppbfamjeljaaDoorSlBQ
import Derived.Test.YtmeppbfamjeljaaDoorSlDQ
import Derived.Test.YtmeppbfamjeljaaDoorIxNQ
import Derived.Test.YtmeppbfamjeljaaDoorCpKQ
import Derived.Test.YtmeppbfamjeljaaDoorInEQ
import Derived.Test.YtmeppbfamjeljaaDoorSlEQ
import Derived.Test.YtmeppbfamjeljaaDoorSwMQ
import Derived.Test.YtmeppbfamjeljaaDoorSwCQ
import Derived.Test.YtmeppbfamjeljaaDoorSwSQ
import Derived.Test.YtmeppbfamjeljaaDoorRsDQ
import Derived.Test.YtmeppbfamjeljaaDoorRsSQ
import Derived.WalkKit
import Derived.ProofKit
import Derived.OpenShut
import Derived.Below
import Derived.Carry
import Derived.ShutString
import Derived.ChangeVars
import Derived.OpenVars
import Derived.LaidMore
import Derived.Lay
import Derived.SevenTiedAt
import Derived.Stop.Joined
import Derived.JoinedOf
namespace Go.Proofs.YtmeppbfamjeljaaDoor.RsLaw
open Go.ChangeShapes Go.WideShapes Go.ChangeAt Go.RowKit
open Go.ChangeMaps (open_string shut_string)

theorem shapeO {w : World} {base : Nat} {e : TypeId} {s : Nat} {v : Value} {n : Nat} {xs : List Value} (h : w.ownsRow base e s v n xs) : ∃ a c, v = .slice a n c := by
  rcases h.2 with ⟨h', h0'⟩ | ⟨g, c, cur, h', _⟩
  · exact ⟨none, 0, by rw [h', h0']⟩
  · exact ⟨_, _, h'⟩
theorem rs_len {l : List En.Ob} {p : ByteArray} {m : Int} {i : ByteArray} : (En.rsL l p m i).length ≤ 1048576 := by
  unfold En.rsL
  split
  · rename_i h
    have h2 := (En.ixf_zero h.1).1
    have h3 := En.rsF_all l p
    unfold En.rsU
    split
    · omega
    · rw [En.insL_length _ _ _ (En.pe_le _ _)]; omega
  · simp
theorem ownOne (b n cap : Nat) : ∀ j, (Value.slice (some ⟨b, 0, none⟩) n cap).ownBlock = some j → b ≤ j ∧ j < b + 1 := by
  intro j hj
  have e : b = j := by simpa [Value.ownBlock] using hj
  omega
set_option maxRecDepth 20000 in
set_option maxHeartbeats 4000000 in
theorem walk (a1 : Option Addr) (c1 : Nat) (l1o : List En.Ob) (d : ByteArray) (st : Int) (d2 : ByteArray) (w : World) (h1 : En.OB w.heap.size w a1 l1o) (hf1 : En.FitsO l1o) (n1 : l1o.length ≤ 9223372036854775807) :
    Calls Tryd.prog 4 #[.slice a1 l1o.length c1, .string d, .int .i64 st, .string d2] w fun e w' => e = .returned (.bool true) ∧ Below w.heap.size w w' := by
  have BB := Below.refl w.heap.size w
  by_cases hbig : (1048576 : Int) < (d.size : Int)
  · go_enter Tryd.func4, Tryd.ntmps4
    go_wp2
    go_ret
    exact ⟨rfl, BB⟩
  by_cases hbig : (1048576 : Int) < (d2.size : Int)
  · go_enter Tryd.func4, Tryd.ntmps4
    go_wp2
    go_ret
    exact ⟨rfl, BB⟩
  have A1 := h1
  clear h1
  obtain ⟨Q1, hQ1⟩ : ∃ Q, En.leftO 1048576 l1o = Q := ⟨_, rfl⟩
  have HQ1 : Hid (En.leftO 1048576 l1o = Q1) := hQ1
  have hZ1 := fun W h => En.szEntryS a1 c1 l1o 1048576 W h hf1 n1 (by omega) (by omega)
  rw [hQ1] at hZ1
  by_cases hx1 : Q1 < 0
  · clear hQ1
    go_enter Tryd.func4, Tryd.ntmps4
    go_wp2_with fail
    refine (hZ1 _ (A1.mono (by omega))).mono ?_; rintro e w1 ⟨rfl, b⟩
    have F2 : Fr w.heap.size w.heap.size w w1 := Fr.ofBelow b
    replace A1 := A1.fr F2 (.inl (by omega))
    replace BB := F2.below BB (by omega) (by omega)
    have SF2 := F2.size
    clear b F2
    go_wp2_with fail
    go_ret
    exact ⟨rfl, BB⟩
  have hq1a : 0 ≤ Q1 := by omega
  have hq1b : Q1 ≤ 1048576 := by have hb := En.leftO_bd (l := l1o) (n := 1048576) (by rw [HQ1.out]; exact hx1); rw [HQ1.out] at hb; have := Int.le_refl (1048576 : Int); omega
  have hx1' : ¬ En.leftO 1048576 l1o < 0 := by rw [hQ1]; exact hx1
  obtain ⟨hs1, l1⟩ := En.leftO_nums hx1' (by omega)
  clear hQ1
  have hd : d.size ≤ 1048576 := by omega
  have hd2 : d2.size ≤ 1048576 := by omega
  have hS : ∀ (a1 : Option Addr) (c1 : Nat) W, En.OB W.heap.size W a1 l1o → Calls Tryd.prog 11 #[.slice a1 l1o.length c1, .string d, .int .i64 st, .string d2] W fun e w' => En.EP (En.rsC l1o d st d2) 0 (En.rsL l1o d st d2) W e w' := fun a1 c1 W h1 => En.specResolvePath a1 c1 l1o d st d2 W h1 hs1 (by omega) hd hd2
  have hI : ∀ (a1 : Option Addr) (c1 : Nat) W, En.OB W.heap.size W a1 l1o → Calls Tryd.prog 7 #[.slice a1 l1o.length c1, .string d, .int .i64 st, .string d2] W fun e w' => En.EP (En.rsC l1o d st d2) 0 (En.rsL l1o d st d2) W e w' := fun a1 c1 W h1 => En.implResolvePath a1 c1 l1o d st d2 W h1 hs1 (by omega) hd hd2
  have hLn : (En.rsL l1o d st d2).length ≤ 1048576 := rs_len
  unfold En.EP at hS hI
  obtain ⟨r, hrr⟩ : ∃ r, En.rsC l1o d st d2 = r := ⟨_, rfl⟩
  obtain ⟨z, hzz⟩ : ∃ z : Int, 0 = z := ⟨_, rfl⟩
  obtain ⟨L, hL⟩ : ∃ L, En.rsL l1o d st d2 = L := ⟨_, rfl⟩
  rw [hrr, hL, hzz] at hS hI
  rw [hL] at hLn
  clear hrr hL hzz hx1'
  go_enter Tryd.func4, Tryd.ntmps4
  go_wp2_with fail
  refine (hZ1 _ (A1.mono (by omega))).mono ?_; rintro e w1 ⟨rfl, b⟩
  have F2 : Fr w.heap.size w.heap.size w w1 := Fr.ofBelow b
  replace A1 := A1.fr F2 (.inl (by omega))
  replace BB := F2.below BB (by omega) (by omega)
  have SF2 := F2.size
  clear b F2
  go_wp2_with fail
  refine (En.toEntryS a1 c1 l1o _ (A1.mono (by omega)) l1).mono ?_; rintro e w3 ⟨rfl, x1, b⟩
  have jx1 : ∀ j, (Value.slice (some ⟨w1.heap.size, 0, none⟩) l1o.length l1o.length).ownBlock = some j → w1.heap.size ≤ j ∧ j < w3.heap.size := fun j hj => x1.lt j hj
  have zw3 : w1.heap.size < w3.heap.size := (jx1 _ rfl).2
  have F4 : Fr w.heap.size w.heap.size w1 w3 := Fr.ofBelow b
  replace A1 := A1.fr F4 (.inl (by omega))
  replace BB := F4.below BB (by omega) (by omega)
  have SF4 := F4.size
  clear b F4
  go_wp2_with fail
  refine (hS _ _ _ (En.OB.of x1)).mono ?_; rintro e w5 ⟨vp, rfl, p, bp⟩
  obtain ⟨pa, pc, ep⟩ := shapeO p
  subst ep
  have jp : ∀ j, (Value.slice pa L.length pc).ownBlock = some j → w3.heap.size ≤ j ∧ j < w5.heap.size := fun j hj => p.lt j hj
  have F6 : Fr w.heap.size w.heap.size w3 w5 := Fr.ofBelow bp
  replace A1 := A1.fr F6 (.inl (by omega))
  replace BB := F6.below BB (by omega) (by omega)
  replace x1 := F6.own x1 (fun j hj => by have := jx1 j hj; omega)
  have SF6 := F6.size
  clear bp F6
  clear x1 jx1
  obtain ⟨W7, hW7⟩ : ∃ W, w5.alloc (.cells #[.int .i64 r, .int .i64 z, .slice pa L.length pc] 28) = W := ⟨_, rfl⟩
  have Rp : Rs W7 w5.heap.size [.int .i64 r, .int .i64 z, .slice pa L.length pc] := by rw [← hW7]; exact Rs.new _ _ _
  have F8 : Fr w.heap.size w.heap.size w5 W7 := by rw [← hW7]; exact Fr.ofAlloc _ _
  have zW7 : w5.heap.size < W7.heap.size := by rw [← hW7]; simp
  replace A1 := A1.fr F8 (.inl (by omega))
  replace BB := F8.below BB (by omega) (by omega)
  replace p := F8.own p (fun j hj => by have := jp j hj; omega)
  have SF8 := F8.size
  clear F8
  go_wp2_with fail
  refine (En.toEntryS a1 c1 l1o _ (A1.mono (by omega)) l1).mono ?_; rintro e w9 ⟨rfl, X1, b⟩
  have jX1 : ∀ j, (Value.slice (some ⟨W7.heap.size, 0, none⟩) l1o.length l1o.length).ownBlock = some j → W7.heap.size ≤ j ∧ j < w9.heap.size := fun j hj => X1.lt j hj
  have zw9 : W7.heap.size < w9.heap.size := (jX1 _ rfl).2
  have F10 : Fr w.heap.size w.heap.size W7 w9 := Fr.ofBelow b
  replace A1 := A1.fr F10 (.inl (by omega))
  replace BB := F10.below BB (by omega) (by omega)
  replace p := F10.own p (fun j hj => by have := jp j hj; omega)
  replace Rp := F10.rs Rp (by omega)
  have SF10 := F10.size
  clear b F10
  clear hW7
  go_wp2_with fail
  refine (hI _ _ _ (En.OB.of X1)).mono ?_; rintro e w11 ⟨vq, rfl, q, bq⟩
  obtain ⟨qa, qc, eq⟩ := shapeO q
  subst eq
  have jq : ∀ j, (Value.slice qa L.length qc).ownBlock = some j → w9.heap.size ≤ j ∧ j < w11.heap.size := fun j hj => q.lt j hj
  have F12 : Fr w.heap.size w.heap.size w9 w11 := Fr.ofBelow bq
  replace A1 := A1.fr F12 (.inl (by omega))
  replace BB := F12.below BB (by omega) (by omega)
  replace p := F12.own p (fun j hj => by have := jp j hj; omega)
  replace Rp := F12.rs Rp (by omega)
  replace X1 := F12.own X1 (fun j hj => by have := jX1 j hj; omega)
  have SF12 := F12.size
  clear bq F12
  obtain ⟨W13, hW13⟩ : ∃ W, w11.alloc (.cells #[.int .i64 r, .int .i64 z, .slice qa L.length qc] 28) = W := ⟨_, rfl⟩
  have Rq : Rs W13 w11.heap.size [.int .i64 r, .int .i64 z, .slice qa L.length qc] := by rw [← hW13]; exact Rs.new _ _ _
  have F14 : Fr w.heap.size w.heap.size w11 W13 := by rw [← hW13]; exact Fr.ofAlloc _ _
  have zW13 : w11.heap.size < W13.heap.size := by rw [← hW13]; simp
  replace A1 := A1.fr F14 (.inl (by omega))
  replace BB := F14.below BB (by omega) (by omega)
  replace p := F14.own p (fun j hj => by have := jp j hj; omega)
  replace Rp := F14.rs Rp (by omega)
  replace X1 := F14.own X1 (fun j hj => by have := jX1 j hj; omega)
  replace q := F14.own q (fun j hj => by have := jq j hj; omega)
  have SF14 := F14.size
  clear F14
  have dp0 := Rp 0 _ rfl
  have dp1 := Rp 1 _ rfl
  have dp2 := Rp 2 _ rfl
  have dq0 := Rq 0 _ rfl
  have dq1 := Rq 1 _ rfl
  have dq2 := Rq 2 _ rfl
  go_wp2_with fail
  refine (En.eqEntriesResult _ _ _ _ _ _ L _ (En.OB.of q) (En.OB.of p) (by omega)).mono ?_; rintro e w15 ⟨rfl, b⟩
  have F16 : Fr w.heap.size w.heap.size W13 w15 := Fr.ofBelow b
  replace A1 := A1.fr F16 (.inl (by omega))
  replace BB := F16.below BB (by omega) (by omega)
  replace p := F16.own p (fun j hj => by have := jp j hj; omega)
  replace Rp := F16.rs Rp (by omega)
  replace X1 := F16.own X1 (fun j hj => by have := jX1 j hj; omega)
  replace q := F16.own q (fun j hj => by have := jq j hj; omega)
  replace Rq := F16.rs Rq (by omega)
  have SF16 := F16.size
  clear b F16
  clear dp0 dp1 dp2
  clear dq0 dq1 dq2
  clear hW13
  go_wp2_with fail
  refine (En.toEntryS a1 c1 l1o _ (A1.mono (by omega)) l1).mono ?_; rintro e w17 ⟨rfl, y, b⟩
  have jy : ∀ j, (Value.slice (some ⟨w15.heap.size, 0, none⟩) l1o.length l1o.length).ownBlock = some j → w15.heap.size ≤ j ∧ j < w17.heap.size := fun j hj => y.lt j hj
  have zw17 : w15.heap.size < w17.heap.size := (jy _ rfl).2
  have F18 : Fr w.heap.size w.heap.size w15 w17 := Fr.ofBelow b
  replace A1 := A1.fr F18 (.inl (by omega))
  replace BB := F18.below BB (by omega) (by omega)
  replace p := F18.own p (fun j hj => by have := jp j hj; omega)
  replace Rp := F18.rs Rp (by omega)
  replace X1 := F18.own X1 (fun j hj => by have := jX1 j hj; omega)
  replace q := F18.own q (fun j hj => by have := jq j hj; omega)
  replace Rq := F18.rs Rq (by omega)
  have SF18 := F18.size
  clear b F18
  go_wp2_with fail
  refine (En.eqEntryS _ _ _ _ l1o _ (En.OB.of X1) (En.OB.of y) l1).mono ?_; rintro e w19 ⟨rfl, b⟩
  clear y jy
  have F20 : Fr w.heap.size w.heap.size w17 w19 := Fr.ofBelow b
  replace A1 := A1.fr F20 (.inl (by omega))
  replace BB := F20.below BB (by omega) (by omega)
  replace p := F20.own p (fun j hj => by have := jp j hj; omega)
  replace Rp := F20.rs Rp (by omega)
  replace X1 := F20.own X1 (fun j hj => by have := jX1 j hj; omega)
  replace q := F20.own q (fun j hj => by have := jq j hj; omega)
  replace Rq := F20.rs Rq (by omega)
  have SF20 := F20.size
  clear b F20
  go_wp2_with fail
  refine (En.markEntryS _ _ _ _ (1) _ _ (by omega) (by omega) X1).mono ?_; rintro e w21 ⟨rfl, o, gg⟩
  have F22 : Fr W7.heap.size (W7.heap.size + 1) w19 w21 := Fr.ofGrown gg (ownOne _ _ _)
  clear o gg X1
  replace A1 := A1.fr F22 (.inl (by omega))
  replace BB := F22.below BB (by omega) (by omega)
  replace p := F22.own p (fun j hj => by have := jp j hj; omega)
  replace Rp := F22.rs Rp (by omega)
  replace q := F22.own q (fun j hj => by have := jq j hj; omega)
  replace Rq := F22.rs Rq (by omega)
  have SF22 := F22.size
  clear F22 jX1
  obtain ⟨K, hK⟩ : ∃ K : Int, ((1 + 4 * l1o.length : Nat) : Int) = K := ⟨_, rfl⟩
  have hK0 : ¬ K < 0 := by omega
  rw [hK]
  clear hK
  have dp0 := Rp 0 _ rfl
  have dp1 := Rp 1 _ rfl
  have dp2 := Rp 2 _ rfl
  have dq0 := Rq 0 _ rfl
  have dq1 := Rq 1 _ rfl
  have dq2 := Rq 2 _ rfl
  go_wp2_with fail
  refine (En.eqEntriesResult _ _ _ _ _ _ L _ (En.OB.of q) (En.OB.of p) (by omega)).mono ?_; rintro e w23 ⟨rfl, b⟩
  have F24 : Fr w.heap.size w.heap.size w21 w23 := Fr.ofBelow b
  replace A1 := A1.fr F24 (.inl (by omega))
  replace BB := F24.below BB (by omega) (by omega)
  replace p := F24.own p (fun j hj => by have := jp j hj; omega)
  replace Rp := F24.rs Rp (by omega)
  replace q := F24.own q (fun j hj => by have := jq j hj; omega)
  replace Rq := F24.rs Rq (by omega)
  have SF24 := F24.size
  clear b F24
  clear dp0 dp1 dp2
  clear dq0 dq1 dq2
  have dq0 := Rq 0 _ rfl
  have dq1 := Rq 1 _ rfl
  have dq2 := Rq 2 _ rfl
  go_wp2_with fail
  refine (En.markEntriesResult w9.heap.size w11.heap.size _ _ _ L.length _ 1 _ _ (by omega) (by omega) q (fun j hj => (jq j hj).2)).mono ?_; rintro e w25 ⟨rfl, Q, FM⟩
  clear q
  clear dq0 dq1 dq2
  replace A1 := A1.fr FM (.inl (by omega))
  replace BB := FM.below BB (by omega) (by omega)
  replace p := FM.own p (fun j hj => by have := jp j hj; omega)
  replace Rp := FM.rs Rp (by omega)
  replace Rq := FM.rs Rq (by omega)
  have SFM := FM.size
  clear FM
  have jQ := jq
  obtain ⟨M, hM⟩ : ∃ M : Int, ((1 + 4 * L.length : Nat) : Int) = M := ⟨_, rfl⟩
  have hM0 : ¬ M < 0 := by omega
  have hMM : (M != M) = false := by simp
  rw [hM]
  have dq0 := Rq 0 _ rfl
  have dq1 := Rq 1 _ rfl
  have dq2 := Rq 2 _ rfl
  go_wp2_with fail
  refine (En.heldEntriesResult _ _ _ L.length _ 1 _ (by omega) (by omega) (En.obMk Q)).mono ?_; rintro e w26 ⟨rfl, b⟩
  rw [hM]
  clear dq0 dq1 dq2
  have F27 : Fr w.heap.size w.heap.size w25 w26 := Fr.ofBelow b
  replace A1 := A1.fr F27 (.inl (by omega))
  replace BB := F27.below BB (by omega) (by omega)
  replace p := F27.own p (fun j hj => by have := jp j hj; omega)
  replace Rp := F27.rs Rp (by omega)
  replace Rq := F27.rs Rq (by omega)
  replace Q := F27.own Q (fun j hj => by have := jQ j hj; omega)
  have SF27 := F27.size
  clear b F27
  go_wp2_with fail
  refine (En.toEntryS a1 c1 l1o _ (A1.mono (by omega)) l1).mono ?_; rintro e w28 ⟨rfl, z1, b⟩
  have jz1 : ∀ j, (Value.slice (some ⟨w26.heap.size, 0, none⟩) l1o.length l1o.length).ownBlock = some j → w26.heap.size ≤ j ∧ j < w28.heap.size := fun j hj => z1.lt j hj
  have zw28 : w26.heap.size < w28.heap.size := (jz1 _ rfl).2
  have F29 : Fr w.heap.size w.heap.size w26 w28 := Fr.ofBelow b
  replace A1 := A1.fr F29 (.inl (by omega))
  replace BB := F29.below BB (by omega) (by omega)
  replace p := F29.own p (fun j hj => by have := jp j hj; omega)
  replace Rp := F29.rs Rp (by omega)
  replace Rq := F29.rs Rq (by omega)
  replace Q := F29.own Q (fun j hj => by have := jQ j hj; omega)
  have SF29 := F29.size
  clear b F29
  go_wp2_with fail
  refine (hI _ _ _ (En.OB.of z1)).mono ?_; rintro e w30 ⟨vs, rfl, s, bs⟩
  obtain ⟨sa, sc, es⟩ := shapeO s
  subst es
  have js : ∀ j, (Value.slice sa L.length sc).ownBlock = some j → w28.heap.size ≤ j ∧ j < w30.heap.size := fun j hj => s.lt j hj
  have F31 : Fr w.heap.size w.heap.size w28 w30 := Fr.ofBelow bs
  replace A1 := A1.fr F31 (.inl (by omega))
  replace BB := F31.below BB (by omega) (by omega)
  replace p := F31.own p (fun j hj => by have := jp j hj; omega)
  replace Rp := F31.rs Rp (by omega)
  replace Rq := F31.rs Rq (by omega)
  replace Q := F31.own Q (fun j hj => by have := jQ j hj; omega)
  replace z1 := F31.own z1 (fun j hj => by have := jz1 j hj; omega)
  have SF31 := F31.size
  clear bs F31
  clear z1 jz1
  obtain ⟨W32, hW32⟩ : ∃ W, w30.alloc (.cells #[.int .i64 r, .int .i64 z, .slice sa L.length sc] 28) = W := ⟨_, rfl⟩
  have Rs : Rs W32 w30.heap.size [.int .i64 r, .int .i64 z, .slice sa L.length sc] := by rw [← hW32]; exact Rs.new _ _ _
  have F33 : Fr w.heap.size w.heap.size w30 W32 := by rw [← hW32]; exact Fr.ofAlloc _ _
  have zW32 : w30.heap.size < W32.heap.size := by rw [← hW32]; simp
  replace A1 := A1.fr F33 (.inl (by omega))
  replace BB := F33.below BB (by omega) (by omega)
  replace p := F33.own p (fun j hj => by have := jp j hj; omega)
  replace Rp := F33.rs Rp (by omega)
  replace Rq := F33.rs Rq (by omega)
  replace Q := F33.own Q (fun j hj => by have := jQ j hj; omega)
  replace s := F33.own s (fun j hj => by have := js j hj; omega)
  have SF33 := F33.size
  clear F33
  have dp0 := Rp 0 _ rfl
  have dp1 := Rp 1 _ rfl
  have dp2 := Rp 2 _ rfl
  have ds0 := Rs 0 _ rfl
  have ds1 := Rs 1 _ rfl
  have ds2 := Rs 2 _ rfl
  go_wp2_with fail
  refine (En.eqEntriesResult _ _ _ _ _ _ L _ (En.OB.of s) (En.OB.of p) (by omega)).mono ?_; rintro e w34 ⟨rfl, b⟩
  have F35 : Fr w.heap.size w.heap.size W32 w34 := Fr.ofBelow b
  replace A1 := A1.fr F35 (.inl (by omega))
  replace BB := F35.below BB (by omega) (by omega)
  replace p := F35.own p (fun j hj => by have := jp j hj; omega)
  replace Rp := F35.rs Rp (by omega)
  replace Rq := F35.rs Rq (by omega)
  replace Q := F35.own Q (fun j hj => by have := jQ j hj; omega)
  replace s := F35.own s (fun j hj => by have := js j hj; omega)
  replace Rs := F35.rs Rs (by omega)
  have SF35 := F35.size
  clear b F35
  clear dp0 dp1 dp2
  clear ds0 ds1 ds2
  clear hW32
  have dq0 := Rq 0 _ rfl
  have dq1 := Rq 1 _ rfl
  have dq2 := Rq 2 _ rfl
  go_wp2_with fail
  refine (En.heldEntriesResult _ _ _ L.length _ 1 _ (by omega) (by omega) (En.obMk Q)).mono ?_; rintro e w36 ⟨rfl, b⟩
  rw [hM]
  clear dq0 dq1 dq2
  have F37 : Fr w.heap.size w.heap.size w34 w36 := Fr.ofBelow b
  replace A1 := A1.fr F37 (.inl (by omega))
  replace BB := F37.below BB (by omega) (by omega)
  replace p := F37.own p (fun j hj => by have := jp j hj; omega)
  replace Rp := F37.rs Rp (by omega)
  replace Rq := F37.rs Rq (by omega)
  replace Q := F37.own Q (fun j hj => by have := jQ j hj; omega)
  replace s := F37.own s (fun j hj => by have := js j hj; omega)
  replace Rs := F37.rs Rs (by omega)
  have SF37 := F37.size
  clear b F37
  go_wp2_with fail
  go_ret
  exact ⟨rfl, BB⟩

set_option linter.unusedVariables false
theorem laidOut : laidOutB Tryd.prog = true := by kernel_rfl
theorem own : ownKnob Tryd.prog.godebug = none := by kernel_rfl
set_option maxRecDepth 100000 in
theorem lifted (os : Os) (started : os.Started) (H : Type) (enc : TypeId × Value → H) :
    ReturnsInHanded {} Tryd.checked os 4 .any (fun w args => (Rows.fnExactResolvePathSpec.pre enc Tryd.prog Tryd.f4 [] false w args ∧ laidMetH Tryd.prog Rows.fnExactResolvePathRow.laid w) ∧ sizedMet enc Tryd.prog Tryd.f4 (OpenSpec.ofChange Rows.fnExactResolvePathSpec) false w args)
      (Rows.fnExactResolvePathSpec.post enc Tryd.prog Tryd.f4 false true false false) := by
  refine returnsInHanded_of_change_and (C := Tryd.checked) (X := fun w _ => laidMetH Tryd.prog Rows.fnExactResolvePathRow.laid w) (fun _ _ _ hh h => h.of_heap hh) own started (by kernel_rfl) Tryd.func4
    (ChangeSpec.witness_shaped (enc := enc) (C := Tryd.checked) (os := os) (X := fun w _ => laidMetH Tryd.prog Rows.fnExactResolvePathRow.laid w) false (World.laidAll Tryd.prog os Rows.fnExactResolvePathRow.laid) #[.slice none 0 0, .string ByteArray.empty, .int .i64 0, .string ByteArray.empty] 8 (World.laidAll_os _ _ _) (World.shaped_of_ZipB (by kernel_rfl) (by kernel_rfl)) (by kernel_rfl) (by kernel_rfl) (by kernel_rfl) (by rw [MakeChecks.laidMetH_plain _ _ _ (by kernel_rfl)]; exact laidMet_laidAll _ (by kernel_rfl) (by kernel_rfl))) ?_
  intro W base args ds gs before hval0 hW _ _ hL _
  have hval : ∀ (j : Nat) t v, Tryd.f4.params[j]? = some t → args[j]? = some v → Value.okWide Tryd.prog W .any base t v := hval0
  have hW' := hW
  obtain ⟨p, q, hA0, hV, rfl, hfz, hnd⟩ := hW
  have hA : DataW.TrodAll enc Tryd.prog W 0 (fun _ => true) true Tryd.f4.params.toList args.toList ds p := hA0
  rw [Tryd.params4] at hA hval
  obtain ⟨v0, vs0, d0, ds0, p0, q0, hargs, rfl, rfl, h0, r0⟩ := trodAll_cons hA
  obtain ⟨v1, vs1, d1, ds1, p1, q1, rfl, rfl, rfl, h1, r1⟩ := trodAll_cons r0
  obtain ⟨v2, vs2, d2, ds2, p2, q2, rfl, rfl, rfl, h2, r2⟩ := trodAll_cons r1
  obtain ⟨v3, vs3, d3, ds3, p3, q3, rfl, rfl, rfl, h3, r3⟩ := trodAll_cons r2
  obtain ⟨rfl, rfl, rfl⟩ := trodAll_nil r3
  obtain rfl : args = #[v0, v1, v2, v3] := by cases args; simp_all
  obtain ⟨rfl, rfl⟩ := trodVars_none hV
  obtain ⟨a0, len0, cap0, rfl⟩ := okWide_slice Tryd.underlying45 (hval 0 45 v0 rfl rfl)
  have k0 := h0
  have lt0 : ∀ x ∈ p0, x.block < W.heap.size := by obtain ⟨m, hm⟩ := k0; exact DataW.trod_lt m _ _ _ hm
  obtain ⟨ss0, rfl, w0, ft0, n0⟩ := En.openOB h0
  obtain ⟨x1, rfl, rfl, rfl, w1⟩ := open_string Tryd.underlying9 (hval 1 9 v1 rfl rfl) h1
  obtain ⟨x2, rfl, rfl, rfl, w2⟩ := open_int Tryd.underlying2 (hval 2 2 v2 rfl rfl) h2
  obtain ⟨x3, rfl, rfl, rfl, w3⟩ := open_string Tryd.underlying9 (hval 3 9 v3 rfl rfl) h3
  clear hA0 hval0
  refine (walk a0 cap0 ss0 x1 x2 x3 W w0 ft0 n0).mono fun e W' ⟨he, bel⟩ => ?_
  subst he
  exact ⟨_, rfl, _, _, _, [], _, [], hW', trodAll_mk1 (shut_bool Tryd.underlying4 _), (trodAll_cons_mk (Below.trod laidOut (by kernel_rfl) (of_decide_eq_true (by kernel_rfl)) k0 bel lt0) (trodAll_cons_mk (shut_string Tryd.underlying9 w1) (trodAll_cons_mk (shut_int Tryd.underlying2 w2) (trodAll_cons_mk (shut_string Tryd.underlying9 w3) trodAll_mk0)))), rfl, bel.frame _, fun h => by cases h⟩

theorem over : Rows.fnExactResolvePathRow.holds Tryd.pinned (OpenSpec.ofChange Rows.fnExactResolvePathSpec) :=
  OpenClaim.holds_of_wide 4 Tryd.f4 rfl rfl rfl rfl rfl rfl rfl ⟨rfl, rfl, rfl, rfl, rfl⟩ rfl rfl rfl rfl rfl (by kernel_rfl) Tryd.func4 (by kernel_rfl)
    (of_decide_eq_true (by kernel_rfl)) (by unfold Func.isWrapper; first | (rw [if_pos (by decide +kernel)]; kernel_rfl) | (rw [if_neg (by decide +kernel)]; exact ⟨rfl, rfl⟩))
    (fun os started H enc _ => lifted os started H enc)

theorem proved : Rows.FnExactResolvePathCardSaid :=
  Claim7.holds_tied_plain_at .later [] [.data, .pinned] true _ false
    over (fun _ h => by cases h) (by kernel_rfl) (fun _ h => by cases h) fnExactResolvePath_row_tie rfl ⟨rfl, rfl⟩ (by kernel_rfl) rfl
    (fun f fn hf hfn => by
      obtain rfl : f = 4 := Option.some.inj ((show Tryd.prog.funcNamed "loop.example/g00172/laws.FnExactResolvePath" = some 4 by kernel_rfl).symm.trans hf) |>.symm
      obtain rfl : fn = Tryd.f4 := (Option.some.inj (Tryd.func4.symm.trans hfn)).symm
      exact ⟨by kernel_rfl, fun j t ht => by
        rw [Tryd.params4] at ht
        have hm : t ∈ [45, 9, 2, 9] := by simpa using Array.mem_of_getElem? ht
        have hall : ([45, 9, 2, 9].all fun u => !Tryd.prog.wantsStandIn u) = true := by kernel_rfl
        exact (show Tryd.prog.wantsStandIn t = false by simpa using List.all_eq_true.1 hall t hm)⟩)
    (by kernel_rfl)
end Go.Proofs.YtmeppbfamjeljaaDoor.RsLaw
namespace Go.Proofs.YtmeppbfamjeljaaDoor
theorem fnExactResolvePath_proved : Rows.FnExactResolvePathCardSaid := RsLaw.proved
end Go.Proofs.YtmeppbfamjeljaaDoor
