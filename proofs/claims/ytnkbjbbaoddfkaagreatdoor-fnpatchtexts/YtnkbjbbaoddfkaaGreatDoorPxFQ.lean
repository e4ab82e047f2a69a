/- Proved: at every code FnPatchTexts returns true (a patch that is read is written as it was, and hunks that are written are read back); the card itself. -/
import Derived.Test.YtnkbjbbaoddfkaaGreatDoorRows
import Derived.Test.YtnkbjbbaoddfkaaGreatDoorLemQ
import Derived.Test.YtnkbjbbaoddfkaaGreatDoorMarksQ
import Derived.Test.YtnkbjbbaoddfkaaGreatDoorLFLemQ
import Derived.Test.YtnkbjbbaoddfkaaGreatDoorDTabQ
import Derived.Test.YtnkbjbbaoddfkaaGreatDoorSameCQ
import Derived.Test.YtnkbjbbaoddfkaaGreatDoorHkLQ
import Derived.Test.YtnkbjbbaoddfkaaGreatDoorHkCQ
import Derived.Test.YtnkbjbbaoddfkaaGreatDoorHkTQ
import Derived.Test.YtnkbjbbaoddfkaaGreatDoorHfCQ
import Derived.Test.YtnkbjbbaoddfkaaGreatDoorHnLQ
import Derived.Test.YtnkbjbbaoddfkaaGreatDoorHrRQ
import Derived.Test.YtnkbjbbaoddfkaaGreatDoorFiCQ
import Derived.Test.YtnkbjbbaoddfkaaGreatDoorGdMQ
import Derived.Test.YtnkbjbbaoddfkaaGreatDoorFpSQ
import Derived.Test.YtnkbjbbaoddfkaaGreatDoorFpWQ
import Derived.Test.YtnkbjbbaoddfkaaGreatDoorFpTQ
import Derived.Test.YtnkbjbbaoddfkaaGreatDoorPpRQ
import Derived.Test.YtnkbjbbaoddfkaaGreatDoorPqTQ
import Derived.Test.YtnkbjbbaoddfkaaGreatDoorPqNQ
import Derived.Test.YtnkbjbbaoddfkaaGreatDoorPqBQ
import Derived.Test.YtnkbjbbaoddfkaaGreatDoorPqPQ
import Derived.Test.YtnkbjbbaoddfkaaGreatDoorPqRQ
import Derived.Test.YtnkbjbbaoddfkaaGreatDoorPxGQ
import Derived.Test.YtnkbjbbaoddfkaaGreatDoorDrawQ
import Derived.Test.YtnkbjbbaoddfkaaGreatDoorDraw17Q
import Derived.Test.YtnkbjbbaoddfkaaGreatDoorTie
import Derived.Test.YtnkbjbbaoddfkaaGreatDoorCards
import Derived.WalkKit
import Derived.ProofKit
import Derived.OpenShut
import Derived.ShutString
import Derived.Below
import Derived.Carry
import Derived.ChangeVars
import Derived.OpenVars
import Derived.LaidMore
import Derived.Lay
import Derived.SevenTiedAt
import Derived.Stop.Joined
import Derived.JoinedOf
import Derived.Deep.QuietTactic
import Derived.BigQuiet
import Derived.Deep.RegionWith
import Derived.Deep.RegionHeld
import Derived.Deep.CutRange
set_option linter.unusedVariables false
namespace Go.Proofs.YtnkbjbbaoddfkaaGreatDoor.PxF
open Go.ChangeShapes Go.WideShapes Go.ChangeAt Go.RowKit
open Go.ChangeMaps (open_string shut_string)
open Go.Proofs.YtnkbjbbaoddfkaaGreatDoor.Fp Go.Proofs.YtnkbjbbaoddfkaaGreatDoor.Pp
theorem lwBig (a : Option Addr) (n cap : Nat) (w : World) : Calls Tryz.prog 4 #[.slice a n cap] w fun e w' => e = .returned (.bool (decide ((1048576 : Int) < (n : Int)))) ∧ w' = w := by
  go_enter Tryz.func4, Tryz.ntmps4
  go_wp2
  go_ret
  exact ⟨rfl, rfl⟩
theorem zc {w w' : World} {b o : Nat} {v : Value} (h : Below w.heap.size w w') (hc : w.cell? ⟨b, o, none⟩ = some v) : w'.cell? ⟨b, o, none⟩ = some v := (Fr.ofBelow (lo := 0) (hi := 0) h).cell hc (.inr (Nat.zero_le _))
theorem tot_lines (ss : List ByteArray) : tot ss ≤ (linesT ss).length := by
  induction ss with
  | nil => simp [tot, linesT]
  | cons s ss ih =>
    have e1 : tot (s :: ss) = (s.size : Int) + tot ss := by simp [tot]
    have e2 : (linesT (s :: ss)).length = (lnT s).length + (linesT ss).length := by simp [linesT]
    have e3 : s.size ≤ (lnT s).length := by
      unfold lnT
      rw [List.length_append]
      have : s.data.toList.length = s.size := rfl
      omega
    rw [e1, e2]
    omega
theorem mem_len (f : Hk → List UInt8) {x : Hk} : ∀ {l : List Hk}, x ∈ l → (f x).length ≤ (l.flatMap f).length
  | y :: l, hx => by
    rw [List.flatMap_cons, List.length_append]
    rcases List.mem_cons.1 hx with rfl | h
    · omega
    · have := mem_len f h; omega
/-- The lines of hunks that were written are no more than a text. -/
theorem fp_tot {l : List Hk} (h : fpC l = 0) : TotH l := fun x hx => by
  have h1 : hf l = 0 := by
    unfold fpC at h
    split at h
    · assumption
    · rename_i q; exact absurd h q
  have h2 : (fpL l).length ≤ 8000 := by
    unfold fpC at h
    rw [if_pos h1] at h
    split at h
    · cases h
    · omega
  have h3 := tot_lines x.2.2
  have h4 : (linesT x.2.2).length ≤ (hkT x).length := by unfold hkT; rw [List.length_append]; omega
  have h5 : (hkT x).length ≤ (fpL l).length := mem_len hkT hx
  omega
theorem ne_self (t : ByteArray) : (t.toList != t.toList) = false := by simp
def TotF (l : List Hk) : Prop := TotH l
set_option maxRecDepth 20000 in
set_option maxHeartbeats 4000000 in
theorem walk (a : Option Addr) (n cap : Nat) (w : World) (h : Bts w a n) (_hm : n ≤ 9223372036854775807) (hTa : TaG w) (hUn : UnG w) (hPe : PeG w) (hGG : 9 ≤ w.heap.size) :
    Calls Tryz.prog 3 #[.slice a n cap] w fun e w' => e = .returned (.bool true) ∧ Below w.heap.size w w' := by
  by_cases hbig : (1048576 : Int) < (n : Int)
  · go_enter Tryz.func3, Tryz.ntmps3
    go_wp2_with (go_at_call 4; refine (lwBig _ _ _ _).mono ?_; rintro e w' ⟨rfl, rfl⟩)
    go_ret
    exact ⟨rfl, Below.refl _ _⟩
  have gU : ∀ W, Below w.heap.size w W → UnG W := fun W b => hUn.below b (by omega)
  have gP : ∀ W, Below w.heap.size w W → PeG W := fun W b => hPe.below b (by omega) (by omega)
  have gT : ∀ W, Below w.heap.size w W → TaG W := fun W b => hTa.below b (by omega)
  have hIP := fun (t : ByteArray) (ht : t.size ≤ 1048576) W (b : Below w.heap.size w W) => implParsePatch readC t W ht (gU W b) (gP W b) (gT W b) (Nat.le_trans hGG b.size)
  have hIF := fun (a : Option Addr) (c : Nat) (l : List Hk) W (x : HB W.heap.size W a l) (q1 : l.length ≤ 1048576) (q2 : Shortly l) (q3 : TotH l) (b : Below w.heap.size w W) => implFormatPatch a c l W x q1 q2 q3 (gT W b) (Nat.lt_of_lt_of_le (by omega) (Nat.le_trans hGG b.size))
  have hDF := fun W (x : Bts W a n) => drawFormatPatch a n cap W x (by omega)
  have hBt : ∀ W, Below w.heap.size w W → Bts W a n := fun W b => h.below b
  clear gU gP gT hTa hUn hPe
  go_enter Tryz.func3, Tryz.ntmps3
  go_wp2_with fail
  refine (lwBig _ _ _ _).mono ?_; rintro e w ⟨rfl, rfl⟩
  go_wp2_with fail
  refine (drawParsePatch a n cap _ h (by omega)).mono ?_; rintro e w1 ⟨t, rfl, ht, b1⟩
  go_wp2_with fail
  refine (hIP t (by omega) _ b1).mono ?_; rintro e w2 ⟨v2, sl2, rfl, o2, b2⟩
  obtain ⟨pa, pc, rfl⟩ := shape3 o2.row
  have B2 : Below w.heap.size w w2 := b1.trans (b2.mono b1.size)
  obtain ⟨hsh, hft, hln, _⟩ := ppH_bd t
  have H2 : HB w2.heap.size w2 pa (ppH t) := o2.read hft
  -- the second half, in whatever world it begins
  obtain ⟨A, hA⟩ : ∃ A, ppA t = A := ⟨_, rfl⟩
  rw [hA]
  clear b1 b2 hA o2
  have HALF : True := trivial
  by_cases h0 : ppR t = 0
  · obtain ⟨f1, f2⟩ := pp_back h0
    have hT := fp_tot f1
    have hF := fun W x b => hIF pa pc (ppH t) W x hln hsh hT b
    rw [f1, f2] at hF
    rw [h0]
    obtain ⟨L, hL⟩ : ∃ L, ppH t = L := ⟨_, rfl⟩
    rw [hL] at hF H2 ⊢
    obtain ⟨W3, hW3⟩ : ∃ W, w2.alloc (.cells #[.int .i64 0, .int .i64 A, .slice pa L.length pc] 27) = W := ⟨_, rfl⟩
    have d3 : Below w2.heap.size w2 W3 := by rw [← hW3]; exact allocBelow _ _
    have R3 : Rs W3 w2.heap.size [.int .i64 0, .int .i64 A, .slice pa L.length pc] := by rw [← hW3]; exact Rs.new _ _ _
    have B3 := B2.trans (d3.mono B2.size)
    have H3 : HB W3.heap.size W3 pa L := (H2.below d3).mono d3.size
    obtain ⟨p, hp⟩ : ∃ p, w2.heap.size = p := ⟨_, rfl⟩
    rw [hp] at R3
    have r0 := R3 0 _ rfl
    have r2 := R3 2 _ rfl
    have hF3 := hF W3 H3 B3
    clear hF f1 f2 hT hsh hft hln H2 d3 hL h0 B2
    go_wp2_with fail
    refine hF3.mono ?_; rintro e w4 ⟨rfl, b4⟩
    have B4 := B3.trans (b4.mono B3.size)
    have y0 := zc b4 r0
    have y2 := zc b4 r2
    obtain ⟨W5, hW5⟩ : ∃ W, w4.alloc (.cells #[.int .i64 0, .string t] 30) = W := ⟨_, rfl⟩
    have d5 : Below w4.heap.size w4 W5 := by rw [← hW5]; exact allocBelow _ _
    have R5 : Rs W5 w4.heap.size [.int .i64 0, .string t] := by rw [← hW5]; exact Rs.new _ _ _
    have B5 := B4.trans (d5.mono B4.size)
    obtain ⟨q, hq⟩ : ∃ q, w4.heap.size = q := ⟨_, rfl⟩
    rw [hq] at R5
    have x0 := R5 0 _ rfl
    have x1 := R5 1 _ rfl
    have ns := ne_self t
    clear hF3 H3 R3 r0 r2 b4 B3 hW3 hp B4
    go_upto_region 7 with fail
    clear hW5 d5 R5 hq
    go_cut [44] from 22 to 44 (fun s wx => s = .bool false ∧ ∃ nq, wx = W5.drewN nq)
    case first =>
      clear hIP hIF hDF hBt h B5
      go_quiet (fail)
      all_goals (go_wp2_with fail; go_meet; exact ⟨rfl, _, rfl⟩)
    case rest =>
    obtain ⟨rfl, nq, rfl⟩ := hcut
    have B6 : Below w.heap.size w (W5.drewN nq) := ⟨B5.os, B5.tape, B5.output, B5.size, B5.block⟩
    clear B5 x0 x1 y0 y2 ns
    go_wp2_with fail
    refine (hDF _ (hBt _ B6)).mono ?_; rintro e w7 ⟨a3, c3, l, rfl, H7, fl, b7⟩
    have B7 := B6.trans (b7.mono B6.size)
    clear B6 b7 hBt hDF
    have lnl := fl.len
    have hF7 := hIF a3 c3 l w7 H7 (by omega) fl.short (fine_tot fl) B7
    have hSF := fun W x => specFormatPatch a3 c3 l W x (by omega) fl.short (fine_tot fl)
    clear hIF
    go_wp2_with fail
    refine hF7.mono ?_; rintro e w8 ⟨rfl, b8⟩
    have B8 := B7.trans (b8.mono B7.size)
    have H8 : HB w8.heap.size w8 a3 l := (H7.below b8).mono b8.size
    clear hF7 H7 b8 B7
    by_cases k0 : fpC l = 0
    · obtain ⟨e1, e2⟩ := fp_back k0
      have hf0 : hf l = 0 := by
        unfold fpC at k0
        split at k0
        · assumption
        · rename_i qq; exact absurd k0 qq
      have hok := (hf_all hf0).2
      have hTs := fpT_sz l
      obtain ⟨T, hT⟩ : ∃ T, fpT l = T := ⟨_, rfl⟩
      rw [hT] at e1 e2 hTs
      rw [k0, hT]
      obtain ⟨W9, hW9⟩ : ∃ W, w8.alloc (.cells #[.int .i64 0, .string T] 30) = W := ⟨_, rfl⟩
      have d9 : Below w8.heap.size w8 W9 := by rw [← hW9]; exact allocBelow _ _
      have R9 : Rs W9 w8.heap.size [.int .i64 0, .string T] := by rw [← hW9]; exact Rs.new _ _ _
      have B9 := B8.trans (d9.mono B8.size)
      have H9 : HB W9.heap.size W9 a3 l := (H8.below d9).mono d9.size
      obtain ⟨p9, hp9⟩ : ∃ p, w8.heap.size = p := ⟨_, rfl⟩
      rw [hp9] at R9
      have r0 := R9 0 _ rfl
      have r1 := R9 1 _ rfl
      have hP9 := hIP T (by omega) W9 B9
      rw [e1, e2] at hP9
      have hfits := fl.fits
      clear hSF hT d9 R9 H8 B8 hIP e1 e2 k0 hf0
      go_wp2_with fail
      refine hP9.mono ?_; rintro e wA ⟨vA, slA, rfl, oA, bA⟩
      obtain ⟨ra, rc, rfl⟩ := shape3 oA.row
      have BA := B9.trans (bA.mono B9.size)
      have HA : HB wA.heap.size wA a3 l := (H9.below bA).mono bA.size
      have HR : HB wA.heap.size wA ra l := oA.read hfits
      obtain ⟨AA, hAA⟩ : ∃ A, ppA T = A := ⟨_, rfl⟩
      rw [hAA]
      obtain ⟨WB, hWB⟩ : ∃ W, wA.alloc (.cells #[.int .i64 0, .int .i64 AA, .slice ra l.length rc] 27) = W := ⟨_, rfl⟩
      have dB : Below wA.heap.size wA WB := by rw [← hWB]; exact allocBelow _ _
      have RB : Rs WB wA.heap.size [.int .i64 0, .int .i64 AA, .slice ra l.length rc] := by rw [← hWB]; exact Rs.new _ _ _
      have BB := BA.trans (dB.mono BA.size)
      have HBh : HB WB.heap.size WB a3 l := (HA.below dB).mono dB.size
      have HBr : HB WB.heap.size WB ra l := (HR.below dB).mono dB.size
      obtain ⟨pB, hpB⟩ : ∃ p, wA.heap.size = p := ⟨_, rfl⟩
      rw [hpB] at RB
      have s0 := RB 0 _ rfl
      have s2 := RB 2 _ rfl
      have nll : ((l.length : Int) != (l.length : Int)) = false := by simp
      clear hP9 hAA oA bA HA HR dB H9 BA r0 r1 hfits
      go_wp2
      clear hWB hpB hW9 hp9 s0
      go_loopw [9] (fun i wr => ∃ k : Nat, k ≤ l.length ∧ i = .int .i64 k ∧ Below WB.heap.size WB wr) (fun i _ => l.length - (intOf i).toNat)
      case atStart => exact ⟨0, Nat.zero_le _, rfl, Below.refl _ _⟩
      case round =>
        obtain ⟨k, hk, rfl, hbel⟩ := hrel
        have hsz := hbel.size
        by_cases hlt : k < l.length
        · have qk : (k : Int) < (l.length : Int) := by omega
          have qn : ¬ (k : Int) < 0 := by omega
          obtain ⟨g1, o1, ak1, ck1, rfl, _, c0, c1, c2, S1⟩ := (HBr.below hbel) k hlt
          obtain ⟨g2, o2, ak2, ck2, rfl, _, d0, d1, d2, S2⟩ := (HBh.below hbel) k hlt
          have ok := hok _ (getD_mem l k hlt)
          have y2 := zc hbel s2
          obtain ⟨C, hC⟩ : ∃ C, l.getD k (0, 0, []) = C := ⟨_, rfl⟩
          rw [hC] at c0 c1 c2 S1 d0 d1 d2 S2 ok
          obtain ⟨x0, x1, ls⟩ := C
          simp only [] at c0 c1 c2 S1 d0 d1 d2 S2
          have hls : ls.length ≤ 200 := ok.n
          have T1 : SS wr ak1 ls := ⟨S1.1, fun j hj => by obtain ⟨b', off', e, _, hc⟩ := S1.2 j hj; exact ⟨b', off', e, cellLt hc, hc⟩⟩
          have T2 : SS wr ak2 ls := ⟨S2.1, fun j hj => by obtain ⟨b', off', e, _, hc⟩ := S2.2 j hj; exact ⟨b', off', e, cellLt hc, hc⟩⟩
          have hL := fun W p q => Same.implSameLines ak1 ak2 ck1 ck2 ls ls W p q (by omega) (by omega)
          rw [eqB_self] at hL
          have hZ : ∀ W, SS W ak2 ls → Calls Tryz.prog 12 #[.agg #[.int .i64 x0, .int .i64 x1, .slice ak2 ls.length ck2]] W fun e w' => (∃ za zc, e = .returned (.agg #[.int .i64 0, .slice za 2 zc])) ∧ Below W.heap.size W w' := fun W p => (implSizesOf x0 x1 ak2 ck2 ls W p (by omega)).mono fun e w' hh => by
            obtain ⟨v, e1, ow, b⟩ := hh
            rw [szC_ok ok.ok] at e1
            have e2 : (szV ls).length = 2 := by unfold szV; rw [if_pos ok.ok]; rfl
            rw [e2] at ow
            obtain ⟨za, zc, rfl⟩ := shapeS ow
            exact ⟨⟨za, zc, e1⟩, b⟩
          have flz : ∀ za zc W, (Instr.field 39 (.agg #[.int .i64 0, .slice za 2 zc]) 1).run Tryz.prog W = .ok (.slice za 2 zc) W := fun za zc W => by kernel_rfl
          have n0 : ((x0 : Int) != x0) = false := by simp
          have n1 : ((x1 : Int) != x1) = false := by simp
          have BD : Below wr.heap.size wr wr.drew := (Below.refl _ _).drew
          have D1 := T1.below BD
          have D2 := T2.below BD
          have Dn : ∀ m, SS (wr.drewN m) ak2 ls := fun m => T2
          have Bn : ∀ m, Below wr.heap.size wr (wr.drewN m) := fun m => ⟨BD.os, BD.tape, BD.output, BD.size, BD.block⟩
          clear hC S1 S2 ok T1 T2 HBr HBh hok s2 h
          go_upto_region 21 with fail
          go_cut [134] from 84 to 134 (fun s wx => s = .bool false ∧ Below wr.heap.size wr wx)
          case first =>
            clear hbel hsz BB hbig B9 fl lnl
            go_region_held (fun w' => w'.cell? ⟨pB, 2, none⟩ = some (.slice (some ⟨g1, o1, none⟩) l.length rc) ∧ w'.cell? ⟨g1, o1 + k * 3, none⟩ = some (.int .i64 x0) ∧ w'.cell? ⟨g1, o1 + k * 3 + 1, none⟩ = some (.int .i64 x1) ∧ w'.cell? ⟨g1, o1 + k * 3 + 2, none⟩ = some (.slice ak1 ls.length ck1) ∧ w'.cell? ⟨g2, o2 + k * 3, none⟩ = some (.int .i64 x0) ∧ w'.cell? ⟨g2, o2 + k * 3 + 1, none⟩ = some (.int .i64 x1) ∧ w'.cell? ⟨g2, o2 + k * 3 + 2, none⟩ = some (.slice ak2 ls.length ck2)) (first | with_reducible exact ⟨y2, c0, c1, c2, d0, d1, d2⟩ | with_reducible exact ⟨y2b, c0b, c1b, c2b, d0b, d1b, d2b⟩ | exact ⟨y2, c0, c1, c2, d0, d1, d2⟩ | exact ⟨y2b, c0b, c1b, c2b, d0b, d1b, d2b⟩)
              ((first
                | (go_at_call 11; refine (hL _ D1 D2).mono ?_; rintro e wa ⟨rfl, na, rfl⟩)
                | (go_at_call 12; refine (hZ _ (Dn _)).mono ?_; rintro e wb ⟨⟨za, zzc, rfl⟩, bb⟩; have y2b := zc bb y2; have c0b := zc bb c0; have c1b := zc bb c1; have c2b := zc bb c2; have d0b := zc bb d0; have d1b := zc bb d1; have d2b := zc bb d2; have Bt1 := below_step (Bn _) (Bn _).size bb)))
            all_goals (go_wp2_with fail; go_meet; exact ⟨rfl, Bt1⟩)
          case rest =>
          obtain ⟨rfl, b⟩ := hcut
          have HB2 : Hid (Below WB.heap.size WB wc) := below_step hbel hsz b
          clear b c0 c1 c2 d0 d1 d2 y2 hL hZ flz D1 D2 Dn Bn hbel
          go_wp2
          go_roundw
          case rel => exact ⟨k + 1, by omega, by go_num, HB2.out⟩
          case measure => first | (simp [intOf]; omega) | simp [intOf]
        · have qk : ¬ (k : Int) < (l.length : Int) := by omega
          have BE := BB.trans (hbel.mono BB.size)
          clear HBr HBh hok s2 h
          go_wp2
          go_ret
          exact ⟨rfl, BE⟩
    · obtain ⟨K, hK⟩ : ∃ K, fpC l = K := ⟨_, rfl⟩
      obtain ⟨T, hT⟩ : ∃ T, fpT l = T := ⟨_, rfl⟩
      rw [hK] at k0
      rw [hK, hT]
      simp only [hK, hT] at hSF
      have q0 : (K != 0) = true := by simpa using k0
      have kk : (K == K) = true := by simp
      have flf : ∀ x W, (Instr.field 30 (.agg #[.int .i64 K, .string x]) 0).run Tryz.prog W = .ok (.int .i64 K) W := fun x W => by kernel_rfl
      obtain ⟨W9, hW9⟩ : ∃ W, w8.alloc (.cells #[.int .i64 K, .string T] 30) = W := ⟨_, rfl⟩
      have d9 : Below w8.heap.size w8 W9 := by rw [← hW9]; exact allocBelow _ _
      have R9 : Rs W9 w8.heap.size [.int .i64 K, .string T] := by rw [← hW9]; exact Rs.new _ _ _
      have B9 := B8.trans (d9.mono B8.size)
      have H9 : HB W9.heap.size W9 a3 l := (H8.below d9).mono d9.size
      obtain ⟨p9, hp9⟩ : ∃ p, w8.heap.size = p := ⟨_, rfl⟩
      rw [hp9] at R9
      have r0 := R9 0 _ rfl
      clear hK hT d9 R9 H8 B8 fl hIP
      go_upto_region 14 with fail
      clear hW9 hp9
      go_cut [2] from 58 to 63 (fun s wx => s = .bool true ∧ Below W9.heap.size W9 wx)
      case first =>
        have BD : Below W9.heap.size W9 W9.drew := (Below.refl _ _).drew
        have HD : HB W9.drew.heap.size W9.drew a3 l := H9
        clear h B9 H9
        go_region_held (fun w' => w'.cell? ⟨p9, 0, none⟩ = some (.int .i64 K)) (first | with_reducible exact r0a | with_reducible exact r0 | exact r0a | exact r0)
          ((go_at_call 8; refine (hSF _ HD).mono ?_; rintro e wa ⟨rfl, ba⟩; have r0a := zc ba r0; have Bt1 := below_step BD BD.size ba))
        all_goals (go_wp2_with fail; go_meet; exact ⟨rfl, Bt1⟩)
      case rest =>
      obtain ⟨rfl, b⟩ := hcut
      have BE := B9.trans (b.mono B9.size)
      clear b
      go_wp2_with fail
      go_ret
      exact ⟨rfl, BE⟩
  · have hS := fun W => specParsePatch t W (by omega)
    have e4 : ppH t = [] := if_neg h0
    obtain ⟨K, hK⟩ : ∃ K, ppR t = K := ⟨_, rfl⟩
    have hS' : ∀ W, Calls Tryz.prog 9 #[.string t] W fun e w' => (∃ x v1, e = .returned (.agg #[.int .i64 K, .int .i64 x, v1])) ∧ Below W.heap.size W w' := fun W => (hS W).mono fun e w' hh => by
      obtain ⟨v, sl, e1, _, b⟩ := hh
      rw [hK] at e1
      exact ⟨⟨_, _, e1⟩, b⟩
    have flf : ∀ x v1 W, (Instr.field 27 (.agg #[.int .i64 K, .int .i64 x, v1]) 0).run Tryz.prog W = .ok (.int .i64 K) W := fun x v1 W => by kernel_rfl
    have kk : (K != K) = false := by simp
    rw [hK] at h0 ⊢
    have q0 : (K == 0) = false := beq_eq_false_iff_ne.2 h0
    obtain ⟨M, hM⟩ : ∃ M, (ppH t).length = M := ⟨_, rfl⟩
    rw [hM]
    obtain ⟨W3, hW3⟩ : ∃ W, w2.alloc (.cells #[.int .i64 K, .int .i64 A, .slice pa M pc] 27) = W := ⟨_, rfl⟩
    have d3 : Below w2.heap.size w2 W3 := by rw [← hW3]; exact allocBelow _ _
    have R3 : Rs W3 w2.heap.size [.int .i64 K, .int .i64 A, .slice pa M pc] := by rw [← hW3]; exact Rs.new _ _ _
    have B3 := B2.trans (d3.mono B2.size)
    obtain ⟨p, hp⟩ : ∃ p, w2.heap.size = p := ⟨_, rfl⟩
    rw [hp] at R3
    have r0 := R3 0 _ rfl
    clear hS e4 hK hM d3 R3 H2 hsh hft hln B2
    go_upto_region 9 with fail
    clear hW3 hp
    go_cut [50] from 45 to 50 (fun s wx => s = .bool false ∧ Below W3.heap.size W3 wx)
    case first =>
      have BD : Below W3.heap.size W3 W3.drew := (Below.refl _ _).drew
      clear hIP hIF hDF hBt h B3
      go_region_held (fun w' => w'.cell? ⟨p, 0, none⟩ = some (.int .i64 K)) (first | with_reducible exact r0a | with_reducible exact r0 | exact r0a | exact r0)
        ((go_at_call 9; refine (hS' _).mono ?_; rintro e wa ⟨⟨x, v1, rfl⟩, ba⟩; have r0a := zc ba r0; have Bt1 := below_step BD BD.size ba))
      all_goals (go_wp2_with fail; go_meet; exact ⟨rfl, Bt1⟩)
    case rest =>
    obtain ⟨rfl, b⟩ := hcut
    have B6 := B3.trans (b.mono B3.size)
    clear b B3 r0
    go_wp2_with fail
    refine (hDF _ (hBt _ B6)).mono ?_; rintro e w7 ⟨a3, c3, l, rfl, H7, fl, b7⟩
    have B7 := B6.trans (b7.mono B6.size)
    clear B6 b7 hBt hDF
    have lnl := fl.len
    have hF7 := hIF a3 c3 l w7 H7 (by omega) fl.short (fine_tot fl) B7
    have hSF := fun W x => specFormatPatch a3 c3 l W x (by omega) fl.short (fine_tot fl)
    clear hIF
    go_wp2_with fail
    refine hF7.mono ?_; rintro e w8 ⟨rfl, b8⟩
    have B8 := B7.trans (b8.mono B7.size)
    have H8 : HB w8.heap.size w8 a3 l := (H7.below b8).mono b8.size
    clear hF7 H7 b8 B7
    by_cases k0 : fpC l = 0
    · obtain ⟨e1, e2⟩ := fp_back k0
      have hf0 : hf l = 0 := by
        unfold fpC at k0
        split at k0
        · assumption
        · rename_i qq; exact absurd k0 qq
      have hok := (hf_all hf0).2
      have hTs := fpT_sz l
      obtain ⟨T, hT⟩ : ∃ T, fpT l = T := ⟨_, rfl⟩
      rw [hT] at e1 e2 hTs
      rw [k0, hT]
      obtain ⟨W9, hW9⟩ : ∃ W, w8.alloc (.cells #[.int .i64 0, .string T] 30) = W := ⟨_, rfl⟩
      have d9 : Below w8.heap.size w8 W9 := by rw [← hW9]; exact allocBelow _ _
      have R9 : Rs W9 w8.heap.size [.int .i64 0, .string T] := by rw [← hW9]; exact Rs.new _ _ _
      have B9 := B8.trans (d9.mono B8.size)
      have H9 : HB W9.heap.size W9 a3 l := (H8.below d9).mono d9.size
      obtain ⟨p9, hp9⟩ : ∃ p, w8.heap.size = p := ⟨_, rfl⟩
      rw [hp9] at R9
      have r0 := R9 0 _ rfl
      have r1 := R9 1 _ rfl
      have hP9 := hIP T (by omega) W9 B9
      rw [e1, e2] at hP9
      have hfits := fl.fits
      clear hSF hT d9 R9 H8 B8 hIP e1 e2 k0 hf0
      go_wp2_with fail
      refine hP9.mono ?_; rintro e wA ⟨vA, slA, rfl, oA, bA⟩
      obtain ⟨ra, rc, rfl⟩ := shape3 oA.row
      have BA := B9.trans (bA.mono B9.size)
      have HA : HB wA.heap.size wA a3 l := (H9.below bA).mono bA.size
      have HR : HB wA.heap.size wA ra l := oA.read hfits
      obtain ⟨AA, hAA⟩ : ∃ A, ppA T = A := ⟨_, rfl⟩
      rw [hAA]
      obtain ⟨WB, hWB⟩ : ∃ W, wA.alloc (.cells #[.int .i64 0, .int .i64 AA, .slice ra l.length rc] 27) = W := ⟨_, rfl⟩
      have dB : Below wA.heap.size wA WB := by rw [← hWB]; exact allocBelow _ _
      have RB : Rs WB wA.heap.size [.int .i64 0, .int .i64 AA, .slice ra l.length rc] := by rw [← hWB]; exact Rs.new _ _ _
      have BB := BA.trans (dB.mono BA.size)
      have HBh : HB WB.heap.size WB a3 l := (HA.below dB).mono dB.size
      have HBr : HB WB.heap.size WB ra l := (HR.below dB).mono dB.size
      obtain ⟨pB, hpB⟩ : ∃ p, wA.heap.size = p := ⟨_, rfl⟩
      rw [hpB] at RB
      have s0 := RB 0 _ rfl
      have s2 := RB 2 _ rfl
      have nll : ((l.length : Int) != (l.length : Int)) = false := by simp
      clear hP9 hAA oA bA HA HR dB H9 BA r0 r1 hfits
      go_wp2
      clear hWB hpB hW9 hp9 s0
      go_loopw [9] (fun i wr => ∃ k : Nat, k ≤ l.length ∧ i = .int .i64 k ∧ Below WB.heap.size WB wr) (fun i _ => l.length - (intOf i).toNat)
      case atStart => exact ⟨0, Nat.zero_le _, rfl, Below.refl _ _⟩
      case round =>
        obtain ⟨k, hk, rfl, hbel⟩ := hrel
        have hsz := hbel.size
        by_cases hlt : k < l.length
        · have qk : (k : Int) < (l.length : Int) := by omega
          have qn : ¬ (k : Int) < 0 := by omega
          obtain ⟨g1, o1, ak1, ck1, rfl, _, c0, c1, c2, S1⟩ := (HBr.below hbel) k hlt
          obtain ⟨g2, o2, ak2, ck2, rfl, _, d0, d1, d2, S2⟩ := (HBh.below hbel) k hlt
          have ok := hok _ (getD_mem l k hlt)
          have y2 := zc hbel s2
          obtain ⟨C, hC⟩ : ∃ C, l.getD k (0, 0, []) = C := ⟨_, rfl⟩
          rw [hC] at c0 c1 c2 S1 d0 d1 d2 S2 ok
          obtain ⟨x0, x1, ls⟩ := C
          simp only [] at c0 c1 c2 S1 d0 d1 d2 S2
          have hls : ls.length ≤ 200 := ok.n
          have T1 : SS wr ak1 ls := ⟨S1.1, fun j hj => by obtain ⟨b', off', e, _, hc⟩ := S1.2 j hj; exact ⟨b', off', e, cellLt hc, hc⟩⟩
          have T2 : SS wr ak2 ls := ⟨S2.1, fun j hj => by obtain ⟨b', off', e, _, hc⟩ := S2.2 j hj; exact ⟨b', off', e, cellLt hc, hc⟩⟩
          have hL := fun W p q => Same.implSameLines ak1 ak2 ck1 ck2 ls ls W p q (by omega) (by omega)
          rw [eqB_self] at hL
          have hZ : ∀ W, SS W ak2 ls → Calls Tryz.prog 12 #[.agg #[.int .i64 x0, .int .i64 x1, .slice ak2 ls.length ck2]] W fun e w' => (∃ za zc, e = .returned (.agg #[.int .i64 0, .slice za 2 zc])) ∧ Below W.heap.size W w' := fun W p => (implSizesOf x0 x1 ak2 ck2 ls W p (by omega)).mono fun e w' hh => by
            obtain ⟨v, e1, ow, b⟩ := hh
            rw [szC_ok ok.ok] at e1
            have e2 : (szV ls).length = 2 := by unfold szV; rw [if_pos ok.ok]; rfl
            rw [e2] at ow
            obtain ⟨za, zc, rfl⟩ := shapeS ow
            exact ⟨⟨za, zc, e1⟩, b⟩
          have flz : ∀ za zc W, (Instr.field 39 (.agg #[.int .i64 0, .slice za 2 zc]) 1).run Tryz.prog W = .ok (.slice za 2 zc) W := fun za zc W => by kernel_rfl
          have n0 : ((x0 : Int) != x0) = false := by simp
          have n1 : ((x1 : Int) != x1) = false := by simp
          have BD : Below wr.heap.size wr wr.drew := (Below.refl _ _).drew
          have D1 := T1.below BD
          have D2 := T2.below BD
          have Dn : ∀ m, SS (wr.drewN m) ak2 ls := fun m => T2
          have Bn : ∀ m, Below wr.heap.size wr (wr.drewN m) := fun m => ⟨BD.os, BD.tape, BD.output, BD.size, BD.block⟩
          clear hC S1 S2 ok T1 T2 HBr HBh hok s2 h
          go_upto_region 21 with fail
          go_cut [134] from 84 to 134 (fun s wx => s = .bool false ∧ Below wr.heap.size wr wx)
          case first =>
            clear hbel hsz BB hbig B9 fl lnl
            go_region_held (fun w' => w'.cell? ⟨pB, 2, none⟩ = some (.slice (some ⟨g1, o1, none⟩) l.length rc) ∧ w'.cell? ⟨g1, o1 + k * 3, none⟩ = some (.int .i64 x0) ∧ w'.cell? ⟨g1, o1 + k * 3 + 1, none⟩ = some (.int .i64 x1) ∧ w'.cell? ⟨g1, o1 + k * 3 + 2, none⟩ = some (.slice ak1 ls.length ck1) ∧ w'.cell? ⟨g2, o2 + k * 3, none⟩ = some (.int .i64 x0) ∧ w'.cell? ⟨g2, o2 + k * 3 + 1, none⟩ = some (.int .i64 x1) ∧ w'.cell? ⟨g2, o2 + k * 3 + 2, none⟩ = some (.slice ak2 ls.length ck2)) (first | with_reducible exact ⟨y2, c0, c1, c2, d0, d1, d2⟩ | with_reducible exact ⟨y2b, c0b, c1b, c2b, d0b, d1b, d2b⟩ | exact ⟨y2, c0, c1, c2, d0, d1, d2⟩ | exact ⟨y2b, c0b, c1b, c2b, d0b, d1b, d2b⟩)
              ((first
                | (go_at_call 11; refine (hL _ D1 D2).mono ?_; rintro e wa ⟨rfl, na, rfl⟩)
                | (go_at_call 12; refine (hZ _ (Dn _)).mono ?_; rintro e wb ⟨⟨za, zzc, rfl⟩, bb⟩; have y2b := zc bb y2; have c0b := zc bb c0; have c1b := zc bb c1; have c2b := zc bb c2; have d0b := zc bb d0; have d1b := zc bb d1; have d2b := zc bb d2; have Bt1 := below_step (Bn _) (Bn _).size bb)))
            all_goals (go_wp2_with fail; go_meet; exact ⟨rfl, Bt1⟩)
          case rest =>
          obtain ⟨rfl, b⟩ := hcut
          have HB2 : Hid (Below WB.heap.size WB wc) := below_step hbel hsz b
          clear b c0 c1 c2 d0 d1 d2 y2 hL hZ flz D1 D2 Dn Bn hbel
          go_wp2
          go_roundw
          case rel => exact ⟨k + 1, by omega, by go_num, HB2.out⟩
          case measure => first | (simp [intOf]; omega) | simp [intOf]
        · have qk : ¬ (k : Int) < (l.length : Int) := by omega
          have BE := BB.trans (hbel.mono BB.size)
          clear HBr HBh hok s2 h
          go_wp2
          go_ret
          exact ⟨rfl, BE⟩
    · obtain ⟨K, hK⟩ : ∃ K, fpC l = K := ⟨_, rfl⟩
      obtain ⟨T, hT⟩ : ∃ T, fpT l = T := ⟨_, rfl⟩
      rw [hK] at k0
      rw [hK, hT]
      simp only [hK, hT] at hSF
      have q0 : (K != 0) = true := by simpa using k0
      have kk : (K == K) = true := by simp
      have flf : ∀ x W, (Instr.field 30 (.agg #[.int .i64 K, .string x]) 0).run Tryz.prog W = .ok (.int .i64 K) W := fun x W => by kernel_rfl
      obtain ⟨W9, hW9⟩ : ∃ W, w8.alloc (.cells #[.int .i64 K, .string T] 30) = W := ⟨_, rfl⟩
      have d9 : Below w8.heap.size w8 W9 := by rw [← hW9]; exact allocBelow _ _
      have R9 : Rs W9 w8.heap.size [.int .i64 K, .string T] := by rw [← hW9]; exact Rs.new _ _ _
      have B9 := B8.trans (d9.mono B8.size)
      have H9 : HB W9.heap.size W9 a3 l := (H8.below d9).mono d9.size
      obtain ⟨p9, hp9⟩ : ∃ p, w8.heap.size = p := ⟨_, rfl⟩
      rw [hp9] at R9
      have r0 := R9 0 _ rfl
      clear hK hT d9 R9 H8 B8 fl hIP
      go_upto_region 14 with fail
      clear hW9 hp9
      go_cut [2] from 58 to 63 (fun s wx => s = .bool true ∧ Below W9.heap.size W9 wx)
      case first =>
        have BD : Below W9.heap.size W9 W9.drew := (Below.refl _ _).drew
        have HD : HB W9.drew.heap.size W9.drew a3 l := H9
        clear h B9 H9
        go_region_held (fun w' => w'.cell? ⟨p9, 0, none⟩ = some (.int .i64 K)) (first | with_reducible exact r0a | with_reducible exact r0 | exact r0a | exact r0)
          ((go_at_call 8; refine (hSF _ HD).mono ?_; rintro e wa ⟨rfl, ba⟩; have r0a := zc ba r0; have Bt1 := below_step BD BD.size ba))
        all_goals (go_wp2_with fail; go_meet; exact ⟨rfl, Bt1⟩)
      case rest =>
      obtain ⟨rfl, b⟩ := hcut
      have BE := B9.trans (b.mono B9.size)
      clear b
      go_wp2_with fail
      go_ret
      exact ⟨rfl, BE⟩

set_option linter.unusedVariables false
theorem laidOut : laidOutB Tryz.prog = true := by kernel_rfl
theorem own : ownKnob Tryz.prog.godebug = none := by kernel_rfl
set_option maxRecDepth 100000 in
theorem lifted (os : Os) (started : os.Started) (H : Type) (enc : TypeId × Value → H) :
    ReturnsInHanded {} Tryz.checked os 3 .any (fun w args => (Rows.fnPatchTextsSpec.pre enc Tryz.prog Tryz.f3 [] false w args ∧ laidMetH Tryz.prog Rows.fnPatchTextsRow.laid w) ∧ sizedMet enc Tryz.prog Tryz.f3 (OpenSpec.ofChange Rows.fnPatchTextsSpec) false w args)
      (Rows.fnPatchTextsSpec.post enc Tryz.prog Tryz.f3 false true false false) := by
  refine returnsInHanded_of_change_and (C := Tryz.checked) (X := fun w _ => laidMetH Tryz.prog Rows.fnPatchTextsRow.laid w) (fun _ _ _ hh h => h.of_heap hh) own started (by kernel_rfl) Tryz.func3
    (ChangeSpec.witness_shaped (enc := enc) (C := Tryz.checked) (os := os) (X := fun w _ => laidMetH Tryz.prog Rows.fnPatchTextsRow.laid w) false (World.laidAll Tryz.prog os Rows.fnPatchTextsRow.laid) #[.slice none 0 0] 8 (World.laidAll_os _ _ _) (World.shaped_of_ZipB (by kernel_rfl) (by kernel_rfl)) (by kernel_rfl) (by kernel_rfl) (by kernel_rfl) (by rw [MakeChecks.laidMetH_plain _ _ _ (by kernel_rfl)]; exact laidMet_laidAll _ (by kernel_rfl) (by kernel_rfl))) ?_
  intro W base args ds gs before hval0 hW _ _ hL _
  have hval : ∀ (j : Nat) t v, Tryz.f3.params[j]? = some t → args[j]? = some v → Value.okWide Tryz.prog W .any base t v := hval0
  have hW' := hW
  obtain ⟨p, q, hA0, hV0, rfl, hfz, hnd⟩ := hW
  have hA : DataW.TrodAll enc Tryz.prog W 0 (fun _ => true) true Tryz.f3.params.toList args.toList ds p := hA0
  have hV : DataW.TrodVars enc Tryz.prog W (fun _ => true) ["loop.example/g00172/impl.errUnreadable"] gs q := hV0
  rw [Tryz.params3] at hA hval
  obtain ⟨v0, vs0, d0, ds0, p0, q0, hargs, rfl, rfl, h0, r0⟩ := trodAll_cons hA
  obtain ⟨rfl, rfl, rfl⟩ := trodAll_nil r0
  obtain rfl : args = #[v0] := by cases args; simp_all
  obtain ⟨g1, hg1⟩ : ∃ g1, gs = [g1] := by
    obtain ⟨_, _, _, _, d, _, e, _⟩ := trodVars_one hV
    exact ⟨d, e⟩
  subst hg1
  obtain ⟨a0, len0, cap0, rfl⟩ := okWide_slice Tryz.underlying22 (hval 0 22 v0 rfl rfl)
  have k0 := h0
  have lt0 : ∀ x ∈ p0, x.block < W.heap.size := by obtain ⟨m, hm⟩ := k0; exact DataW.trod_lt m _ _ _ hm
  obtain ⟨w0, n0⟩ := openBts h0 lt0
  obtain ⟨hTa, hUn, hPe, hGG⟩ := px_laid hL
  clear hA0 hval0
  refine (walk a0 len0 cap0 W w0 n0 hTa hUn hPe hGG).mono fun e W' ⟨he, bel⟩ => ?_
  subst he
  exact ⟨_, rfl, _, _, _, [], _, _, hW', trodAll_mk1 (shut_bool Tryz.underlying4 _), (trodAll_cons_mk (Below.trod laidOut (by kernel_rfl) (of_decide_eq_true (by kernel_rfl)) k0 bel lt0) trodAll_mk0), Below.trodVars laidOut bel (by kernel_rfl) hV, bel.frame _, fun h => by cases h⟩

theorem over : Rows.fnPatchTextsRow.holds Tryz.pinned (OpenSpec.ofChange Rows.fnPatchTextsSpec) :=
  OpenClaim.holds_of_wide 3 Tryz.f3 rfl rfl rfl rfl rfl rfl rfl ⟨rfl, rfl, rfl, rfl, rfl⟩ rfl rfl rfl rfl rfl (by kernel_rfl) Tryz.func3 (by kernel_rfl)
    (of_decide_eq_true (by kernel_rfl)) (by unfold Func.isWrapper; first | (rw [if_pos (by decide +kernel)]; kernel_rfl) | (rw [if_neg (by decide +kernel)]; exact ⟨rfl, rfl⟩))
    (fun os started H enc _ => lifted os started H enc)

theorem proved : Rows.FnPatchTextsCardSaid :=
  Claim7.holds_tied_plain_at .later [] [.data, .data, .data, .data, .sentinel, .sentinel, .sentinel, .pinned] true _ true
    over (fun _ h => by cases h) (by kernel_rfl) (fun _ h => by cases h) fnPatchTexts_row_tie rfl ⟨rfl, rfl⟩ (by kernel_rfl) rfl
    (fun f fn hf hfn => by
      obtain rfl : f = 3 := Option.some.inj ((show Tryz.prog.funcNamed "loop.example/g00172/laws.FnPatchTexts" = some 3 by kernel_rfl).symm.trans hf) |>.symm
      obtain rfl : fn = Tryz.f3 := (Option.some.inj (Tryz.func3.symm.trans hfn)).symm
      exact ⟨by kernel_rfl, fun j t ht => by
        rw [Tryz.params3] at ht
        have hm : t ∈ [22] := by simpa using Array.mem_of_getElem? ht
        have hall : ([22].all fun u => !Tryz.prog.wantsStandIn u) = true := by kernel_rfl
        exact (show Tryz.prog.wantsStandIn t = false by simpa using List.all_eq_true.1 hall t hm)⟩)
    (by kernel_rfl)
end Go.Proofs.YtnkbjbbaoddfkaaGreatDoor.PxF
namespace Go.Proofs.YtnkbjbbaoddfkaaGreatDoor
theorem fnPatchTexts_proved : Rows.FnPatchTextsCardSaid := PxF.proved
end Go.Proofs.YtnkbjbbaoddfkaaGreatDoor
