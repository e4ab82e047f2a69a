/- Proved: at every code FnRules returns true (a rule that is learnt is found until it is forgotten, and no other is lost). No condition: FnRulesSaid itself. -/
import Derived.Test.YtkeinpobngfioaaRows
import Derived.Test.YtkeinpobngfioaaLemQ
import Derived.Test.YtkeinpobngfioaaMarksQ
import Derived.Test.YtkeinpobngfioaaDTabQ
import Derived.Test.YtkeinpobngfioaaHkTQ
import Derived.Test.YtkeinpobngfioaaRuLQ
import Derived.Test.YtkeinpobngfioaaRuFQ
import Derived.Test.YtkeinpobngfioaaFrCQ
import Derived.Test.YtkeinpobngfioaaRlBQ
import Derived.Test.YtkeinpobngfioaaRlEQ
import Derived.Test.YtkeinpobngfioaaRlHQ
import Derived.Test.YtkeinpobngfioaaRlGQ
import Derived.Test.YtkeinpobngfioaaDrawQ
import Derived.Test.YtkeinpobngfioaaDraw18Q
import Derived.WalkKit
import Derived.ProofKit
import Derived.OpenShut
import Derived.Below
import Derived.Carry
import Derived.Laws.Cover1
import Derived.Deep.QuietTactic
import Derived.BigQuiet
import Derived.Deep.RegionWith
import Derived.Deep.Cut
import Derived.Deep.CutRange
import Derived.Deep.RegionHeld
set_option linter.unusedVariables false
namespace Go.Proofs.Ytkeinpobngfioaa.FuF
open Go.ChangeShapes Go.WideShapes Go.ChangeAt Go.RowKit
open Ru

theorem lwBig (a : Option Addr) (n cap : Nat) (w : World) : Calls Try.prog 4 #[.slice a n cap] w fun e w' => e = .returned (.bool (decide ((1048576 : Int) < (n : Int)))) ∧ w' = w := by
  go_enter Try.func4, Try.ntmps4
  go_wp2
  go_ret
  exact ⟨rfl, rfl⟩
theorem zc {w w' : World} {b o : Nat} {v : Value} (h : Below w.heap.size w w') (hc : w.cell? ⟨b, o, none⟩ = some v) : w'.cell? ⟨b, o, none⟩ = some v := (Fr.ofBelow (lo := 0) (hi := 0) h).cell hc (.inr (Nat.zero_le _))
theorem smallIn {l M : List Ru.Ob} {p q : ByteArray} (h : Ru.SmallO l) (hp : p.size ≤ 1048576) (hq : q.size ≤ 1048576) (hm : ∀ x ∈ M, x ∈ l ∨ x = (p, q)) : Ru.SmallO M := fun x hx => by
  rcases hm x hx with k | k
  · exact h x k
  · rw [k]; exact ⟨hp, hq⟩
theorem obStep {B : Nat} {w w' : World} {a : Option Addr} {l : List Ru.Ob} (h : Ru.OB B w a l) (hb : Below w.heap.size w w') (hB : B ≤ w.heap.size) : Ru.OB w'.heap.size w' a l := (h.below hb).mono (Nat.le_trans hB hb.size)
set_option maxRecDepth 20000 in
set_option maxHeartbeats 8000000 in
theorem walk (a : Option Addr) (n cap : Nat) (w : World) (h : Bts w a n) (_hm : n ≤ 9223372036854775807) :
    Calls Try.prog 3 #[.slice a n cap] w fun e w' => e = .returned (.bool true) ∧ Below w.heap.size w w' := by
  by_cases hbig : (1048576 : Int) < (n : Int)
  · go_enter Try.func3, Try.ntmps3
    go_wp2_with (go_at_call 4; refine (lwBig _ _ _ _).mono ?_; rintro e w' ⟨rfl, rfl⟩)
    go_ret
    exact ⟨rfl, Below.refl _ _⟩
  go_enter Try.func3, Try.ntmps3
  go_wp2_with fail
  refine (lwBig _ _ _ _).mono ?_; rintro e w ⟨rfl, rfl⟩
  go_wp2_with fail
  refine (drawLearnRule a n cap _ h (by omega)).mono ?_; rintro e w1 ⟨l, g, c, p, q, rfl, hl, hS, oL, hp, hq, b1⟩
  clear h hbig
  have hc := ownCap oL
  have O1 : OB w1.heap.size w1 (some ⟨g, 0, none⟩) l := OB.of oL
  have hI := implLearnRule (some ⟨g, 0, none⟩) c l p q w1 O1 hS (by omega) (by omega) (by omega)
  have hSp := fun W x => specLearnRule g 0 c l p q W x hc hS (by omega) (by omega) (by omega)
  clear oL
  by_cases h0 : lnC l p q = 0
  · have FU := fu_all h0
    rw [h0] at hI
    obtain ⟨M, hM⟩ : ∃ M, lnL l p q = M := ⟨_, rfl⟩
    rw [hM] at hI FU
    obtain ⟨G, hG⟩ : ∃ G, fgL M p = G := ⟨_, rfl⟩
    have sM := smallIn hS (by omega) (by omega) FU.inM
    have fM := fun (a3 : Option Addr) (c3 : Nat) x w y => implFindRule a3 c3 M x w y sM (by have := FU.short; omega)
    have gM := fun (a3 : Option Addr) (c3 : Nat) w y => implForgetRule a3 c3 M p w y sM (by have := FU.short; omega)
    have rM := fun (a3 : Option Addr) (c3 : Nat) w y => implRulesFault a3 c3 M w y sM (by have := FU.short; omega)
    rw [hG] at FU gM
    have sG := smallIn hS (by omega) (by omega) FU.inG
    have fG := fun (a3 : Option Addr) (c3 : Nat) x w y => implFindRule a3 c3 G x w y sG (by have := FU.short; have := FU.len; omega)
    rw [FU.cG] at gM
    rw [FU.rM] at rM
    have fMp := fun (a3 : Option Addr) (c3 : Nat) w y => fM a3 c3 p w y
    rw [FU.cM, FU.tM] at fMp
    have fGp := fun (a3 : Option Addr) (c3 : Nat) w y => fG a3 c3 p w y
    rw [FU.nG] at fGp
    have HA : Hid (∀ k, k < l.length → ¬ (l.getD k onil).1 = p → frT M (l.getD k onil).1 = (l.getD k onil).2 ∧ frT G (l.getD k onil).1 = (l.getD k onil).2) := FU.all
    have HL : Hid (G.length + 1 = M.length ∧ M.length ≤ 40) := ⟨FU.len, FU.short⟩
    clear FU hM hG h0 hSp sM sG
    go_wp2_with fail
    refine hI.mono ?_; rintro e w2 ⟨v2, rfl, o2, b2⟩
    obtain ⟨ma, mc, em⟩ := shapeK3 o2
    subst em
    obtain ⟨W3, hW3⟩ : ∃ W, w2.alloc (.cells #[.int .i64 0, .slice ma M.length mc] 28) = W := ⟨_, rfl⟩
    have R3 : Rs W3 w2.heap.size [.int .i64 0, .slice ma M.length mc] := by rw [← hW3]; exact Rs.new _ _ _
    have d3 : Below w2.heap.size w2 W3 := by rw [← hW3]; exact allocBelow _ _
    have c3 : Below w1.heap.size w1 W3 := b2.trans (d3.mono b2.size)
    have P3 : OB W3.heap.size W3 ma M := obStep (OB.of o2) d3 (Nat.le_refl _)
    have A3 : OB W3.heap.size W3 (some ⟨g, 0, none⟩) l := obStep O1 c3 (Nat.le_refl _)
    have B3 := b1.trans (c3.mono b1.size)
    obtain ⟨rb, hrb⟩ : ∃ p, w2.heap.size = p := ⟨_, rfl⟩
    have r0 := R3 0 _ rfl
    have r1 := R3 1 _ rfl
    rw [hrb] at r0 r1
    clear hI b1 b2 c3 d3 o2 O1 R3
    go_wp2_with fail
    refine (fMp _ _ _ P3).mono ?_; rintro e w4 ⟨rfl, b4⟩
    clear hW3 hrb
    obtain ⟨W5, hW5⟩ : ∃ W, w4.alloc (.cells #[.int .i64 0, .string q] 31) = W := ⟨_, rfl⟩
    have R5 : Rs W5 w4.heap.size [.int .i64 0, .string q] := by rw [← hW5]; exact Rs.new _ _ _
    have c5 : Below W3.heap.size W3 W5 := by rw [← hW5]; exact b4.alloc b4.size _
    have P5 := obStep P3 c5 (Nat.le_refl _)
    have A5 := obStep A3 c5 (Nat.le_refl _)
    have B5 := B3.trans (c5.mono B3.size)
    replace r1 := zc c5 r1
    obtain ⟨fb, hfb⟩ : ∃ p, w4.heap.size = p := ⟨_, rfl⟩
    have f0 := R5 0 _ rfl
    have f1 := R5 1 _ rfl
    rw [hfb] at f0 f1
    clear b4 c5 P3 A3 B3 R5 r0 fMp
    go_wp2_with fail
    refine (gM _ _ _ P5).mono ?_; rintro e w6 ⟨v6, rfl, o6, b6⟩
    clear hW5 hfb
    obtain ⟨ga, gc, eg⟩ := shapeK3 o6
    subst eg
    obtain ⟨W7, hW7⟩ : ∃ W, w6.alloc (.cells #[.int .i64 0, .slice ga G.length gc] 28) = W := ⟨_, rfl⟩
    have R7 : Rs W7 w6.heap.size [.int .i64 0, .slice ga G.length gc] := by rw [← hW7]; exact Rs.new _ _ _
    have d7 : Below w6.heap.size w6 W7 := by rw [← hW7]; exact allocBelow _ _
    have c7 : Below W5.heap.size W5 W7 := b6.trans (d7.mono b6.size)
    have Q7 : OB W7.heap.size W7 ga G := obStep (OB.of o6) d7 (Nat.le_refl _)
    have P7 := obStep P5 c7 (Nat.le_refl _)
    have A7 := obStep A5 c7 (Nat.le_refl _)
    have B7 := B5.trans (c7.mono B5.size)
    replace r1 := zc c7 r1
    replace f0 := zc c7 f0
    replace f1 := zc c7 f1
    obtain ⟨gb, hgb⟩ : ∃ p, w6.heap.size = p := ⟨_, rfl⟩
    have g0 := R7 0 _ rfl
    have g1 := R7 1 _ rfl
    rw [hgb] at g0 g1
    have qq : (q.toList == q.toList) = true := beq_bytes_true rfl
    clear b6 c7 d7 o6 P5 A5 B5 R7 gM
    go_wp2_with fail
    refine (rM _ _ _ P7).mono ?_; rintro e w8 ⟨rfl, b8⟩
    clear hW7 hgb
    have P8 := obStep P7 b8 (Nat.le_refl _)
    have A8 := obStep A7 b8 (Nat.le_refl _)
    have Q8 := obStep Q7 b8 (Nat.le_refl _)
    have B8 := B7.trans (b8.mono B7.size)
    replace r1 := zc b8 r1
    replace f0 := zc b8 f0
    replace f1 := zc b8 f1
    replace g0 := zc b8 g0
    replace g1 := zc b8 g1
    have fl4 : ∀ t w, (Instr.field 31 (.agg #[.int .i64 4, .string t]) 0).run Try.prog w = .ok (.int .i64 4) w := fun t w => by kernel_rfl
    clear b8 P7 A7 Q7 B7 rM
    go_wp2_with fail
    refine (fGp _ _ _ Q8).mono ?_; rintro e w9 ⟨rfl, b9⟩
    have P9 := obStep P8 b9 (Nat.le_refl _)
    have A9 := obStep A8 b9 (Nat.le_refl _)
    have Q9 := obStep Q8 b9 (Nat.le_refl _)
    have B9 := B8.trans (b9.mono B8.size)
    replace r1 := zc b9 r1
    replace g1 := zc b9 g1
    clear b9 P8 A8 Q8 B8 fGp f0 f1 g0 qq
    go_wp2
    clear fl4
    go_loopw [9] (fun vi wr => ∃ k : Nat, k ≤ l.length ∧ vi = .int .i64 (k : Int) ∧ Below w9.heap.size w9 wr) (fun vi _ => l.length - (intOf vi).toNat)
    case atStart => exact ⟨0, Nat.zero_le _, rfl, Below.refl _ _⟩
    case round =>
      obtain ⟨k, hk, rfl, bel⟩ := hrel
      replace r1 := zc bel r1
      replace g1 := zc bel g1
      have Pr := obStep P9 bel (Nat.le_refl _)
      have Qr := obStep Q9 bel (Nat.le_refl _)
      have Br := B9.trans (bel.mono B9.size)
      by_cases hlt : k < l.length
      · have qk : (k : Int) < (l.length : Int) := by omega
        obtain ⟨g', off, e, hg', x0, x1⟩ := (A9.below bel) k hlt
        simp only [Option.some.injEq, Addr.mk.injEq, and_true] at e
        obtain ⟨rfl, rfl⟩ := e
        have ha := HA.out k hlt
        obtain ⟨C, hC⟩ : ∃ C, l.getD k onil = C := ⟨_, rfl⟩
        obtain ⟨y0, y1⟩ := C
        rw [hC] at x0 x1 ha
        simp only [Nat.zero_add] at x0 x1 ha
        clear hC HA HL A9 P9 Q9 B9 Br
        by_cases he : y0 = p
        · subst he
          have hb : (y0.toList == y0.toList) = true := beq_bytes_true rfl
          clear ha Pr Qr fM fG
          go_wp2_with fail
          go_quiet (fail)
          go_wp2
          go_roundw
          case rel => exact ⟨k + 1, by omega, by go_num, below_drewN' bel _⟩
          case measure => first | (simp [intOf]; omega) | simp [intOf]
        · obtain ⟨h1, h2⟩ := ha he
          have hb : (y0.toList == p.toList) = false := beq_bytes_false he
          have hFm := fun w y => fM ma mc y0 w y
          have hFg := fun w y => fG ga gc y0 w y
          rw [h1] at hFm
          rw [h2] at hFg
          obtain ⟨K1, hK1⟩ : ∃ K, frC M y0 = K := ⟨_, rfl⟩
          obtain ⟨K2, hK2⟩ : ∃ K, frC G y0 = K := ⟨_, rfl⟩
          rw [hK1] at hFm
          rw [hK2] at hFg
          have fl1 : ∀ w, (Instr.field 31 (.agg #[.int .i64 K1, .string y1]) 1).run Try.prog w = .ok (.string y1) w := fun w => by kernel_rfl
          have fl2 : ∀ w, (Instr.field 31 (.agg #[.int .i64 K2, .string y1]) 1).run Try.prog w = .ok (.string y1) w := fun w => by kernel_rfl
          have hy : (y1.toList == y1.toList) = true := beq_bytes_true rfl
          have BD : Below wr.heap.size wr wr.drew := (Below.refl _ _).drew
          have PD : OB wr.drew.heap.size wr.drew ma M := Pr
          have QD : OB wr.drew.heap.size wr.drew ga G := Qr
          clear fM fG h1 h2 hK1 hK2 he Pr Qr
          go_upto_region 14 with fail
          go_cut [115] from 75 to 115 (fun s wx => s = .bool false ∧ Below wr.heap.size wr wx)
          case first =>
            clear bel
            go_region_held (fun w' => w'.cell? ⟨g, k * 2, none⟩ = some (.string y0) ∧ w'.cell? ⟨g, k * 2 + 1, none⟩ = some (.string y1) ∧ w'.cell? ⟨rb, 1, none⟩ = some (.slice ma M.length mc) ∧ w'.cell? ⟨gb, 1, none⟩ = some (.slice ga G.length gc)) (first | with_reducible exact ⟨x0, x1, r1, g1⟩ | with_reducible exact ⟨X0, X1, R1, G1⟩ | with_reducible exact ⟨Y0, Y1, S1, H1⟩ | exact ⟨x0, x1, r1, g1⟩)
              (first
                | (go_at_call 8; have gd := Bt1; clear gd; refine (hFg _ QE).mono ?_; rintro e wb ⟨rfl, bb⟩; have Y0 := zc bb X0; have Y1 := zc bb X1; have S1 := zc bb R1; have H1 := zc bb G1; have Bt2 : Below wr.heap.size wr wb := Bt1.trans (bb.mono Bt1.size))
                | (go_at_call 8; refine (hFm _ PD).mono ?_; rintro e wa ⟨rfl, ba⟩; have X0 := zc ba x0; have X1 := zc ba x1; have R1 := zc ba r1; have G1 := zc ba g1; have QE := obStep QD ba (Nat.le_refl _); have Bt1 : Below wr.heap.size wr wa := BD.trans (ba.mono BD.size)))
            all_goals (go_wp2_with fail; go_meet; exact ⟨rfl, Bt2⟩)
          case rest =>
          obtain ⟨rfl, bc⟩ := hcut
          have BE := bel.trans (bc.mono bel.size)
          clear bc hFm hFg PD QD BD
          go_wp2_with fail
          go_roundw
          case rel => first | exact ⟨k + 1, by omega, by go_num, BE⟩ | ((repeat apply Exists.intro); exact ⟨⟨k + 1, by omega, by go_num, BE⟩, rfl⟩)
          case measure => first | (simp [intOf]; omega) | simp [intOf]
      · have qk : ¬ (k : Int) < (l.length : Int) := by omega
        obtain ⟨l1, l2⟩ := HL.out
        have qe : ((G.length : Int) == (M.length : Int) - 1) = true := by
          have : (G.length : Int) = (M.length : Int) - 1 := by omega
          rw [this]; simp
        have l3 : M.length ≤ 40 := l2
        have l4 : 1 ≤ M.length := by omega
        clear l1 HL HA fM fG P9 Q9 A9 Pr Qr
        go_wp2_with fail
        go_ret
        exact ⟨rfl, Br⟩
  · obtain ⟨K, hK⟩ : ∃ K, lnC l p q = K := ⟨_, rfl⟩
    obtain ⟨M, hM⟩ : ∃ M, lnL l p q = M := ⟨_, rfl⟩
    rw [hK, hM] at hI hSp
    rw [hK] at h0
    have qn : (K != 0) = true := by simp [h0]
    have kk : (K == K) = true := by simp
    have flf : ∀ v1 w, (Instr.field 28 (.agg #[.int .i64 K, v1]) 0).run Try.prog w = .ok (.int .i64 K) w := fun v1 w => by kernel_rfl
    clear h0 hK hM
    go_wp2_with fail
    refine hI.mono ?_; rintro e w2 ⟨v2, rfl, o2, b2⟩
    obtain ⟨ma, mc, em⟩ := shapeK3 o2
    subst em
    obtain ⟨W3, hW3⟩ : ∃ W, w2.alloc (.cells #[.int .i64 K, .slice ma M.length mc] 28) = W := ⟨_, rfl⟩
    have R3 : Rs W3 w2.heap.size [.int .i64 K, .slice ma M.length mc] := by rw [← hW3]; exact Rs.new _ _ _
    have c3 : Below w1.heap.size w1 W3 := by rw [← hW3]; exact b2.alloc b2.size _
    have A3 : OB W3.heap.size W3 (some ⟨g, 0, none⟩) l := obStep O1 c3 (Nat.le_refl _)
    have B3 := b1.trans (c3.mono b1.size)
    obtain ⟨rb, hrb⟩ : ∃ p, w2.heap.size = p := ⟨_, rfl⟩
    have r0 := R3 0 _ rfl
    rw [hrb] at r0
    clear hI b1 b2 c3 o2 O1 R3
    go_upto_region 6 with fail
    go_cut [2] from 25 to 32 (fun s wx => s = .bool true ∧ Below W3.heap.size W3 wx)
    case first =>
      have BD : Below W3.heap.size W3 W3.drew := (Below.refl _ _).drew
      have AD : OB W3.drew.heap.size W3.drew (some ⟨g, 0, none⟩) l := A3
      clear A3 B3 hW3 hrb
      go_region_held (fun w' => w'.cell? ⟨rb, 0, none⟩ = some (.int .i64 K)) (first | with_reducible exact r0a | exact r0)
        ((go_at_call 7; refine (hSp _ AD).mono ?_; rintro e wa ⟨v1, rfl, o1, ba⟩; have r0a := zc ba r0; have Bt1 : Below W3.heap.size W3 wa := BD.trans (ba.mono BD.size)))
      all_goals (go_wp2_with fail; go_meet; exact ⟨rfl, Bt1⟩)
    case rest =>
    obtain ⟨rfl, bc⟩ := hcut
    have BE := B3.trans (bc.mono B3.size)
    clear bc
    go_wp2_with fail
    go_ret
    exact ⟨rfl, BE⟩

set_option linter.unusedVariables false
theorem laidOut : laidOutB Try.prog = true := by kernel_rfl
theorem own : ownKnob Try.prog.godebug = none := by kernel_rfl
set_option maxRecDepth 100000 in
theorem lifted (os : Os) (started : os.Started) (H : Type) (enc : TypeId × Value → H) :
    ReturnsInHanded {} Try.checked os 3 .any (Rows.fnRulesSpec.pre6 enc Try.prog Try.f3 Rows.fnRulesRow.domain false) (Rows.fnRulesSpec.post enc Try.prog Try.f3 false true false false) := by
  refine returnsInHanded_of_change (C := Try.checked) own started (by kernel_rfl) Try.func3
    (ChangeSpec.witness6 (enc := enc) (C := Try.checked) false ⟨#[], #[.slice none 0 0], []⟩ 8 (by kernel_rfl) (by kernel_rfl) (by kernel_rfl) (by kernel_rfl)) ?_
  intro W base args ds gs before hval0 hW hcnd _
  have hval : ∀ (j : Nat) t v, Try.f3.params[j]? = some t → args[j]? = some v → Value.okWide Try.prog W .any base t v := hval0
  have hW' := hW
  obtain ⟨p, q, hA0, hV, rfl, hfz, hnd⟩ := hW
  have hA : DataW.TrodAll enc Try.prog W 0 (fun _ => true) true Try.f3.params.toList args.toList ds p := hA0
  rw [Try.params3] at hA hval
  obtain ⟨v0, vs0, d0, ds0, p0, q0, hargs, rfl, rfl, h0, r0⟩ := trodAll_cons hA
  obtain ⟨rfl, rfl, rfl⟩ := trodAll_nil r0
  obtain rfl : args = #[v0] := by cases args; simp_all
  obtain ⟨rfl, rfl⟩ := trodVars_none hV
  obtain ⟨a0, len0, cap0, rfl⟩ := okWide_slice Try.underlying22 (hval 0 22 v0 rfl rfl)
  have k0 := h0
  have lt0 : ∀ x ∈ p0, x.block < W.heap.size := by obtain ⟨m, hm⟩ := k0; exact DataW.trod_lt m _ _ _ hm
  obtain ⟨w0, n0⟩ := openBts h0 lt0
  clear hA0 hval0
  refine (walk a0 len0 cap0 W w0 n0).mono fun e W' ⟨he, bel⟩ => ?_
  subst he
  exact ⟨_, rfl, _, _, _, [], _, [], hW', trodAll_mk1 (shut_bool Try.underlying4 _), (trodAll_cons_mk (Below.trod laidOut (by kernel_rfl) (of_decide_eq_true (by kernel_rfl)) k0 bel lt0) trodAll_mk0), rfl, bel.frame _, fun h => by cases h⟩

theorem over : Rows.fnRulesRow.holds Try.pinned (OpenSpec.ofChange Rows.fnRulesSpec) :=
  OpenClaim.holds_of_wide 3 Try.f3 rfl rfl rfl rfl rfl rfl rfl ⟨rfl, rfl, rfl, rfl, rfl⟩ rfl rfl rfl rfl rfl (by kernel_rfl) Try.func3 (by kernel_rfl)
    (of_decide_eq_true (by kernel_rfl)) (by unfold Func.isWrapper; first | (rw [if_pos (by decide +kernel)]; kernel_rfl) | (rw [if_neg (by decide +kernel)]; exact ⟨rfl, rfl⟩))
    (fun os started H enc _ => lifted os started H enc)

theorem proved : Rows.FnRulesSaid := over
end Go.Proofs.Ytkeinpobngfioaa.FuF
namespace Go.Proofs.Ytkeinpobngfioaa
theorem fnRules_proved : Rows.FnRulesSaid := FuF.proved
end Go.Proofs.Ytkeinpobngfioaa
