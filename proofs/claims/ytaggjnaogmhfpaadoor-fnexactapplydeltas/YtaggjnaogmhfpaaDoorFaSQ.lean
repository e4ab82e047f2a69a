/- The contract of spec.ApplyDeltas. No statement is proved here. -/
import Derived.Test.YtaggjnaogmhfpaaDoorRows
import Derived.Test.YtaggjnaogmhfpaaDoorLemQ
import Derived.Test.YtaggjnaogmhfpaaDoorDTabQ
import Derived.Test.YtaggjnaogmhfpaaDoorInQ
import Derived.Test.YtaggjnaogmhfpaaDoorFlLQ
import Derived.Test.YtaggjnaogmhfpaaDoorFlAQ
import Derived.Test.YtaggjnaogmhfpaaDoorFfCQ
import Derived.Test.YtaggjnaogmhfpaaDoorFfSQ
import Derived.Test.YtaggjnaogmhfpaaDoorDfJQ
import Derived.Test.YtaggjnaogmhfpaaDoorDfMQ
import Derived.Test.YtaggjnaogmhfpaaDoorDfBQ
import Derived.Test.YtaggjnaogmhfpaaDoorDfFQ
import Derived.Test.YtaggjnaogmhfpaaDoorDfTQ
import Derived.Test.YtaggjnaogmhfpaaDoorDfQQ
import Derived.Test.YtaggjnaogmhfpaaDoorDlLQ
import Derived.Test.YtaggjnaogmhfpaaDoorApAQ
import Derived.Test.YtaggjnaogmhfpaaDoorApMQ
import Derived.Test.YtaggjnaogmhfpaaDoorApQQ
import Derived.Test.YtaggjnaogmhfpaaDoorApRQ
import Derived.Test.YtaggjnaogmhfpaaDoorFbIQ
import Derived.WalkKit
import Derived.ProofKit
import Derived.Below
import Derived.WalkSpells
import Derived.Deep.QuietTactic
import Derived.BigQuiet
import Derived.Deep.RegionWith
import Derived.Deep.RegionHeld
import Derived.Deep.RegionLaw
import Derived.Deep.CutRange
import Derived.Maps.AppendAt
import Derived.Laws.BitsLemmas
import Derived.Laws.Cover1
set_option linter.unusedVariables false
namespace Go.Proofs.YtaggjnaogmhfpaaDoor.Fl
open Go.ChangeShapes Go.WideShapes Go.ChangeAt Go.RowKit
theorem step_callGs {ops : Array Oper} {o : Oper} {a : Act} {w : World} {K : Act → World → Prop} {Q : Exit → Act → World → Prop} {E : Prop}
    (hw : Region.wanted o (yielded ops a.tmps) = true) (f : FuncId) (hf : ∀ vs w, (callFunc f vs).run Tryd.prog w = .ok (.enter f vs) w) (x1 : Operand) (ts : Array TypeId) (hop : o.op = Op.call { callee := Callee.value (Operand.func f), args := #[x1], argTypes := ts })
    (v1 : Value) (h1 : a.eval x1 = v1) {P : Ending → World → Prop} (hc : Calls Tryd.prog f #[v1] w P) (hK : ∀ e w', P e w' → ∃ v, e = .returned v ∧ K (a.put o.dst v) w') :
    if Region.wanted o (yielded ops a.tmps) = true then Oper.wp Tryd.prog o a w K Q else E := by
  rw [if_pos hw]
  have hrun : (execOp a.eval o).run Tryd.prog w = .ok (.enter f #[v1]) w := by
    simp [execOp, hop, resolve, invoke, go_sem, hf]
    cases x1 with | tmp t => simpa [Act.eval] using h1 | const v => exact h1 | global g => exact h1 | func f => exact h1
  unfold Oper.wp
  rw [hrun, Oper.upon_enter]
  refine hc.mono ?_
  intro e w' hp
  obtain ⟨v, rfl, hk⟩ := hK e w' hp
  exact hk
theorem step_callEs {ops : Array Oper} {o : Oper} {a : Act} {w : World} {K : Act → World → Prop} {Q : Exit → Act → World → Prop} {E : Prop}
    (hg : o.guard = none) (f : FuncId) (hf : ∀ vs w, (callFunc f vs).run Tryd.prog w = .ok (.enter f vs) w) (x1 x2 : Operand) (ts : Array TypeId) (hop : o.op = Op.call { callee := Callee.value (Operand.func f), args := #[x1, x2], argTypes := ts })
    (v1 v2 : Value) (h1 : a.eval x1 = v1) (h2 : a.eval x2 = v2) {P : Ending → World → Prop} (hc : Calls Tryd.prog f #[v1, v2] w P) (hK : ∀ e w', P e w' → ∃ v, e = .returned v ∧ K (a.put o.dst v) w') :
    if Region.wanted o (yielded ops a.tmps) = true then Oper.wp Tryd.prog o a w K Q else E := by
  have hw : Region.wanted o (yielded ops a.tmps) = true := by simp [Region.wanted, hg]
  rw [if_pos hw]
  have hrun : (execOp a.eval o).run Tryd.prog w = .ok (.enter f #[v1, v2]) w := by
    have e1 : a.eval x1 = v1 := h1
    have e2 : a.eval x2 = v2 := h2
    simp [execOp, hop, resolve, invoke, go_sem, hf]
    constructor
    · cases x1 with | tmp t => simpa [Act.eval] using h1 | const v => exact h1 | global g => exact h1 | func f => exact h1
    · cases x2 with | tmp t => simpa [Act.eval] using h2 | const v => exact h2 | global g => exact h2 | func f => exact h2
  unfold Oper.wp
  rw [hrun, Oper.upon_enter]
  refine hc.mono ?_
  intro e w' hp
  obtain ⟨v, rfl, hk⟩ := hK e w' hp
  exact hk
theorem enterFi : ∀ vs w, (callFunc 26 vs).run Tryd.prog w = .ok (.enter 26 vs) w := fun vs w => by
  have h1 : (Tryd.f26.name == "runtime.NumGoroutine") = false := by kernel_rfl
  have hb : Tryd.f26.body.isNone = false := by kernel_rfl
  have h2 : ¬ Tryd.f26.name = "runtime.NumGoroutine" := by simpa using h1
  have h3 : ¬ Tryd.f26.body = none := fun e => by rw [e] at hb; cases hb
  simp [callFunc, Tryd.func26, h2, h3]
set_option maxRecDepth 20000 in
set_option maxHeartbeats 32000000 in
theorem specApplyDeltas (ga : Nat) (b : Option Addr) (ca cb : Nat) (la : List Ob) (D : List Dl.Ob) (w : World) (ha : OB w.heap.size w (some ⟨ga, 0, none⟩) la) (hb : Dl.OB w.heap.size w b D) (sa : SmallO la) (sb : Dl.SmallO D) (hn : la.length + D.length ≤ 1048576) :
    Calls Tryd.prog 15 #[.slice (some ⟨ga, 0, none⟩) la.length ca, .slice b D.length cb] w fun e w' => FE (apR la D) (apL la D) w e w' := by
  obtain ⟨W1, hW1⟩ : ∃ W, w.alloc (.cells #[.int .i64 0, .slice none 0 0] 38) = W := ⟨_, rfl⟩
  have b1 : Below w.heap.size w W1 := by rw [← hW1]; exact allocBelow _ _
  have zW : W1.heap.size = w.heap.size + 1 := by rw [← hW1]; simp
  have r1 : Rf W1 w.heap.size [.int .i64 0, .slice none 0 0] := by rw [← hW1]; exact Rf.new _ _ _
  have A1 := (ha.below b1).mono b1.size
  have hA := specFilesFault _ ca la W1 A1 sa (by omega)
  have hBadF : ¬ ffl la = 0 → ∀ w', Below w.heap.size w w' → FE (apR la D) (apL la D) w (.returned (.agg #[.int .i64 (ffl la), .slice none 0 0])) w' := fun h w' hb => fe_bad (ar_f h) h hb
  have hBadD : ffl la = 0 → ∀ k c, k < D.length → (∀ j, j < k → apD la D j = 0) → apD la D k = c → ¬ c = 0 → ∀ w', Below w.heap.size w w' → FE (apR la D) (apL la D) w (.returned (.agg #[.int .i64 c, .slice none 0 0])) w' := fun h k c hk h0 hc hz w' hb => by
    have e : apE la D = c := by rw [← hc]; exact apE_bad hk h0 (by rw [hc]; exact hz)
    exact fe_bad (by rw [ar_d h (by rw [e]; exact hz), e]) hz hb
  have hBadX : ffl la = 0 → (∀ j, j < D.length → apD la D j = 0) → ¬ ffl (fb la D) = 0 → ∀ w', Below w.heap.size w w' → FE (apR la D) (apL la D) w (.returned (.agg #[.int .i64 (ffl (fb la D)), .slice none 0 0])) w' := fun h h0 hz w' hb => fe_bad (ar_x h (apE_ok h0)) hz hb
  have hOk : ffl la = 0 → (∀ j, j < D.length → apD la D j = 0) → ffl (fb la D) = 0 → ∀ v z w', w'.ownsRow z 52 3 v (fb la D).length (ocells (fb la D)) → w.heap.size ≤ z → Below w.heap.size w w' → FE (apR la D) (apL la D) w (.returned (.agg #[.int .i64 0, v])) w' := fun h h0 hz v z w' ho hzz hb => fe_ok (by rw [ar_x h (apE_ok h0), hz]) rfl ho hzz hb
  have hRa : ffl la = 0 → Rise la ∧ (∀ f ∈ la, ¬ f = onil) := fun h => ⟨ffl_rise h, ffl_some h⟩
  obtain ⟨FA, hFA⟩ : ∃ F, ffl la = F := ⟨_, rfl⟩
  obtain ⟨QE, hQE⟩ : ∃ Q, (fun e w' => FE (apR la D) (apL la D) w e w') = Q := ⟨_, rfl⟩
  have hQ : ∀ e w', FE (apR la D) (apL la D) w e w' → QE e w' := fun e w' h => by rw [← hQE]; exact h
  rw [hQE]
  replace hBadF := fun h w' hb => hQ _ _ (hBadF h w' hb)
  replace hBadD := fun a b c d e f g w' hb => hQ _ _ (hBadD a b c d e f g w' hb)
  replace hBadX := fun a b c w' hb => hQ _ _ (hBadX a b c w' hb)
  replace hOk := fun a b c d e f g h i => hQ _ _ (hOk a b c d e f g h i)
  simp only [hFA] at hA hBadF hBadD hBadX hOk hRa
  clear hFA A1 hQE hQ
  go_enter Tryd.func15, Tryd.ntmps15
  go_wp2_with fail
  refine hA.mono ?_; rintro e w2 ⟨rfl, b2⟩
  rw [zW] at b2
  have r1' : Rf w2 w.heap.size [.int .i64 0, .slice none 0 0] := rfBelowAt r1 b2 (by omega)
  have B1 : Below w.heap.size w w2 := b1.trans (b2.mono (by omega))
  have z2 : w.heap.size + 1 ≤ w2.heap.size := by have := b2.size; omega
  clear hA b1 b2 r1 hW1 zW
  by_cases h0 : FA = 0
  rotate_left
  · have qn : (FA != 0) = true := ne_beq h0
    clear hOk hRa hBadD hBadX ha hb
    have c0 := r1'.at_ 0 _ rfl
    have c1 := r1'.at_ 1 _ rfl
    have k0 := r1'.fz 0
    have k1 := r1'.fz 1
    have RV := (r1'.set (o := 0) (by simp) (.int .i64 FA)).set (o := 1) (by simp) (.slice none 0 0)
    have BV := (B1.setCell (p := ⟨w.heap.size, 0, none⟩) (Nat.le_refl _) (.int .i64 FA)).setCell (p := ⟨w.heap.size, 1, none⟩) (Nat.le_refl _) (.slice none 0 0)
    obtain ⟨V, hV⟩ : ∃ V, (w2.setCell ⟨w.heap.size, 0, none⟩ (.int .i64 FA)).setCell ⟨w.heap.size, 1, none⟩ (.slice none 0 0) = V := ⟨_, rfl⟩
    rw [hV] at RV BV
    have HV : Hid (_ = V) := hV
    have v0 := RV.at_ 0 _ rfl
    have v1 := RV.at_ 1 _ rfl
    have HS := hBadF h0 V BV
    clear hV RV BV r1' B1
    go_wp2
    rw [HV.out]
    refine bodyPost_ret (v := .agg #[.int .i64 FA, .slice none 0 0]) (by simp [results, Tryd.results15, go_sem, v0, v1]) rfl ?_
    exact HS
  subst h0
  clear hBadF
  replace hOk := hOk rfl
  replace hBadD := hBadD rfl
  replace hBadX := hBadX rfl
  obtain ⟨hra, hnl⟩ := hRa rfl
  clear hRa
  obtain ⟨q6, hq6⟩ : ∃ q, w2.heap.size = q := ⟨_, rfl⟩
  obtain ⟨W3, hW3⟩ : ∃ W, w2.alloc (.cells #[.string ⟨#[]⟩, .int .i64 0, .string ⟨#[]⟩] 52) = W := ⟨_, rfl⟩
  have b3 : Below w2.heap.size w2 W3 := by rw [← hW3]; exact allocBelow _ _
  have s6 : Rf W3 q6 [.string ⟨#[]⟩, .int .i64 0, .string ⟨#[]⟩] := by rw [← hW3, ← hq6]; exact Rf.new _ _ _
  have z3 : W3.heap.size = q6 + 1 := by rw [← hW3, ← hq6]; simp
  have B2 : Below w.heap.size w W3 := B1.trans (b3.mono (by omega))
  have r2 : Rf W3 w.heap.size [.int .i64 0, .slice none 0 0] := rfBelowAt r1' b3 (by omega)
  have A3 := ha.below B2
  have D3 := hb.below B2
  have HW3 : Hid (_ = W3) := hW3
  clear ha hb r1' B1 b3 hW3
  go_upto_region 5 with fail
  rw [HW3.out]
  clear HW3
  go_wp2
  go_loopw [7] (fun i wr => ∃ k : Nat, k ≤ D.length ∧ i = .int .i64 k ∧ Hid (∀ j, j < k → apD la D j = 0) ∧ Below W3.heap.size W3 wr) (fun i _ => D.length - (intOf i).toNat)
  case atStart => exact ⟨0, Nat.zero_le _, rfl, fun j hj => absurd hj (Nat.not_lt_zero _), Below.refl _ _⟩
  case round =>
    obtain ⟨k, hk, rfl, hAll, hbel⟩ := hrel
    have hsz := hbel.size
    by_cases hlt : k < D.length
    · have q0 : (k : Int) < (D.length : Int) := by omega
      obtain ⟨g, off, e, hg, d0, d1, d2, d3, d4, d5, d6⟩ := (D3.below hbel) k hlt
      subst e
      have hP : 0 < k → wr.cell? ⟨g, off + (k - 1) * 7, none⟩ = some (.string (D.getD (k - 1) Dl.onil).1) := fun hk0 => by
        obtain ⟨g', off', e', _, e0, _⟩ := (D3.below hbel) (k - 1) (by omega)
        simp only [Option.some.injEq, Addr.mk.injEq, and_true] at e'
        obtain ⟨rfl, rfl⟩ := e'
        exact e0
      have HC1 : ∀ c, apD la D k = c → ¬ c = 0 → ∀ w', Below w.heap.size w w' → QE (.returned (.agg #[.int .i64 c, .slice none 0 0])) w' := fun c hc hz w' hb => hBadD k c hlt hAll.out hc hz w' hb
      have HG : apD la D k = 0 → Hid (∀ j, j < k + 1 → apD la D j = 0) := fun h0 => by
        show ∀ j, _
        intro j hj
        by_cases e : j = k
        · rw [e]; exact h0
        · exact hAll.out j (by omega)
      have HR := fun (h0 : 0 < k) h => apD_rise (la := la) (D := D) h0 h
      have HF := fun h => apD_form (la := la) (D := D) (k := k) h
      have HH := fun h1 h2 => apD_hold (la := la) (D := D) (k := k) h1 h2
      obtain ⟨C, hC⟩ : ∃ C, D.getD k Dl.onil = C := ⟨_, rfl⟩
      obtain ⟨P, hPP⟩ : ∃ P, (D.getD (k - 1) Dl.onil).1 = P := ⟨_, rfl⟩
      obtain ⟨AD, hAD⟩ : ∃ c, apD la D k = c := ⟨_, rfl⟩
      obtain ⟨p, ⟨f0, f1, f2⟩, ⟨g0, g1, g2⟩⟩ := C
      rw [hPP] at hP
      simp only [hC, hPP, hAD] at HC1 HG HR HF HH d0 d1 d2 d3 d4 d5 d6
      have hFa := fun W (b : Below W3.heap.size W3 W) => l7FindC (some ⟨ga, 0, none⟩) ca la p W ((belowAt A3 b (by omega)).mono (by have := b.size; omega)) (by omega)
      unfold fv at hFa
      obtain ⟨F, hF⟩ : ∃ F, fa la p = F := ⟨_, rfl⟩
      obtain ⟨F0, F1, F2⟩ := F
      simp only [hF] at hFa HH
      obtain ⟨V1, hV1⟩ : ∃ W, wr.alloc (.cells #[.string p, .string f0, .int .i64 f1, .string f2, .string g0, .int .i64 g1, .string g2] 55) = W := ⟨_, rfl⟩
      have bV1 : Below wr.heap.size wr V1 := by rw [← hV1]; exact allocBelow _ _
      have r3 : Rf V1 wr.heap.size [.string p, .string f0, .int .i64 f1, .string f2, .string g0, .int .i64 g1, .string g2] := by rw [← hV1]; exact Rf.new _ _ _
      have z3' : wr.heap.size < V1.heap.size := by rw [← hV1]; simp
      have BV1 : Below W3.heap.size W3 V1 := hbel.trans (bV1.mono hsz)
      have hgr : g < wr.heap.size := by omega
      have hP1 : 0 < k → V1.cell? ⟨g, off + (k - 1) * 7, none⟩ = some (.string P) := fun hk0 => (bV1.cell (p := ⟨g, off + (k - 1) * 7, none⟩) hgr).trans (hP hk0)
      have s3 : Rf V1 q6 [.string ⟨#[]⟩, .int .i64 0, .string ⟨#[]⟩] := rfBelowAt s6 BV1 (by omega)
      have m0 := r3.at_ 0 _ rfl
      have m1 := r3.at_ 1 _ rfl
      have m2 := r3.at_ 2 _ rfl
      have m3 := r3.at_ 3 _ rfl
      have m4 := r3.at_ 4 _ rfl
      have m5 := r3.at_ 5 _ rfl
      have m6 := r3.at_ 6 _ rfl
      have u0 := s3.at_ 0 _ rfl
      have u1 := s3.at_ 1 _ rfl
      have u2 := s3.at_ 2 _ rfl
      have HV1 : Hid (_ = V1) := hV1
      clear hP hPP hC hAD hF hBadD bV1 hV1 s3
      obtain ⟨q, hq⟩ : ∃ q, wr.heap.size = q := ⟨_, rfl⟩
      rw [hq] at m0 m1 m2 m3 m4 m5 m6 r3
      have zq : q < V1.heap.size := by omega
      have zv : W3.heap.size ≤ V1.heap.size := BV1.size
      go_upto_region 9 with fail
      rw [HV1.out]
      go_cut [78] from 31 to 79 (fun s wx => ∃ c : Bool, s = .bool c ∧ (c = true → AD = 1) ∧ (c = false → AD = if ((F0, F1, F2) : Ob) = (f0, f1, f2) then 0 else 6) ∧ Below V1.heap.size V1 wx)
      case first =>
        have hD : isD p (f0, f1, f2) (g0, g1, g2) = (decide (¬ ((f0, f1, f2) : Ob) = (g0, g1, g2)) && (decide (((f0, f1, f2) : Ob) = onil) || (f0.toList == p.toList)) && (decide (((g0, g1, g2) : Ob) = onil) || (g0.toList == p.toList))) := rfl
        clear HC1 HG hFa hOk hBadX hAll A3 D3 r2 B2 BV1 s6
        by_cases hk0 : 0 < k
        · have q1 : (0 : Int) < (k : Int) := by omega
          have e1 := hP1 hk0
          obtain ⟨m, hmk⟩ : ∃ m, k - 1 = m := ⟨_, rfl⟩
          have hw : IntKind.i64.wrap ((k : Int) - 1) = (m : Int) := by rw [IntKind.wrap_i64]; omega
          have q2 : (m : Int) < (D.length : Int) := by omega
          rw [hmk] at e1
          clear hmk hP1
          cases hle : leF p P with
          | true =>
            have HX : Hid (AD = 1) := HR hk0 hle
            unfold leF at hle
            clear HR HF HH hD
            cases hlb : Op.bytesLess p.toList P.toList with
            | true =>
              go_quiet (fail)
              obtain ⟨WD, hWD⟩ : ∃ W, V1.drewN nq = W := ⟨_, rfl⟩
              have BW : Below V1.heap.size V1 WD := by rw [← hWD]; exact belowN _
              rw [hWD]
              clear hWD
              go_wp2_with fail
              go_meet
              exact ⟨_, rfl, fun _ => HX.out, (fun c => by cases c), BW⟩
            | false =>
              rw [hlb, Bool.false_or] at hle
              go_quiet (fail)
              obtain ⟨WD, hWD⟩ : ∃ W, V1.drewN nq = W := ⟨_, rfl⟩
              have BW : Below V1.heap.size V1 WD := by rw [← hWD]; exact belowN _
              rw [hWD]
              clear hWD
              go_wp2_with fail
              go_meet
              exact ⟨_, rfl, fun _ => HX.out, (fun c => by cases c), BW⟩
          | false =>
            have hno : ¬ (0 < k ∧ leF p P = true) := fun c => by rw [hle] at c; exact Bool.noConfusion c.2
            unfold leF at hle
            obtain ⟨hl1, hl2⟩ := Bool.or_eq_false_iff.1 hle
            clear hle HR
            by_cases hE : ((f0, f1, f2) : Ob) = (g0, g1, g2)
            · have fq := fun w => ef_yes hE w
              have HX : Hid (AD = 1) := HF (by rw [hD, decide_eq_false (show ¬ ¬ _ from fun c => c hE)]; rfl)
              clear HF HH hD hE
              go_quiet (fail)
              obtain ⟨WD, hWD⟩ : ∃ W, V1.drewN nq = W := ⟨_, rfl⟩
              have BW : Below V1.heap.size V1 WD := by rw [← hWD]; exact belowN _
              rw [hWD]
              clear hWD
              go_wp2_with fail
              go_meet
              exact ⟨_, rfl, fun _ => HX.out, (fun c => by cases c), BW⟩
            · have fq := fun w => ef_no hE w
              replace hD := hD.trans (by rw [decide_eq_true hE])
              by_cases hO : ((f0, f1, f2) : Ob) = onil
              · have fO := fun w => ef_nil hO w
                replace hD := hD.trans (by rw [decide_eq_true hO, Bool.true_or])
                by_cases hN : ((g0, g1, g2) : Ob) = onil
                · exact absurd (hO.trans hN.symm) hE
                · have fN := fun w => ef_some hN w
                  cases hgp : (g0.toList == p.toList) with
                  | false =>
                    have HX : Hid (AD = 1) := HF (by rw [hD, decide_eq_false hN, hgp]; rfl)
                    clear HF HH hD hN hE hO
                    go_quiet (fail)
                    obtain ⟨WD, hWD⟩ : ∃ W, V1.drewN nq = W := ⟨_, rfl⟩
                    have BW : Below V1.heap.size V1 WD := by rw [← hWD]; exact belowN _
                    rw [hWD]
                    clear hWD
                    go_wp2_with fail
                    go_meet
                    exact ⟨_, rfl, fun _ => HX.out, (fun c => by cases c), BW⟩
                  | true =>
                    have HX : Hid (AD = if ((F0, F1, F2) : Ob) = (f0, f1, f2) then 0 else 6) := HH hno (by rw [hD, decide_eq_false hN, hgp]; rfl)
                    clear HF HH hD hN hE hO
                    go_quiet (fail)
                    obtain ⟨WD, hWD⟩ : ∃ W, V1.drewN nq = W := ⟨_, rfl⟩
                    have BW : Below V1.heap.size V1 WD := by rw [← hWD]; exact belowN _
                    rw [hWD]
                    clear hWD
                    go_wp2_with fail
                    go_meet
                    exact ⟨_, rfl, (fun c => by cases c), fun _ => HX.out, BW⟩
              · have fO := fun w => ef_some hO w
                cases hfp : (f0.toList == p.toList) with
                | false =>
                  have HX : Hid (AD = 1) := HF (by rw [hD, decide_eq_false hO, hfp]; rfl)
                  clear HF HH hD hE hO
                  go_quiet (fail)
                  obtain ⟨WD, hWD⟩ : ∃ W, V1.drewN nq = W := ⟨_, rfl⟩
                  have BW : Below V1.heap.size V1 WD := by rw [← hWD]; exact belowN _
                  rw [hWD]
                  clear hWD
                  go_wp2_with fail
                  go_meet
                  exact ⟨_, rfl, fun _ => HX.out, (fun c => by cases c), BW⟩
                | true =>
                  replace hD := hD.trans (by rw [hfp, Bool.or_true])
                  by_cases hN : ((g0, g1, g2) : Ob) = onil
                  · have fN := fun w => ef_nil hN w
                    have HX : Hid (AD = if ((F0, F1, F2) : Ob) = (f0, f1, f2) then 0 else 6) := HH hno (by rw [hD, decide_eq_true hN]; rfl)
                    clear HF HH hD hN hE hO
                    go_quiet (fail)
                    obtain ⟨WD, hWD⟩ : ∃ W, V1.drewN nq = W := ⟨_, rfl⟩
                    have BW : Below V1.heap.size V1 WD := by rw [← hWD]; exact belowN _
                    rw [hWD]
                    clear hWD
                    go_wp2_with fail
                    go_meet
                    exact ⟨_, rfl, (fun c => by cases c), fun _ => HX.out, BW⟩
                  · have fN := fun w => ef_some hN w
                    cases hgp : (g0.toList == p.toList) with
                    | false =>
                      have HX : Hid (AD = 1) := HF (by rw [hD, decide_eq_false hN, hgp]; rfl)
                      clear HF HH hD hN hE hO
                      go_quiet (fail)
                      obtain ⟨WD, hWD⟩ : ∃ W, V1.drewN nq = W := ⟨_, rfl⟩
                      have BW : Below V1.heap.size V1 WD := by rw [← hWD]; exact belowN _
                      rw [hWD]
                      clear hWD
                      go_wp2_with fail
                      go_meet
                      exact ⟨_, rfl, fun _ => HX.out, (fun c => by cases c), BW⟩
                    | true =>
                      have HX : Hid (AD = if ((F0, F1, F2) : Ob) = (f0, f1, f2) then 0 else 6) := HH hno (by rw [hD, decide_eq_false hN, hgp]; rfl)
                      clear HF HH hD hN hE hO
                      go_quiet (fail)
                      obtain ⟨WD, hWD⟩ : ∃ W, V1.drewN nq = W := ⟨_, rfl⟩
                      have BW : Below V1.heap.size V1 WD := by rw [← hWD]; exact belowN _
                      rw [hWD]
                      clear hWD
                      go_wp2_with fail
                      go_meet
                      exact ⟨_, rfl, (fun c => by cases c), fun _ => HX.out, BW⟩
        · have q1 : ¬ (0 : Int) < (k : Int) := by omega
          have hno : ¬ (0 < k ∧ leF p P = true) := fun c => hk0 c.1
          clear hP1 HR
          by_cases hE : ((f0, f1, f2) : Ob) = (g0, g1, g2)
          · have fq := fun w => ef_yes hE w
            have HX : Hid (AD = 1) := HF (by rw [hD, decide_eq_false (show ¬ ¬ _ from fun c => c hE)]; rfl)
            clear HF HH hD hE
            go_quiet (fail)
            obtain ⟨WD, hWD⟩ : ∃ W, V1.drewN nq = W := ⟨_, rfl⟩
            have BW : Below V1.heap.size V1 WD := by rw [← hWD]; exact belowN _
            rw [hWD]
            clear hWD
            go_wp2_with fail
            go_meet
            exact ⟨_, rfl, fun _ => HX.out, (fun c => by cases c), BW⟩
          · have fq := fun w => ef_no hE w
            replace hD := hD.trans (by rw [decide_eq_true hE])
            by_cases hO : ((f0, f1, f2) : Ob) = onil
            · have fO := fun w => ef_nil hO w
              replace hD := hD.trans (by rw [decide_eq_true hO, Bool.true_or])
              by_cases hN : ((g0, g1, g2) : Ob) = onil
              · exact absurd (hO.trans hN.symm) hE
              · have fN := fun w => ef_some hN w
                cases hgp : (g0.toList == p.toList) with
                | false =>
                  have HX : Hid (AD = 1) := HF (by rw [hD, decide_eq_false hN, hgp]; rfl)
                  clear HF HH hD hN hE hO
                  go_quiet (fail)
                  obtain ⟨WD, hWD⟩ : ∃ W, V1.drewN nq = W := ⟨_, rfl⟩
                  have BW : Below V1.heap.size V1 WD := by rw [← hWD]; exact belowN _
                  rw [hWD]
                  clear hWD
                  go_wp2_with fail
                  go_meet
                  exact ⟨_, rfl, fun _ => HX.out, (fun c => by cases c), BW⟩
                | true =>
                  have HX : Hid (AD = if ((F0, F1, F2) : Ob) = (f0, f1, f2) then 0 else 6) := HH hno (by rw [hD, decide_eq_false hN, hgp]; rfl)
                  clear HF HH hD hN hE hO
                  go_quiet (fail)
                  obtain ⟨WD, hWD⟩ : ∃ W, V1.drewN nq = W := ⟨_, rfl⟩
                  have BW : Below V1.heap.size V1 WD := by rw [← hWD]; exact belowN _
                  rw [hWD]
                  clear hWD
                  go_wp2_with fail
                  go_meet
                  exact ⟨_, rfl, (fun c => by cases c), fun _ => HX.out, BW⟩
            · have fO := fun w => ef_some hO w
              cases hfp : (f0.toList == p.toList) with
              | false =>
                have HX : Hid (AD = 1) := HF (by rw [hD, decide_eq_false hO, hfp]; rfl)
                clear HF HH hD hE hO
                go_quiet (fail)
                obtain ⟨WD, hWD⟩ : ∃ W, V1.drewN nq = W := ⟨_, rfl⟩
                have BW : Below V1.heap.size V1 WD := by rw [← hWD]; exact belowN _
                rw [hWD]
                clear hWD
                go_wp2_with fail
                go_meet
                exact ⟨_, rfl, fun _ => HX.out, (fun c => by cases c), BW⟩
              | true =>
                replace hD := hD.trans (by rw [hfp, Bool.or_true])
                by_cases hN : ((g0, g1, g2) : Ob) = onil
                · have fN := fun w => ef_nil hN w
                  have HX : Hid (AD = if ((F0, F1, F2) : Ob) = (f0, f1, f2) then 0 else 6) := HH hno (by rw [hD, decide_eq_true hN]; rfl)
                  clear HF HH hD hN hE hO
                  go_quiet (fail)
                  obtain ⟨WD, hWD⟩ : ∃ W, V1.drewN nq = W := ⟨_, rfl⟩
                  have BW : Below V1.heap.size V1 WD := by rw [← hWD]; exact belowN _
                  rw [hWD]
                  clear hWD
                  go_wp2_with fail
                  go_meet
                  exact ⟨_, rfl, (fun c => by cases c), fun _ => HX.out, BW⟩
                · have fN := fun w => ef_some hN w
                  cases hgp : (g0.toList == p.toList) with
                  | false =>
                    have HX : Hid (AD = 1) := HF (by rw [hD, decide_eq_false hN, hgp]; rfl)
                    clear HF HH hD hN hE hO
                    go_quiet (fail)
                    obtain ⟨WD, hWD⟩ : ∃ W, V1.drewN nq = W := ⟨_, rfl⟩
                    have BW : Below V1.heap.size V1 WD := by rw [← hWD]; exact belowN _
                    rw [hWD]
                    clear hWD
                    go_wp2_with fail
                    go_meet
                    exact ⟨_, rfl, fun _ => HX.out, (fun c => by cases c), BW⟩
                  | true =>
                    have HX : Hid (AD = if ((F0, F1, F2) : Ob) = (f0, f1, f2) then 0 else 6) := HH hno (by rw [hD, decide_eq_false hN, hgp]; rfl)
                    clear HF HH hD hN hE hO
                    go_quiet (fail)
                    obtain ⟨WD, hWD⟩ : ∃ W, V1.drewN nq = W := ⟨_, rfl⟩
                    have BW : Below V1.heap.size V1 WD := by rw [← hWD]; exact belowN _
                    rw [hWD]
                    clear hWD
                    go_wp2_with fail
                    go_meet
                    exact ⟨_, rfl, (fun c => by cases c), fun _ => HX.out, BW⟩
      case rest =>
      rename World => wx
      obtain ⟨c, rfl, hct, hcf, bx⟩ := hcut
      have BX : Below W3.heap.size W3 wx := BV1.trans (bx.mono zv)
      clear hP1 HR HF HH m0 m1 m2 m3 m4 m5 m6 d0 d1 d2 d3 d4 d5 d6 HV1 u0 u1 u2
      cases c with
      | true =>
        have e1 := hct rfl
        subst e1
        have HX := HC1 1 rfl (by decide)
        clear hct hcf HG HC1
        have R9 : Rf wx w.heap.size [.int .i64 0, .slice none 0 0] := rfBelowAt r2 BX (by omega)
        have BB9 : Below w.heap.size w wx := B2.trans (BX.mono (by omega))
        clear hOk hBadX hFa A3 D3 hAll hbel r2 B2 BX BV1 bx r3 s6
        have c0 := R9.at_ 0 _ rfl
        have c1 := R9.at_ 1 _ rfl
        have k0 := R9.fz 0
        have k1 := R9.fz 1
        have RV := (R9.set (o := 0) (by simp) (.int .i64 1)).set (o := 1) (by simp) (.slice none 0 0)
        have BV := (BB9.setCell (p := ⟨w.heap.size, 0, none⟩) (Nat.le_refl _) (.int .i64 1)).setCell (p := ⟨w.heap.size, 1, none⟩) (Nat.le_refl _) (.slice none 0 0)
        obtain ⟨V, hV⟩ : ∃ V, (wx.setCell ⟨w.heap.size, 0, none⟩ (.int .i64 1)).setCell ⟨w.heap.size, 1, none⟩ (.slice none 0 0) = V := ⟨_, rfl⟩
        rw [hV] at RV BV
        have HV : Hid (_ = V) := hV
        have v0 := RV.at_ 0 _ rfl
        have v1 := RV.at_ 1 _ rfl
        have HS := HX V BV
        clear hV RV BV R9 BB9
        go_wp2
        rw [HV.out]
        refine bodyPost_ret (v := .agg #[.int .i64 1, .slice none 0 0]) (by simp [results, Tryd.results15, go_sem, v0, v1]) rfl ?_
        exact HS
      | false =>
        have e1 := hcf rfl
        clear hct hcf
        have rx := r3.below zq bx
        have zx : W3.heap.size ≤ wx.heap.size := BX.size
        have zqx : q < wx.heap.size := Nat.lt_of_lt_of_le zq bx.size
        have bd : Below wx.heap.size wx wx.drew := belowN 1
        have Bd : Below W3.heap.size W3 wx.drew := BX.trans (bd.mono zx)
        have rd := rx.below zqx bd
        have m0 := rd.at_ 0 _ rfl
        have m1 := rd.at_ 1 _ rfl
        have m2 := rd.at_ 2 _ rfl
        have m3 := rd.at_ 3 _ rfl
        have hF1 := hFa wx.drew Bd
        have hA8 : ∀ W, Below wx.drew.heap.size wx.drew W → W.cell? ⟨q, 1, none⟩ = some (.string f0) ∧ W.cell? ⟨q, 2, none⟩ = some (.int .i64 f1) ∧ W.cell? ⟨q, 3, none⟩ = some (.string f2) := fun W b => ⟨(b.cell (p := ⟨q, 1, none⟩) zqx).trans m1, (b.cell (p := ⟨q, 2, none⟩) zqx).trans m2, (b.cell (p := ⟨q, 3, none⟩) zqx).trans m3⟩
        have zd : W3.heap.size ≤ wx.drew.heap.size := zx
        clear hFa BV1 bx r3 rx rd bd BX s6
        by_cases hE : ((F0, F1, F2) : Ob) = (f0, f1, f2)
        · have fq := fun w => ef_yes hE w
          rw [if_pos hE] at e1
          have HN := HG e1
          clear HG HC1 hOk hBadX hAll A3 D3 r2 B2 hE
          go_wp2_with fail
          go_region_law (first
            | (refine step_callEs rfl 26 enterFi (.tmp 80) (.tmp 82) _ rfl _ _ rfl rfl hF1 ?_; rintro e w8 ⟨rfl, b8⟩; refine ⟨_, rfl, ?_⟩; obtain ⟨n1, n2, n3⟩ := hA8 w8 b8))
          all_goals
            have B8 : Hid (Below W3.heap.size W3 w8) := Bd.trans (b8.mono zd)
            clear b8 Bd hF1 hA8 m0 m1 m2 m3 n1 n2 n3
            go_wp2
            go_roundw
            case rel => exact ⟨k + 1, by omega, by go_num, HN, B8.out⟩
            case measure => first | (simp [intOf]; omega) | simp [intOf]
        · have fq := fun w => ef_no hE w
          rw [if_neg hE] at e1
          subst e1
          have HX := HC1 6 rfl (by decide)
          clear HG HC1 hOk hBadX hAll A3 D3 hE
          go_wp2_with fail
          go_region_law (first
            | (refine step_callEs rfl 26 enterFi (.tmp 80) (.tmp 82) _ rfl _ _ rfl rfl hF1 ?_; rintro e w8 ⟨rfl, b8⟩; refine ⟨_, rfl, ?_⟩; obtain ⟨n1, n2, n3⟩ := hA8 w8 b8))
          all_goals
            have B8 : Below W3.heap.size W3 w8 := Bd.trans (b8.mono zd)
            have R9 : Rf w8 w.heap.size [.int .i64 0, .slice none 0 0] := rfBelowAt r2 B8 (by omega)
            have BB9 : Below w.heap.size w w8 := B2.trans (B8.mono (by omega))
            clear b8 Bd hF1 hA8 m0 m1 m2 m3 n1 n2 n3 B8 r2 B2
            have c0 := R9.at_ 0 _ rfl
            have c1 := R9.at_ 1 _ rfl
            have k0 := R9.fz 0
            have k1 := R9.fz 1
            have RV := (R9.set (o := 0) (by simp) (.int .i64 6)).set (o := 1) (by simp) (.slice none 0 0)
            have BV := (BB9.setCell (p := ⟨w.heap.size, 0, none⟩) (Nat.le_refl _) (.int .i64 6)).setCell (p := ⟨w.heap.size, 1, none⟩) (Nat.le_refl _) (.slice none 0 0)
            obtain ⟨V, hV⟩ : ∃ V, (w8.setCell ⟨w.heap.size, 0, none⟩ (.int .i64 6)).setCell ⟨w.heap.size, 1, none⟩ (.slice none 0 0) = V := ⟨_, rfl⟩
            rw [hV] at RV BV
            have HV : Hid (_ = V) := hV
            have v0 := RV.at_ 0 _ rfl
            have v1 := RV.at_ 1 _ rfl
            have HS := HX V BV
            clear hV RV BV R9 BB9
            go_wp2
            rw [HV.out]
            refine bodyPost_ret (v := .agg #[.int .i64 6, .slice none 0 0]) (by simp [results, Tryd.results15, go_sem, v0, v1]) rfl ?_
            exact HS
    · have q0 : ¬ (k : Int) < (D.length : Int) := by omega
      have ek : k = D.length := by omega
      subst ek
      have hA0 : ∀ j, j < D.length → apD la D j = 0 := hAll.out
      have hpf := apD_all hA0
      have I0 := AI.zero (D := D) hra hnl
      have IS : ∀ L S k, AI la D L k → k < D.length → S.Perm (kp L (D.getD k Dl.onil).1 L.length ++ (if (D.getD k Dl.onil).2.2 = onil then [] else [(D.getD k Dl.onil).2.2])) → Sd S → AI la D S (k + 1) := fun L S k h hk hp hs => h.step hpf.1 (fun d hd => (hpf.2 d hd).2) hk (by rw [kp_put]; exact hp) hs
      have IE : ∀ L, AI la D L D.length → Hid (L = fb la D) := fun L h => h.stop hra hnl hpf.1 hpf.2
      have IL : ∀ L k, AI la D L k → L.length ≤ la.length + k := fun L k h => h.len
      have sL := fb_small D la sa sb
      have nL := fb_len D la
      have hX := hBadX hA0
      have hO := hOk hA0
      obtain ⟨IN, hIN⟩ : ∃ I, AI la D = I := ⟨_, rfl⟩
      obtain ⟨RS, hRS⟩ : ∃ L, fb la D = L := ⟨_, rfl⟩
      simp only [hIN, hRS] at I0 IS IE IL sL nL hX hO
      obtain ⟨FR, hFR⟩ : ∃ F, ffl RS = F := ⟨_, rfl⟩
      simp only [hFR] at hX hO
      have HFR : Hid (ffl RS = FR) := hFR
      have Bw : Below w.heap.size w wr := B2.trans (hbel.mono (by omega))
      have r3 : Rf wr w.heap.size [.int .i64 0, .slice none 0 0] := rfBelowAt r2 hbel (by omega)
      have s3 : Rf wr q6 [.string ⟨#[]⟩, .int .i64 0, .string ⟨#[]⟩] := rfBelowAt s6 hbel (by omega)
      have z4 : q6 + 1 ≤ wr.heap.size := by omega
      have zq6 : w.heap.size < q6 := by omega
      have Aw : OB w.heap.size wr (some ⟨ga, 0, none⟩) la := belowAt A3 hbel (by omega)
      have Dw : Dl.OB w.heap.size wr b D := D3.below hbel
      clear hBadX hBadD hOk hAll hA0 hpf A3 D3 hra hnl hbel r2 s6 B2 hIN hRS hFR z3 hsz
      obtain ⟨V3, rfl⟩ : ∃ V, V = wr := ⟨_, rfl⟩
      have b5 := allocBelow V3 (.cells #[] 52)
      have o5 := litE V3
      have A5 : OB w.heap.size (V3.alloc (.cells #[] 52)) (some ⟨ga, 0, none⟩) la := belowAt Aw b5 (by omega)
      have z5 := b5.size
      clear Aw
      go_wp2_with (at_builtin; refine stopMark ?_)
      change wpList _ _ _ _ _ _
      refine wpList_appO rfl (.tmp 88) (.tmp 89) rfl V3.heap.size (.slice (some ⟨V3.heap.size, 0, none⟩) 0 0) [] rfl o5 (some ⟨ga, 0, none⟩) ca _ la rfl A5 (fun h => by cases h) (by simp; omega) z5 ?_
      intro v2 w4 o2 g2
      rw [List.nil_append] at o2
      have B4 : Below V3.heap.size V3 w4 := b5.grown g2 z5 (fun j hj => (o5.lt j hj).1)
      clear b5 o5 A5 g2 z5
      go_wp2
      go_loopw [10, 9] (fun i v wr => ∃ (k : Nat) (L : List Ob), k ≤ D.length ∧ i = .int .i64 k ∧ wr.ownsRow V3.heap.size 52 3 v L.length (ocells L) ∧ Below V3.heap.size V3 wr ∧ IN L k) (fun i _ _ => D.length - (intOf i).toNat)
      case atStart => exact ⟨0, la, Nat.zero_le _, rfl, o2, B4, I0⟩
      case round =>
        obtain ⟨k, L, hk, rfl, hown, hbel, hI⟩ := hrel
        have hsz := hbel.size
        have hL := IL L k hI
        clear o2 B4 I0 q0
        obtain ⟨av, cv, rfl⟩ := shapeK3 hown
        obtain ⟨V, rfl⟩ : ∃ V, V = wr := ⟨_, rfl⟩
        by_cases hlt : k < D.length
        · have q0 : (k : Int) < (D.length : Int) := by omega
          obtain ⟨g, off, e, hg, d0, d1, d2, d3, d4, d5, d6⟩ := (Dw.below hbel) k hlt
          subst e
          have ISk := fun S => IS L S k hI hlt
          obtain ⟨C, hC⟩ : ∃ C, D.getD k Dl.onil = C := ⟨_, rfl⟩
          obtain ⟨p, F, ⟨g0, g1, g2⟩⟩ := C
          simp only [hC] at ISk d0 d4 d5 d6
          have b5 := allocBelow V (.cells #[] 52)
          have o5 := litE V
          have OBL : OB V.heap.size V av L := OB.of hown
          have s4 : Rf V q6 [.string ⟨#[]⟩, .int .i64 0, .string ⟨#[]⟩] := rfBelowAt s3 hbel (by omega)
          clear IS IE hC d1 d2 d3 hown sL nL hX hO HFR IL hI r3 s3 Dw Bw
          go_wp2
          go_loopw [12, 11] (fun j m wr => ∃ jn : Nat, jn ≤ L.length ∧ j = .int .i64 jn ∧ wr.ownsRow V.heap.size 52 3 m (kp L p jn).length (ocells (kp L p jn)) ∧ Below V.heap.size V wr) (fun j _ _ => L.length - (intOf j).toNat)
          case atStart => exact ⟨0, Nat.zero_le _, rfl, by rw [kp_zero]; exact o5, b5⟩
          case round =>
            obtain ⟨j, hj, rfl, ho, hb⟩ := hrel
            have hbz := hb.size
            clear o5 b5
            have kl := kp_len L p j
            by_cases hjl : j < L.length
            · have q1 : (j : Int) < (L.length : Int) := by omega
              have e0 := (hb.cell (p := ⟨g, off + k * 7, none⟩) (show g < _ by omega)).trans d0
              obtain ⟨g', off', e', hg', c0, c1, c2⟩ := (belowAt OBL hb (Nat.le_refl _)) j hjl
              subst e'
              have hK := kp_at (p := p) hjl
              obtain ⟨X, hX⟩ : ∃ X, L.getD j onil = X := ⟨_, rfl⟩
              obtain ⟨x0, x1, x2⟩ := X
              obtain ⟨T, hT⟩ : ∃ T, kp L p j = T := ⟨_, rfl⟩
              rw [hX] at c0 c1 c2 hK
              rw [hT] at hK ho kl
              simp only [] at c0 c1 c2 hK
              clear hT hX d0 d4 d5 d6 ISk s4 OBL
              cases hxp : (x0.toList == p.toList) with
              | true =>
                rw [if_pos (eqBytes hxp), List.append_nil] at hK
                have HK : Hid (kp L p (j + 1) = T) := hK
                clear hK
                go_wp2
                go_quiet (fail)
                obtain ⟨WD, hWD⟩ : ∃ W, wr.drewN nq = W := ⟨_, rfl⟩
                have bD : Below wr.heap.size wr WD := by rw [← hWD]; exact belowN _
                have oD := ho.kept (grownOfBelow bD none) (blockCases _ _ fun b c1 c2 => by cases c2)
                have BD : Below V.heap.size V WD := hb.trans (bD.mono hbz)
                rw [hWD]
                clear hWD
                clear bD hb ho
                have OD : Hid (World.ownsRow _ _ _ _ _ _ _) := oD
                have HBD : Hid (Below V.heap.size V WD) := BD
                clear oD BD c0 c1 c2 e0
                go_wp2
                go_roundw
                case rel => exact ⟨j + 1, by omega, by go_num, by rw [HK.out]; exact OD.out, HBD.out⟩
                case measure => first | (simp [intOf]; omega) | simp [intOf]
              | false =>
                have hx : ¬ x0 = p := fun e => by rw [e, beq_bytes_true rfl] at hxp; cases hxp
                rw [if_neg hx] at hK
                have HK : Hid (kp L p (j + 1) = T ++ [(x0, x1, x2)]) := hK
                clear hK
                go_wp2
                go_quiet (fail)
                obtain ⟨WD, hWD⟩ : ∃ W, wr.drewN nq = W := ⟨_, rfl⟩
                have bD : Below wr.heap.size wr WD := by rw [← hWD]; exact belowN _
                have oD := ho.kept (grownOfBelow bD none) (blockCases _ _ fun b c1 c2 => by cases c2)
                have BD : Below V.heap.size V WD := hb.trans (bD.mono hbz)
                rw [hWD]
                clear hWD
                have c0 := (bD.cell (p := ⟨g', off' + j * 3, none⟩) (show g' < _ by omega)).trans c0
                have c1 := (bD.cell (p := ⟨g', off' + j * 3 + 1, none⟩) (show g' < _ by omega)).trans c1
                have c2 := (bD.cell (p := ⟨g', off' + j * 3 + 2, none⟩) (show g' < _ by omega)).trans c2
                clear bD hb ho e0
                have bN := allocBelow WD (.cells #[.string x0, .int .i64 x1, .string x2] 52)
                have zA := BD.size
                have oN := oD.kept (grownOfBelow bN none) (blockCases _ _ fun b c1 c2 => by cases c2)
                have zN := bN.size
                have sN : (WD.alloc (.cells #[.string x0, .int .i64 x1, .string x2] 52)).heap.size = WD.heap.size + 1 := World.size_alloc _ _
                have nw1 : OB (WD.heap.size + 1) (WD.alloc (.cells #[.string x0, .int .i64 x1, .string x2] 52)) (some ⟨WD.heap.size, 0, none⟩) [(x0, x1, x2)] := newOne WD x0 x1 x2
                have HBN : Hid (Below V.heap.size V (WD.alloc (.cells #[.string x0, .int .i64 x1, .string x2] 52))) := BD.trans (bN.mono zA)
                clear bN oD BD
                go_wp2_with (at_builtin; refine stopMark ?_)
                change wpList _ _ _ _ _ _
                refine wpList_appO rfl (.tmp 115) (.tmp 120) rfl V.heap.size _ T rfl oN (some ⟨WD.heap.size, 0, none⟩) 1 _ [(x0, x1, x2)] rfl nw1 (fun h => by cases h) (by simp; omega) (by omega) ?_
                intro v5 w5 o5 g5
                have B5 : Below V.heap.size V w5 := HBN.out.grown g5 (by omega) (fun j hj => (oN.lt j hj).1)
                clear oN nw1 g5 HBN
                have O5 : Hid (World.ownsRow _ _ _ _ _ _ _) := o5
                have HB5 : Hid (Below V.heap.size V w5) := B5
                clear o5 B5 c0 c1 c2
                go_wp2
                go_roundw
                case rel => exact ⟨j + 1, by omega, by go_num, by rw [HK.out]; exact O5.out, HB5.out⟩
                case measure => first | (simp [intOf]; omega) | simp [intOf]
            · have q1 : ¬ (j : Int) < (L.length : Int) := by omega
              have ej : j = L.length := by omega
              subst ej
              obtain ⟨K, hK⟩ : ∃ K, kp L p L.length = K := ⟨_, rfl⟩
              rw [hK] at ho kl
              simp only [hK] at ISk
              have e4 := (hb.cell (p := ⟨g, off + k * 7 + 4, none⟩) (show g < _ by omega)).trans d4
              have e5 := (hb.cell (p := ⟨g, off + k * 7 + 5, none⟩) (show g < _ by omega)).trans d5
              have e6 := (hb.cell (p := ⟨g, off + k * 7 + 6, none⟩) (show g < _ by omega)).trans d6
              have s5 : Rf wr q6 [.string ⟨#[]⟩, .int .i64 0, .string ⟨#[]⟩] := rfBelowAt s4 hb (by omega)
              have u0 := s5.at_ 0 _ rfl
              have u1 := s5.at_ 1 _ rfl
              have u2 := s5.at_ 2 _ rfl
              clear hK d0 d4 d5 d6 OBL s4 s5
              by_cases hN : ((g0, g1, g2) : Ob) = onil
              · have fN := fun w => ef_nil hN w
                simp only [if_pos hN, List.append_nil] at ISk
                clear hN
                go_wp2
                go_quiet (fail)
                obtain ⟨WD, hWD⟩ : ∃ W, wr.drewN nq = W := ⟨_, rfl⟩
                have bD : Below wr.heap.size wr WD := by rw [← hWD]; exact belowN _
                have oD := ho.kept (grownOfBelow bD none) (blockCases _ _ fun b c1 c2 => by cases c2)
                have BD : Below V.heap.size V WD := hb.trans (bD.mono hbz)
                rw [hWD]
                clear hWD
                clear bD hb ho e4 e5 e6 u0 u1 u2
                obtain ⟨am, cm, rfl⟩ := shapeK3 oD
                have hSo := l7SortC am cm K WD (OB.of oD) (by (try simp only [List.length_append, List.length_singleton]); omega)
                unfold SP at hSo
                have HB7 : Hid (Below V.heap.size V WD) := BD
                have zW7 := HB7.out.size
                clear oD BD
                try clear lKK
                go_wp2_with fail
                refine hSo.mono ?_; rintro e w7 ⟨S, gS, cS, rfl, oS, bS, sS, pS⟩
                have O7 : Hid (w7.ownsRow V3.heap.size 52 3 (.slice (some ⟨gS, 0, none⟩) S.length cS) S.length (ocells S)) := ownMonoF oS (by omega)
                have B7 : Hid (Below V3.heap.size V3 w7) := hbel.trans ((HB7.out.trans (bS.mono zW7)).mono hsz)
                have I7 : Hid (IN S (k + 1)) := ISk S pS sS
                clear hSo oS bS sS pS HB7
                go_wp2
                go_roundw
                case rel => exact ⟨k + 1, S, by omega, by go_num, O7.out, B7.out, I7.out⟩
                case measure => first | (simp [intOf]; omega) | simp [intOf]
              · have fN := fun w => ef_some hN w
                simp only [if_neg hN] at ISk
                clear hN
                go_wp2
                go_quiet (fail)
                obtain ⟨WD, hWD⟩ : ∃ W, wr.drewN nq = W := ⟨_, rfl⟩
                have bD : Below wr.heap.size wr WD := by rw [← hWD]; exact belowN _
                have oD := ho.kept (grownOfBelow bD none) (blockCases _ _ fun b c1 c2 => by cases c2)
                have BD : Below V.heap.size V WD := hb.trans (bD.mono hbz)
                rw [hWD]
                clear hWD
                have e4 := (bD.cell (p := ⟨g, off + k * 7 + 4, none⟩) (show g < _ by omega)).trans e4
                have e5 := (bD.cell (p := ⟨g, off + k * 7 + 5, none⟩) (show g < _ by omega)).trans e5
                have e6 := (bD.cell (p := ⟨g, off + k * 7 + 6, none⟩) (show g < _ by omega)).trans e6
                clear bD hb ho u0 u1 u2
                have bN := allocBelow WD (.cells #[.string g0, .int .i64 g1, .string g2] 52)
                have zA := BD.size
                have oN := oD.kept (grownOfBelow bN none) (blockCases _ _ fun b c1 c2 => by cases c2)
                have zN := bN.size
                have sN : (WD.alloc (.cells #[.string g0, .int .i64 g1, .string g2] 52)).heap.size = WD.heap.size + 1 := World.size_alloc _ _
                have nw1 : OB (WD.heap.size + 1) (WD.alloc (.cells #[.string g0, .int .i64 g1, .string g2] 52)) (some ⟨WD.heap.size, 0, none⟩) [(g0, g1, g2)] := newOne WD g0 g1 g2
                have HBN : Hid (Below V.heap.size V (WD.alloc (.cells #[.string g0, .int .i64 g1, .string g2] 52))) := BD.trans (bN.mono zA)
                clear bN oD BD
                go_wp2_with (at_builtin; refine stopMark ?_)
                change wpList _ _ _ _ _ _
                refine wpList_appO rfl (.tmp 129) (.tmp 135) rfl V.heap.size _ K rfl oN (some ⟨WD.heap.size, 0, none⟩) 1 _ [(g0, g1, g2)] rfl nw1 (fun h => by cases h) (by simp; omega) (by omega) ?_
                intro v5 w5 o5 g5
                have B5 : Below V.heap.size V w5 := HBN.out.grown g5 (by omega) (fun j hj => (oN.lt j hj).1)
                clear oN nw1 g5 HBN
                clear e4 e5 e6
                have lKK : (K ++ [(g0, g1, g2)]).length = K.length + 1 := by simp
                obtain ⟨KK, hKK⟩ : ∃ X, K ++ [(g0, g1, g2)] = X := ⟨_, rfl⟩
                rw [hKK] at o5 lKK
                simp only [hKK] at ISk
                clear hKK
                obtain ⟨am, cm, rfl⟩ := shapeK3 o5
                have hSo := l7SortC am cm KK w5 (OB.of o5) (by (try simp only [List.length_append, List.length_singleton]); omega)
                unfold SP at hSo
                have HB7 : Hid (Below V.heap.size V w5) := B5
                have zW7 := HB7.out.size
                clear o5 B5
                try clear lKK
                go_wp2_with fail
                refine hSo.mono ?_; rintro e w7 ⟨S, gS, cS, rfl, oS, bS, sS, pS⟩
                have O7 : Hid (w7.ownsRow V3.heap.size 52 3 (.slice (some ⟨gS, 0, none⟩) S.length cS) S.length (ocells S)) := ownMonoF oS (by omega)
                have B7 : Hid (Below V3.heap.size V3 w7) := hbel.trans ((HB7.out.trans (bS.mono zW7)).mono hsz)
                have I7 : Hid (IN S (k + 1)) := ISk S pS sS
                clear hSo oS bS sS pS HB7
                go_wp2
                go_roundw
                case rel => exact ⟨k + 1, S, by omega, by go_num, O7.out, B7.out, I7.out⟩
                case measure => first | (simp [intOf]; omega) | simp [intOf]
        · have q0 : ¬ (k : Int) < (D.length : Int) := by omega
          have ek : k = D.length := by omega
          subst ek
          have HE := (IE L hI).out
          subst HE
          clear IE IS hI IL
          have hFF := specFilesFault av cv L V (OB.of hown) sL (by omega)
          rw [HFR.out] at hFF
          have BV3 : Below w.heap.size w V := Bw.trans (hbel.mono (by omega))
          have rV : Rf V w.heap.size [.int .i64 0, .slice none 0 0] := rfBelowAt r3 hbel (by omega)
          clear hbel Dw r3 s3 Bw
          go_wp2_with fail
          refine hFF.mono ?_; rintro e w5 ⟨rfl, b5⟩
          have o6 := hown.kept (grownOfBelow b5 none) (blockCases _ _ fun b c1 c2 => by cases c2)
          have B5 : Below w.heap.size w w5 := BV3.trans (b5.mono (by omega))
          have r5 : Rf w5 w.heap.size [.int .i64 0, .slice none 0 0] := rfBelowAt rV b5 (by omega)
          clear hFF b5 rV BV3 hown HFR
          by_cases h1 : FR = 0
          rotate_left
          · have qn : (FR != 0) = true := ne_beq h1
            clear hO o6
            have c0 := r5.at_ 0 _ rfl
            have c1 := r5.at_ 1 _ rfl
            have k0 := r5.fz 0
            have k1 := r5.fz 1
            have RV := (r5.set (o := 0) (by simp) (.int .i64 FR)).set (o := 1) (by simp) (.slice none 0 0)
            have BV := (B5.setCell (p := ⟨w.heap.size, 0, none⟩) (Nat.le_refl _) (.int .i64 FR)).setCell (p := ⟨w.heap.size, 1, none⟩) (Nat.le_refl _) (.slice none 0 0)
            obtain ⟨V, hV⟩ : ∃ V, (w5.setCell ⟨w.heap.size, 0, none⟩ (.int .i64 FR)).setCell ⟨w.heap.size, 1, none⟩ (.slice none 0 0) = V := ⟨_, rfl⟩
            rw [hV] at RV BV
            have HV : Hid (_ = V) := hV
            have v0 := RV.at_ 0 _ rfl
            have v1 := RV.at_ 1 _ rfl
            have HS := hX h1 V BV
            clear hV RV BV r5 B5
            go_wp2
            rw [HV.out]
            refine bodyPost_ret (v := .agg #[.int .i64 FR, .slice none 0 0]) (by simp [results, Tryd.results15, go_sem, v0, v1]) rfl ?_
            exact HS
          subst h1
          replace hO := hO (by trivial)
          clear hX
          have c0 := r5.at_ 0 _ rfl
          have c1 := r5.at_ 1 _ rfl
          have k0 := r5.fz 0
          have k1 := r5.fz 1
          have RV := (r5.set (o := 0) (by simp) (.int .i64 0)).set (o := 1) (by simp) (.slice av L.length cv)
          have BV := (B5.setCell (p := ⟨w.heap.size, 0, none⟩) (Nat.le_refl _) (.int .i64 0)).setCell (p := ⟨w.heap.size, 1, none⟩) (Nat.le_refl _) (.slice av L.length cv)
          have oV := o6.kept (grownTrans (grownSet _ w.heap.size 0 (.int .i64 0)) (grownSet _ w.heap.size 1 (.slice av L.length cv))) (blockCases _ _ fun j q1 q2 => by cases q2; have := (o6.lt _ q1).1; omega)
          clear o6
          obtain ⟨V, hV⟩ : ∃ V, (w5.setCell ⟨w.heap.size, 0, none⟩ (.int .i64 0)).setCell ⟨w.heap.size, 1, none⟩ (.slice av L.length cv) = V := ⟨_, rfl⟩
          rw [hV] at RV BV oV
          have HV : Hid (_ = V) := hV
          have v0 := RV.at_ 0 _ rfl
          have v1 := RV.at_ 1 _ rfl
          have HS := hO _ V3.heap.size V oV (by omega) BV
          clear hV RV BV r5 B5
          go_wp2
          rw [HV.out]
          refine bodyPost_ret (v := .agg #[.int .i64 0, .slice av L.length cv]) (by simp [results, Tryd.results15, go_sem, v0, v1]) rfl ?_
          exact HS
end Go.Proofs.YtaggjnaogmhfpaaDoor.Fl
