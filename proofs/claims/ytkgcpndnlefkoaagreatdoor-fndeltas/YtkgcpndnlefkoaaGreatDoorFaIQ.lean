/- The contract of impl.ApplyDeltas. No statement is proved here. -/
import Derived.Test.YtkgcpndnlefkoaaGreatDoorRows
import Derived.Test.YtkgcpndnlefkoaaGreatDoorLemQ
import Derived.Test.YtkgcpndnlefkoaaGreatDoorDTabQ
import Derived.Test.YtkgcpndnlefkoaaGreatDoorInQ
import Derived.Test.YtkgcpndnlefkoaaGreatDoorLFLemQ
import Derived.Test.YtkgcpndnlefkoaaGreatDoorFfCQ
import Derived.Test.YtkgcpndnlefkoaaGreatDoorFfIQ
import Derived.Test.YtkgcpndnlefkoaaGreatDoorDfMQ
import Derived.Test.YtkgcpndnlefkoaaGreatDoorDfBQ
import Derived.Test.YtkgcpndnlefkoaaGreatDoorShelfCQ
import Derived.Test.YtkgcpndnlefkoaaGreatDoorDfPQ
import Derived.Test.YtkgcpndnlefkoaaGreatDoorDfQQ
import Derived.Test.YtkgcpndnlefkoaaGreatDoorDfGQ
import Derived.Test.YtkgcpndnlefkoaaGreatDoorShelfQ
import Derived.Test.YtkgcpndnlefkoaaGreatDoorDlLQ
import Derived.Test.YtkgcpndnlefkoaaGreatDoorApMQ
import Derived.Test.YtkgcpndnlefkoaaGreatDoorApQQ
import Derived.Test.YtkgcpndnlefkoaaGreatDoorFbIQ
import Derived.WalkKit
import Derived.ProofKit
import Derived.Below
import Derived.WalkSpells
import Derived.Deep.QuietTactic
import Derived.BigQuiet
import Derived.Deep.RegionWith
import Derived.Deep.RegionHeld
import Derived.Deep.RegionLaw
import Derived.Deep.CutRange
import Derived.Maps.AppendAt
import Derived.Laws.BitsLemmas
import Derived.Laws.Cover1
set_option linter.unusedVariables false
namespace Go.Proofs.YtkgcpndnlefkoaaGreatDoor.Fl
open Go.ChangeShapes Go.WideShapes Go.ChangeAt Go.RowKit
theorem step_callG {ops : Array Oper} {o : Oper} {a : Act} {w : World} {K : Act → World → Prop} {Q : Exit → Act → World → Prop} {E : Prop}
    (hw : Region.wanted o (yielded ops a.tmps) = true) (f : FuncId) (hf : ∀ vs w, (callFunc f vs).run Tryz.prog w = .ok (.enter f vs) w) (x1 : Operand) (ts : Array TypeId) (hop : o.op = Op.call { callee := Callee.value (Operand.func f), args := #[x1], argTypes := ts })
    (v1 : Value) (h1 : a.eval x1 = v1) {P : Ending → World → Prop} (hc : Calls Tryz.prog f #[v1] w P) (hK : ∀ e w', P e w' → ∃ v, e = .returned v ∧ K (a.put o.dst v) w') :
    if Region.wanted o (yielded ops a.tmps) = true then Oper.wp Tryz.prog o a w K Q else E := by
  rw [if_pos hw]
  have hrun : (execOp a.eval o).run Tryz.prog w = .ok (.enter f #[v1]) w := by
    simp [execOp, hop, resolve, invoke, go_sem, hf]
    cases x1 with | tmp t => simpa [Act.eval] using h1 | const v => exact h1 | global g => exact h1 | func f => exact h1
  unfold Oper.wp
  rw [hrun, Oper.upon_enter]
  refine hc.mono ?_
  intro e w' hp
  obtain ⟨v, rfl, hk⟩ := hK e w' hp
  exact hk
theorem step_callE {ops : Array Oper} {o : Oper} {a : Act} {w : World} {K : Act → World → Prop} {Q : Exit → Act → World → Prop} {E : Prop}
    (hg : o.guard = none) (f : FuncId) (hf : ∀ vs w, (callFunc f vs).run Tryz.prog w = .ok (.enter f vs) w) (x1 x2 : Operand) (ts : Array TypeId) (hop : o.op = Op.call { callee := Callee.value (Operand.func f), args := #[x1, x2], argTypes := ts })
    (v1 v2 : Value) (h1 : a.eval x1 = v1) (h2 : a.eval x2 = v2) {P : Ending → World → Prop} (hc : Calls Tryz.prog f #[v1, v2] w P) (hK : ∀ e w', P e w' → ∃ v, e = .returned v ∧ K (a.put o.dst v) w') :
    if Region.wanted o (yielded ops a.tmps) = true then Oper.wp Tryz.prog o a w K Q else E := by
  have hw : Region.wanted o (yielded ops a.tmps) = true := by simp [Region.wanted, hg]
  rw [if_pos hw]
  have hrun : (execOp a.eval o).run Tryz.prog w = .ok (.enter f #[v1, v2]) w := by
    have e1 : a.eval x1 = v1 := h1
    have e2 : a.eval x2 = v2 := h2
    simp [execOp, hop, resolve, invoke, go_sem, hf]
    constructor
    · cases x1 with | tmp t => simpa [Act.eval] using h1 | const v => exact h1 | global g => exact h1 | func f => exact h1
    · cases x2 with | tmp t => simpa [Act.eval] using h2 | const v => exact h2 | global g => exact h2 | func f => exact h2
  unfold Oper.wp
  rw [hrun, Oper.upon_enter]
  refine hc.mono ?_
  intro e w' hp
  obtain ⟨v, rfl, hk⟩ := hK e w' hp
  exact hk
theorem takeD {P : Program} {md : Region.Mode} {ops : Array Oper} {Q : Exit → Act → World → Prop} {S : World → Prop} {i d : Nat} {oi : Oper} {v : Value} {fuel : Nat} {listed listed' : Array Bool} {a : Act} {w : World} (hi : ops[i]? = some oi)
    (hs : Region.noSelect ops = true) (hf : Region.free md ops listed i = true) (hr : (Region.ready md ops listed).contains i = true)
    (hQ : ∀ c a w, Q (.panic c) (a.put oi.dst v) w → Q (.panic c) a w) (hy : YieldsIf P ops S oi v a) (hS : S w) (hd : oi.dst = some d) (hl : listed.setIfInBounds i true = listed')
    (h : wpAnyH P md ops Q S fuel listed' (a.put (some d) v) w) : wpAnyH P md ops Q S (fuel + 1) listed a w := by
  subst hl
  exact wpAnyH_take hi hs hf hr hQ hy hS (by rw [hd]; exact h)
theorem enterId : ∀ vs w, (callFunc 20 vs).run Tryz.prog w = .ok (.enter 20 vs) w := fun vs w => by
  have h1 : (Tryz.f20.name == "runtime.NumGoroutine") = false := by kernel_rfl
  have hb : Tryz.f20.body.isNone = false := by kernel_rfl
  have h2 : ¬ Tryz.f20.name = "runtime.NumGoroutine" := by simpa using h1
  have h3 : ¬ Tryz.f20.body = none := fun e => by rw [e] at hb; cases hb
  simp [callFunc, Tryz.func20, h2, h3]
theorem enterFa : ∀ vs w, (callFunc 14 vs).run Tryz.prog w = .ok (.enter 14 vs) w := fun vs w => by
  have h1 : (Tryz.f14.name == "runtime.NumGoroutine") = false := by kernel_rfl
  have hb : Tryz.f14.body.isNone = false := by kernel_rfl
  have h2 : ¬ Tryz.f14.name = "runtime.NumGoroutine" := by simpa using h1
  have h3 : ¬ Tryz.f14.body = none := fun e => by rw [e] at hb; cases hb
  simp [callFunc, Tryz.func14, h2, h3]
set_option maxRecDepth 20000 in
set_option maxHeartbeats 16000000 in
theorem implApplyDeltas (ga : Nat) (b : Option Addr) (ca cb : Nat) (la : List Ob) (D : List Dl.Ob) (w : World) (ha : OB w.heap.size w (some ⟨ga, 0, none⟩) la) (hb : Dl.OB w.heap.size w b D) (hca : la.length ≤ ca) (sa : SmallO la) (sb : Dl.SmallO D) (hn : la.length + D.length ≤ 1048576) :
    Calls Tryz.prog 8 #[.slice (some ⟨ga, 0, none⟩) la.length ca, .slice b D.length cb] w fun e w' => FE (apR la D) (apL la D) w e w' := by
  obtain ⟨W1, hW1⟩ : ∃ W, w.alloc (.cells #[.int .i64 0, .slice none 0 0] 32) = W := ⟨_, rfl⟩
  have b1 : Below w.heap.size w W1 := by rw [← hW1]; exact allocBelow _ _
  have zW : W1.heap.size = w.heap.size + 1 := by rw [← hW1]; simp
  have r1 : Rf W1 w.heap.size [.int .i64 0, .slice none 0 0] := by rw [← hW1]; exact Rf.new _ _ _
  have A1 := (ha.below b1).mono b1.size
  have hA := implFilesFault _ ca la W1 A1 sa (by omega)
  have hBadF : ¬ ffl la = 0 → ∀ w', Below w.heap.size w w' → FE (apR la D) (apL la D) w (.returned (.agg #[.int .i64 (ffl la), .slice none 0 0])) w' := fun h w' hb => fe_bad (ar_f h) h hb
  have hBadD : ffl la = 0 → ∀ k c, k < D.length → (∀ j, j < k → apD la D j = 0) → apD la D k = c → ¬ c = 0 → ∀ w', Below w.heap.size w w' → FE (apR la D) (apL la D) w (.returned (.agg #[.int .i64 c, .slice none 0 0])) w' := fun h k c hk h0 hc hz w' hb => by
    have e : apE la D = c := by rw [← hc]; exact apE_bad hk h0 (by rw [hc]; exact hz)
    exact fe_bad (by rw [ar_d h (by rw [e]; exact hz), e]) hz hb
  have hBadX : ffl la = 0 → (∀ j, j < D.length → apD la D j = 0) → ¬ ffl (fb la D) = 0 → ∀ w', Below w.heap.size w w' → FE (apR la D) (apL la D) w (.returned (.agg #[.int .i64 (ffl (fb la D)), .slice none 0 0])) w' := fun h h0 hz w' hb => fe_bad (ar_x h (apE_ok h0)) hz hb
  have hOk : ffl la = 0 → (∀ j, j < D.length → apD la D j = 0) → ffl (fb la D) = 0 → ∀ v z w', w'.ownsRow z 42 3 v (fb la D).length (ocells (fb la D)) → w.heap.size ≤ z → Below w.heap.size w w' → FE (apR la D) (apL la D) w (.returned (.agg #[.int .i64 0, v])) w' := fun h h0 hz v z w' ho hzz hb => fe_ok (by rw [ar_x h (apE_ok h0), hz]) rfl ho hzz hb
  have hRa : ffl la = 0 → Rise la ∧ (∀ f ∈ la, ¬ f = onil) := fun h => ⟨ffl_rise h, ffl_some h⟩
  obtain ⟨FA, hFA⟩ : ∃ F, ffl la = F := ⟨_, rfl⟩
  obtain ⟨QE, hQE⟩ : ∃ Q, (fun e w' => FE (apR la D) (apL la D) w e w') = Q := ⟨_, rfl⟩
  have hQ : ∀ e w', FE (apR la D) (apL la D) w e w' → QE e w' := fun e w' h => by rw [← hQE]; exact h
  rw [hQE]
  replace hBadF := fun h w' hb => hQ _ _ (hBadF h w' hb)
  replace hBadD := fun a b c d e f g w' hb => hQ _ _ (hBadD a b c d e f g w' hb)
  replace hBadX := fun a b c w' hb => hQ _ _ (hBadX a b c w' hb)
  replace hOk := fun a b c d e f g h i => hQ _ _ (hOk a b c d e f g h i)
  simp only [hFA] at hA hBadF hBadD hBadX hOk hRa
  clear hFA A1 hQE hQ
  go_enter Tryz.func8, Tryz.ntmps8
  go_wp2_with fail
  refine hA.mono ?_; rintro e w2 ⟨rfl, b2⟩
  rw [zW] at b2
  have r2 : Rf w2 w.heap.size [.int .i64 0, .slice none 0 0] := rfBelowAt r1 b2 (by omega)
  have B2 : Below w.heap.size w w2 := b1.trans (b2.mono (by omega))
  have z2 : w.heap.size + 1 ≤ w2.heap.size := by have := b2.size; omega
  clear hA b1 b2 r1 hW1 zW
  by_cases h0 : FA = 0
  rotate_left
  · have qn : (FA != 0) = true := ne_beq h0
    clear hOk hRa hBadD hBadX ha hb
    have c0 := r2.at_ 0 _ rfl
    have c1 := r2.at_ 1 _ rfl
    have k0 := r2.fz 0
    have k1 := r2.fz 1
    have RV := (r2.set (o := 0) (by simp) (.int .i64 FA)).set (o := 1) (by simp) (.slice none 0 0)
    have BV := (B2.setCell (p := ⟨w.heap.size, 0, none⟩) (Nat.le_refl _) (.int .i64 FA)).setCell (p := ⟨w.heap.size, 1, none⟩) (Nat.le_refl _) (.slice none 0 0)
    obtain ⟨V, hV⟩ : ∃ V, (w2.setCell ⟨w.heap.size, 0, none⟩ (.int .i64 FA)).setCell ⟨w.heap.size, 1, none⟩ (.slice none 0 0) = V := ⟨_, rfl⟩
    rw [hV] at RV BV
    have HV : Hid (_ = V) := hV
    have v0 := RV.at_ 0 _ rfl
    have v1 := RV.at_ 1 _ rfl
    have HS := hBadF h0 V BV
    clear hV RV BV r2 B2
    go_wp2
    rw [HV.out]
    refine bodyPost_ret (v := .agg #[.int .i64 FA, .slice none 0 0]) (by simp [results, Tryz.results8, go_sem, v0, v1]) rfl ?_
    exact HS
  subst h0
  clear hBadF
  replace hOk := hOk rfl
  replace hBadD := hBadD rfl
  replace hBadX := hBadX rfl
  obtain ⟨hra, hnl⟩ := hRa rfl
  clear hRa
  have A2 := ha.below B2
  have D2 := hb.below B2
  clear ha hb
  go_wp2
  go_loopw [18] (fun i wr => ∃ k : Nat, k ≤ D.length ∧ i = .int .i64 k ∧ Hid (∀ j, j < k → apD la D j = 0) ∧ Below w2.heap.size w2 wr) (fun i _ => D.length - (intOf i).toNat)
  case atStart => exact ⟨0, Nat.zero_le _, rfl, fun j hj => absurd hj (Nat.not_lt_zero _), Below.refl _ _⟩
  case round =>
    obtain ⟨k, hk, rfl, hAll, hbel⟩ := hrel
    have hsz := hbel.size
    by_cases hlt : k < D.length
    · have q0 : (k : Int) < (D.length : Int) := by omega
      obtain ⟨g, off, e, hg, d0, d1, d2, d3, d4, d5, d6⟩ := (D2.below hbel) k hlt
      subst e
      have hP : 0 < k → wr.cell? ⟨g, off + (k - 1) * 7, none⟩ = some (.string (D.getD (k - 1) Dl.onil).1) := fun hk0 => by
        obtain ⟨g', off', e', _, e0, _⟩ := (D2.below hbel) (k - 1) (by omega)
        simp only [Option.some.injEq, Addr.mk.injEq, and_true] at e'
        obtain ⟨rfl, rfl⟩ := e'
        exact e0
      have HC1 : ∀ c, apD la D k = c → ¬ c = 0 → ∀ w', Below w.heap.size w w' → QE (.returned (.agg #[.int .i64 c, .slice none 0 0])) w' := fun c hc hz w' hb => hBadD k c hlt hAll.out hc hz w' hb
      have HG : apD la D k = 0 → Hid (∀ j, j < k + 1 → apD la D j = 0) := fun h0 => by
        show ∀ j, _
        intro j hj
        by_cases e : j = k
        · rw [e]; exact h0
        · exact hAll.out j (by omega)
      have HR := fun (h0 : 0 < k) h => apD_rise (la := la) (D := D) h0 h
      have HF := fun h => apD_form (la := la) (D := D) (k := k) h
      have HH := fun h1 h2 => apD_hold (la := la) (D := D) (k := k) h1 h2
      obtain ⟨C, hC⟩ : ∃ C, D.getD k Dl.onil = C := ⟨_, rfl⟩
      obtain ⟨P, hPP⟩ : ∃ P, (D.getD (k - 1) Dl.onil).1 = P := ⟨_, rfl⟩
      obtain ⟨AD, hAD⟩ : ∃ c, apD la D k = c := ⟨_, rfl⟩
      obtain ⟨p, ⟨f0, f1, f2⟩, ⟨g0, g1, g2⟩⟩ := C
      rw [hPP] at hP
      simp only [hC, hPP, hAD] at HC1 HG HR HF HH d0 d1 d2 d3 d4 d5 d6
      have hIs := fun W => isDeltaC p f0 f1 f2 g0 g1 g2 W
      have hFa := fun W (b : Below w2.heap.size w2 W) => fileAtC (some ⟨ga, 0, none⟩) ca la p W ((belowAt A2 b (by omega)).mono (by have := b.size; omega)) (by omega) hra
      unfold fv at hFa
      obtain ⟨F, hF⟩ : ∃ F, fa la p = F := ⟨_, rfl⟩
      obtain ⟨F0, F1, F2⟩ := F
      simp only [hF] at hFa HH
      obtain ⟨V1, hV1⟩ : ∃ W, wr.alloc (.cells #[.string p, .string f0, .int .i64 f1, .string f2, .string g0, .int .i64 g1, .string g2] 47) = W := ⟨_, rfl⟩
      have bV1 : Below wr.heap.size wr V1 := by rw [← hV1]; exact allocBelow _ _
      have r3 : Rf V1 wr.heap.size [.string p, .string f0, .int .i64 f1, .string f2, .string g0, .int .i64 g1, .string g2] := by rw [← hV1]; exact Rf.new _ _ _
      have z3 : wr.heap.size < V1.heap.size := by rw [← hV1]; simp
      have BV1 : Below w2.heap.size w2 V1 := hbel.trans (bV1.mono hsz)
      have hgr : g < wr.heap.size := by omega
      have hP1 : 0 < k → V1.cell? ⟨g, off + (k - 1) * 7, none⟩ = some (.string P) := fun hk0 => (bV1.cell (p := ⟨g, off + (k - 1) * 7, none⟩) hgr).trans (hP hk0)
      have m0 := r3.at_ 0 _ rfl
      have m1 := r3.at_ 1 _ rfl
      have m2 := r3.at_ 2 _ rfl
      have m3 := r3.at_ 3 _ rfl
      have m4 := r3.at_ 4 _ rfl
      have m5 := r3.at_ 5 _ rfl
      have m6 := r3.at_ 6 _ rfl
      have HV1 : Hid (_ = V1) := hV1
      clear hP hPP hC hAD hF hBadD bV1 hV1
      obtain ⟨ID, hID⟩ : ∃ i, isD p (f0, f1, f2) (g0, g1, g2) = i := ⟨_, rfl⟩
      simp only [hID] at hIs HF HH
      clear hID
      obtain ⟨q, hq⟩ : ∃ q, wr.heap.size = q := ⟨_, rfl⟩
      rw [hq] at m0 m1 m2 m3 m4 m5 m6 r3
      have zq : q < V1.heap.size := by omega
      have zv : w2.heap.size ≤ V1.heap.size := BV1.size
      go_upto_region 7 with fail
      rw [HV1.out]
      go_cut [40] from 23 to 41 (fun s wx => ∃ c : Bool, s = .bool c ∧ (c = true → AD = 1) ∧ (c = false → AD = if ((F0, F1, F2) : Ob) = (f0, f1, f2) then 0 else 6) ∧ Below V1.heap.size V1 wx)
      case first =>
        clear HC1 HG hFa hOk hBadX hAll A2 D2 r2 B2 BV1
        by_cases hk0 : 0 < k
        · have q1 : (0 : Int) < (k : Int) := by omega
          have e1 := hP1 hk0
          obtain ⟨m, hmk⟩ : ∃ m, k - 1 = m := ⟨_, rfl⟩
          have hw : IntKind.i64.wrap ((k : Int) - 1) = (m : Int) := by rw [IntKind.wrap_i64]; omega
          have q2 : (m : Int) < (D.length : Int) := by omega
          rw [hmk] at e1
          clear hmk hP1
          cases hle : leF p P with
          | true =>
            have HX : Hid (AD = 1) := HR hk0 hle
            unfold leF at hle
            clear HR HF HH hIs
            cases hlb : Op.bytesLess p.toList P.toList with
            | true =>
              go_quiet (fail)
              obtain ⟨WD, hWD⟩ : ∃ W, V1.drewN nq = W := ⟨_, rfl⟩
              have BW : Below V1.heap.size V1 WD := by rw [← hWD]; exact belowN _
              rw [hWD]
              clear hWD
              go_wp2_with fail
              go_meet
              exact ⟨_, rfl, fun _ => HX.out, (fun c => by cases c), BW⟩
            | false =>
              rw [hlb, Bool.false_or] at hle
              go_quiet (fail)
              obtain ⟨WD, hWD⟩ : ∃ W, V1.drewN nq = W := ⟨_, rfl⟩
              have BW : Below V1.heap.size V1 WD := by rw [← hWD]; exact belowN _
              rw [hWD]
              clear hWD
              go_wp2_with fail
              go_meet
              exact ⟨_, rfl, fun _ => HX.out, (fun c => by cases c), BW⟩
          | false =>
            have hno : ¬ (0 < k ∧ leF p P = true) := fun c => by rw [hle] at c; exact Bool.noConfusion c.2
            have hI3 : Hid ((!ID) = true → AD = 1) ∧ Hid ((!ID) = false → AD = if ((F0, F1, F2) : Ob) = (f0, f1, f2) then 0 else 6) := ⟨fun h => HF (by simpa using h), fun h => HH hno (by simpa using h)⟩
            unfold leF at hle
            obtain ⟨hl1, hl2⟩ := Bool.or_eq_false_iff.1 hle
            have hS8 : ∀ W, Below V1.heap.size V1 W → (fun u => u.cell? ⟨q, 0, none⟩ = some (.string p) ∧ u.cell? ⟨q, 1, none⟩ = some (.string f0) ∧ u.cell? ⟨q, 2, none⟩ = some (.int .i64 f1) ∧ u.cell? ⟨q, 3, none⟩ = some (.string f2) ∧ u.cell? ⟨q, 4, none⟩ = some (.string g0) ∧ u.cell? ⟨q, 5, none⟩ = some (.int .i64 g1) ∧ u.cell? ⟨q, 6, none⟩ = some (.string g2) ∧ u.cell? ⟨g, off + m * 7, none⟩ = some (.string P)) W := fun W bW => ⟨(bW.cell (p := ⟨q, 0, none⟩) zq).trans m0, (bW.cell (p := ⟨q, 1, none⟩) zq).trans m1, (bW.cell (p := ⟨q, 2, none⟩) zq).trans m2, (bW.cell (p := ⟨q, 3, none⟩) zq).trans m3, (bW.cell (p := ⟨q, 4, none⟩) zq).trans m4, (bW.cell (p := ⟨q, 5, none⟩) zq).trans m5, (bW.cell (p := ⟨q, 6, none⟩) zq).trans m6, (bW.cell (p := ⟨g, off + m * 7, none⟩) (by show g < _; omega)).trans e1⟩
            clear hle HR HF HH
            refine wp_region_held_drew (S := (fun u => u.cell? ⟨q, 0, none⟩ = some (.string p) ∧ u.cell? ⟨q, 1, none⟩ = some (.string f0) ∧ u.cell? ⟨q, 2, none⟩ = some (.int .i64 f1) ∧ u.cell? ⟨q, 3, none⟩ = some (.string f2) ∧ u.cell? ⟨q, 4, none⟩ = some (.string g0) ∧ u.cell? ⟨q, 5, none⟩ = some (.int .i64 g1) ∧ u.cell? ⟨q, 6, none⟩ = some (.string g2) ∧ u.cell? ⟨g, off + m * 7, none⟩ = some (.string P))) (by kernel_rfl) ⟨m0, m1, m2, m3, m4, m5, m6, e1⟩ (fun hHeld => ?_)
            refine takeD (i := 0) (d := 23) (oi := _) (v := ?_) (listed' := #[true, false, false, false, false, false, false, false, false, false, false, false, false, false, false, false, false, false]) rfl (by kernel_rfl) (by kernel_rfl) (by kernel_rfl) (fun _ _ _ h => h) (Or.inl ⟨by rfl, ?_⟩) hHeld (by kernel_rfl) (by kernel_rfl) ?_
            rotate_left
            · intro w hSw
              try dsimp only at hSw
              first
                | (go_simp; done)
                | (go_simp; with_reducible rfl)
                | (go_simp; simp [hl1, hl2])
                | (go_simp; simp)
            simp only [Act.put, List.setIfInBounds_toArray, List.set_cons_zero, List.set_cons_succ]
            refine takeD (i := 1) (d := 24) (oi := _) (v := .bool true) (listed' := #[true, true, false, false, false, false, false, false, false, false, false, false, false, false, false, false, false, false]) rfl (by kernel_rfl) (by kernel_rfl) (by kernel_rfl) (fun _ _ _ h => h) (Or.inl ⟨by rfl, ?_⟩) hHeld (by kernel_rfl) (by kernel_rfl) ?_
            · intro w hSw
              try dsimp only at hSw
              first
                | (go_simp; done)
                | (go_simp; with_reducible rfl)
                | (go_simp; simp [hl1, hl2])
                | (go_simp; simp)
            simp only [Act.put, List.setIfInBounds_toArray, List.set_cons_zero, List.set_cons_succ]
            refine takeD (i := 2) (d := 25) (oi := _) (v := .bool true) (listed' := #[true, true, true, false, false, false, false, false, false, false, false, false, false, false, false, false, false, false]) rfl (by kernel_rfl) (by kernel_rfl) (by kernel_rfl) (fun _ _ _ h => h) (Or.inl ⟨by rfl, ?_⟩) hHeld (by kernel_rfl) (by kernel_rfl) ?_
            · intro w hSw
              try dsimp only at hSw
              first
                | (go_simp; done)
                | (go_simp; with_reducible rfl)
                | (go_simp; simp [hl1, hl2])
                | (go_simp; simp)
            simp only [Act.put, List.setIfInBounds_toArray, List.set_cons_zero, List.set_cons_succ]
            refine takeD (i := 3) (d := 26) (oi := _) (v := ?_) (listed' := #[true, true, true, true, false, false, false, false, false, false, false, false, false, false, false, false, false, false]) rfl (by kernel_rfl) (by kernel_rfl) (by kernel_rfl) (fun _ _ _ h => h) (Or.inl ⟨by rfl, ?_⟩) hHeld (by kernel_rfl) (by kernel_rfl) ?_
            rotate_left
            · intro w hSw
              try dsimp only at hSw
              first
                | (go_simp; done)
                | (go_simp; with_reducible rfl)
                | (go_simp; simp [hl1, hl2])
                | (go_simp; simp)
            simp only [Act.put, List.setIfInBounds_toArray, List.set_cons_zero, List.set_cons_succ]
            refine takeD (i := 4) (d := 27) (oi := _) (v := ?_) (listed' := #[true, true, true, true, true, false, false, false, false, false, false, false, false, false, false, false, false, false]) rfl (by kernel_rfl) (by kernel_rfl) (by kernel_rfl) (fun _ _ _ h => h) (Or.inl ⟨by rfl, ?_⟩) hHeld (by kernel_rfl) (by kernel_rfl) ?_
            rotate_left
            · intro w hSw
              try dsimp only at hSw
              first
                | (go_simp; done)
                | (go_simp; with_reducible rfl)
                | (go_simp; simp [hl1, hl2])
                | (go_simp; simp)
            simp only [Act.put, List.setIfInBounds_toArray, List.set_cons_zero, List.set_cons_succ]
            refine takeD (i := 5) (d := 28) (oi := _) (v := ?_) (listed' := #[true, true, true, true, true, true, false, false, false, false, false, false, false, false, false, false, false, false]) rfl (by kernel_rfl) (by kernel_rfl) (by kernel_rfl) (fun _ _ _ h => h) (Or.inl ⟨by rfl, ?_⟩) hHeld (by kernel_rfl) (by kernel_rfl) ?_
            rotate_left
            · intro w hSw
              try dsimp only at hSw
              first
                | (go_simp; done)
                | (go_simp; with_reducible rfl)
                | (go_simp; simp [hl1, hl2])
                | (go_simp; simp)
            simp only [Act.put, List.setIfInBounds_toArray, List.set_cons_zero, List.set_cons_succ]
            refine takeD (i := 6) (d := 29) (oi := _) (v := ?_) (listed' := #[true, true, true, true, true, true, true, false, false, false, false, false, false, false, false, false, false, false]) rfl (by kernel_rfl) (by kernel_rfl) (by kernel_rfl) (fun _ _ _ h => h) (Or.inl ⟨by rfl, ?_⟩) hHeld (by kernel_rfl) (by kernel_rfl) ?_
            rotate_left
            · intro w hSw
              try dsimp only at hSw
              first
                | (go_simp; done)
                | (go_simp; with_reducible rfl)
                | (go_simp; simp [hl1, hl2])
                | (go_simp; simp)
            simp only [Act.put, List.setIfInBounds_toArray, List.set_cons_zero, List.set_cons_succ]
            refine takeD (i := 7) (d := 30) (oi := _) (v := .int .i64 m) (listed' := #[true, true, true, true, true, true, true, true, false, false, false, false, false, false, false, false, false, false]) rfl (by kernel_rfl) (by kernel_rfl) (by kernel_rfl) (fun _ _ _ h => h) (Or.inl ⟨by rfl, ?_⟩) hHeld (by kernel_rfl) (by kernel_rfl) ?_
            · intro w hSw
              try dsimp only at hSw
              first
                | (go_simp; done)
                | (go_simp; with_reducible rfl)
                | (go_simp; simp [hl1, hl2])
                | (go_simp; simp)
            simp only [Act.put, List.setIfInBounds_toArray, List.set_cons_zero, List.set_cons_succ]
            refine takeD (i := 8) (d := 31) (oi := _) (v := ?_) (listed' := #[true, true, true, true, true, true, true, true, true, false, false, false, false, false, false, false, false, false]) rfl (by kernel_rfl) (by kernel_rfl) (by kernel_rfl) (fun _ _ _ h => h) (Or.inl ⟨by rfl, ?_⟩) hHeld (by kernel_rfl) (by kernel_rfl) ?_
            rotate_left
            · intro w hSw
              try dsimp only at hSw
              first
                | (go_simp; done)
                | (go_simp; with_reducible rfl)
                | (go_simp; simp [hl1, hl2])
                | (go_simp; simp)
            simp only [Act.put, List.setIfInBounds_toArray, List.set_cons_zero, List.set_cons_succ]
            refine takeD (i := 9) (d := 32) (oi := _) (v := ?_) (listed' := #[true, true, true, true, true, true, true, true, true, true, false, false, false, false, false, false, false, false]) rfl (by kernel_rfl) (by kernel_rfl) (by kernel_rfl) (fun _ _ _ h => h) (Or.inl ⟨by rfl, ?_⟩) hHeld (by kernel_rfl) (by kernel_rfl) ?_
            rotate_left
            · intro w hSw
              try dsimp only at hSw
              first
                | (go_simp; done)
                | (go_simp; with_reducible rfl)
                | (go_simp; simp [hl1, hl2])
                | (go_simp; simp)
            simp only [Act.put, List.setIfInBounds_toArray, List.set_cons_zero, List.set_cons_succ]
            refine takeD (i := 10) (d := 33) (oi := _) (v := ?_) (listed' := #[true, true, true, true, true, true, true, true, true, true, true, false, false, false, false, false, false, false]) rfl (by kernel_rfl) (by kernel_rfl) (by kernel_rfl) (fun _ _ _ h => h) (Or.inl ⟨by rfl, ?_⟩) hHeld (by kernel_rfl) (by kernel_rfl) ?_
            rotate_left
            · intro w hSw
              try dsimp only at hSw
              first
                | (go_simp; done)
                | (go_simp; with_reducible rfl)
                | (go_simp; simp [hl1, hl2])
                | (go_simp; simp)
            simp only [Act.put, List.setIfInBounds_toArray, List.set_cons_zero, List.set_cons_succ]
            refine takeD (i := 11) (d := 34) (oi := _) (v := .bool false) (listed' := #[true, true, true, true, true, true, true, true, true, true, true, true, false, false, false, false, false, false]) rfl (by kernel_rfl) (by kernel_rfl) (by kernel_rfl) (fun _ _ _ h => h) (Or.inl ⟨by rfl, ?_⟩) hHeld (by kernel_rfl) (by kernel_rfl) ?_
            · intro w hSw
              try dsimp only at hSw
              first
                | (go_simp; done)
                | (go_simp; with_reducible rfl)
                | (go_simp; simp [hl1, hl2])
                | (go_simp; simp)
            simp only [Act.put, List.setIfInBounds_toArray, List.set_cons_zero, List.set_cons_succ]
            refine takeD (i := 12) (d := 35) (oi := _) (v := .bool false) (listed' := #[true, true, true, true, true, true, true, true, true, true, true, true, true, false, false, false, false, false]) rfl (by kernel_rfl) (by kernel_rfl) (by kernel_rfl) (fun _ _ _ h => h) (Or.inl ⟨by rfl, ?_⟩) hHeld (by kernel_rfl) (by kernel_rfl) ?_
            · intro w hSw
              try dsimp only at hSw
              first
                | (go_simp; done)
                | (go_simp; with_reducible rfl)
                | (go_simp; simp [hl1, hl2])
                | (go_simp; simp)
            simp only [Act.put, List.setIfInBounds_toArray, List.set_cons_zero, List.set_cons_succ]
            refine takeD (i := 13) (d := 36) (oi := _) (v := .bool false) (listed' := #[true, true, true, true, true, true, true, true, true, true, true, true, true, true, false, false, false, false]) rfl (by kernel_rfl) (by kernel_rfl) (by kernel_rfl) (fun _ _ _ h => h) (Or.inl ⟨by rfl, ?_⟩) hHeld (by kernel_rfl) (by kernel_rfl) ?_
            · intro w hSw
              try dsimp only at hSw
              first
                | (go_simp; done)
                | (go_simp; with_reducible rfl)
                | (go_simp; simp [hl1, hl2])
                | (go_simp; simp)
            simp only [Act.put, List.setIfInBounds_toArray, List.set_cons_zero, List.set_cons_succ]
            refine takeD (i := 14) (d := 37) (oi := _) (v := ?_) (listed' := #[true, true, true, true, true, true, true, true, true, true, true, true, true, true, true, false, false, false]) rfl (by kernel_rfl) (by kernel_rfl) (by kernel_rfl) (fun _ _ _ h => h) (Or.inl ⟨by rfl, ?_⟩) hHeld (by kernel_rfl) (by kernel_rfl) ?_
            rotate_left
            · intro w hSw
              try dsimp only at hSw
              first
                | (go_simp; done)
                | (go_simp; with_reducible rfl)
                | (go_simp; simp [hl1, hl2])
                | (go_simp; simp)
            simp only [Act.put, List.setIfInBounds_toArray, List.set_cons_zero, List.set_cons_succ]
            refine wpAnyH_ready (rs := [15]) (by kernel_rfl) (by simp) ?_
            refine AllReadyH.cons (o := _) rfl (fun K' hK' => ?_) AllReadyH.nil
            go_simp
            refine (hIs _).mono ?_
            rintro e w8 ⟨rfl, b8⟩
            have BW : Below V1.heap.size V1 w8 := (show Below V1.heap.size V1 V1.drew from belowN 1).trans (b8.mono (Nat.le_refl _))
            refine hK'.out _ _ (hS8 _ BW) (fun hS4 => ?_)
            clear hK' K'
            simp only [List.setIfInBounds_toArray, List.set_cons_zero, List.set_cons_succ]
            refine takeD (i := 16) (d := 39) (oi := _) (v := .bool (!ID)) (listed' := #[true, true, true, true, true, true, true, true, true, true, true, true, true, true, true, true, true, false]) rfl (by kernel_rfl) (by kernel_rfl) (by kernel_rfl) (fun _ _ _ h => h) (Or.inl ⟨by rfl, ?_⟩) hS4 (by kernel_rfl) (by kernel_rfl) ?_
            · intro w hSw
              try dsimp only at hSw
              first
                | (go_simp; done)
                | (go_simp; with_reducible rfl)
                | (go_simp; simp [hl1, hl2])
                | (go_simp; simp)
            simp only [Act.put, List.setIfInBounds_toArray, List.set_cons_zero, List.set_cons_succ]
            refine takeD (i := 17) (d := 40) (oi := _) (v := .bool (!ID)) (listed' := #[true, true, true, true, true, true, true, true, true, true, true, true, true, true, true, true, true, true]) rfl (by kernel_rfl) (by kernel_rfl) (by kernel_rfl) (fun _ _ _ h => h) (Or.inl ⟨by rfl, ?_⟩) hS4 (by kernel_rfl) (by kernel_rfl) ?_
            · intro w hSw
              try dsimp only at hSw
              first
                | (go_simp; done)
                | (go_simp; with_reducible rfl)
                | (go_simp; simp [hl1, hl2])
                | (go_simp; simp)
            simp only [Act.put, List.setIfInBounds_toArray, List.set_cons_zero, List.set_cons_succ]
            refine wpAnyH_done (by kernel_rfl) ?_ _
            go_wp2_with fail
            go_meet
            exact ⟨_, rfl, hI3.1.out, hI3.2.out, BW⟩
        · have q1 : ¬ (0 : Int) < (k : Int) := by omega
          have hno : ¬ (0 < k ∧ leF p P = true) := fun c => hk0 c.1
          have hI3 : Hid ((!ID) = true → AD = 1) ∧ Hid ((!ID) = false → AD = if ((F0, F1, F2) : Ob) = (f0, f1, f2) then 0 else 6) := ⟨fun h => HF (by simpa using h), fun h => HH hno (by simpa using h)⟩
          have hS8 : ∀ W, Below V1.heap.size V1 W → (fun u => u.cell? ⟨q, 0, none⟩ = some (.string p) ∧ u.cell? ⟨q, 1, none⟩ = some (.string f0) ∧ u.cell? ⟨q, 2, none⟩ = some (.int .i64 f1) ∧ u.cell? ⟨q, 3, none⟩ = some (.string f2) ∧ u.cell? ⟨q, 4, none⟩ = some (.string g0) ∧ u.cell? ⟨q, 5, none⟩ = some (.int .i64 g1) ∧ u.cell? ⟨q, 6, none⟩ = some (.string g2)) W := fun W bW => ⟨(bW.cell (p := ⟨q, 0, none⟩) zq).trans m0, (bW.cell (p := ⟨q, 1, none⟩) zq).trans m1, (bW.cell (p := ⟨q, 2, none⟩) zq).trans m2, (bW.cell (p := ⟨q, 3, none⟩) zq).trans m3, (bW.cell (p := ⟨q, 4, none⟩) zq).trans m4, (bW.cell (p := ⟨q, 5, none⟩) zq).trans m5, (bW.cell (p := ⟨q, 6, none⟩) zq).trans m6⟩
          clear hP1 HR HF HH
          refine wp_region_held_drew (S := (fun u => u.cell? ⟨q, 0, none⟩ = some (.string p) ∧ u.cell? ⟨q, 1, none⟩ = some (.string f0) ∧ u.cell? ⟨q, 2, none⟩ = some (.int .i64 f1) ∧ u.cell? ⟨q, 3, none⟩ = some (.string f2) ∧ u.cell? ⟨q, 4, none⟩ = some (.string g0) ∧ u.cell? ⟨q, 5, none⟩ = some (.int .i64 g1) ∧ u.cell? ⟨q, 6, none⟩ = some (.string g2))) (by kernel_rfl) ⟨m0, m1, m2, m3, m4, m5, m6⟩ (fun hHeld => ?_)
          refine takeD (i := 0) (d := 23) (oi := _) (v := ?_) (listed' := #[true, false, false, false, false, false, false, false, false, false, false, false, false, false, false, false, false, false]) rfl (by kernel_rfl) (by kernel_rfl) (by kernel_rfl) (fun _ _ _ h => h) (Or.inl ⟨by rfl, ?_⟩) hHeld (by kernel_rfl) (by kernel_rfl) ?_
          rotate_left
          · intro w hSw
            try dsimp only at hSw
            first
              | (go_simp; done)
              | (go_simp; with_reducible rfl)
              | (go_simp; simp [q1])
              | (go_simp; simp)
          simp only [Act.put, List.setIfInBounds_toArray, List.set_cons_zero, List.set_cons_succ]
          refine takeD (i := 1) (d := 24) (oi := _) (v := .bool false) (listed' := #[true, true, false, false, false, false, false, false, false, false, false, false, false, false, false, false, false, false]) rfl (by kernel_rfl) (by kernel_rfl) (by kernel_rfl) (fun _ _ _ h => h) (Or.inl ⟨by rfl, ?_⟩) hHeld (by kernel_rfl) (by kernel_rfl) ?_
          · intro w hSw
            try dsimp only at hSw
            first
              | (go_simp; done)
              | (go_simp; with_reducible rfl)
              | (go_simp; simp [q1])
              | (go_simp; simp)
          simp only [Act.put, List.setIfInBounds_toArray, List.set_cons_zero, List.set_cons_succ]
          refine takeD (i := 2) (d := 25) (oi := _) (v := .bool false) (listed' := #[true, true, true, false, false, false, false, false, false, false, false, false, false, false, false, false, false, false]) rfl (by kernel_rfl) (by kernel_rfl) (by kernel_rfl) (fun _ _ _ h => h) (Or.inl ⟨by rfl, ?_⟩) hHeld (by kernel_rfl) (by kernel_rfl) ?_
          · intro w hSw
            try dsimp only at hSw
            first
              | (go_simp; done)
              | (go_simp; with_reducible rfl)
              | (go_simp; simp [q1])
              | (go_simp; simp)
          simp only [Act.put, List.setIfInBounds_toArray, List.set_cons_zero, List.set_cons_succ]
          refine takeD (i := 3) (d := 26) (oi := _) (v := undef) (listed' := #[true, true, true, true, false, false, false, false, false, false, false, false, false, false, false, false, false, false]) rfl (by kernel_rfl) (by kernel_rfl) (by kernel_rfl) (fun _ _ _ h => h) (Or.inr ⟨by rfl, rfl⟩) hHeld (by kernel_rfl) (by kernel_rfl) ?_
          simp only [Act.put, List.setIfInBounds_toArray, List.set_cons_zero, List.set_cons_succ]
          refine takeD (i := 4) (d := 27) (oi := _) (v := undef) (listed' := #[true, true, true, true, true, false, false, false, false, false, false, false, false, false, false, false, false, false]) rfl (by kernel_rfl) (by kernel_rfl) (by kernel_rfl) (fun _ _ _ h => h) (Or.inr ⟨by rfl, rfl⟩) hHeld (by kernel_rfl) (by kernel_rfl) ?_
          simp only [Act.put, List.setIfInBounds_toArray, List.set_cons_zero, List.set_cons_succ]
          refine takeD (i := 5) (d := 28) (oi := _) (v := undef) (listed' := #[true, true, true, true, true, true, false, false, false, false, false, false, false, false, false, false, false, false]) rfl (by kernel_rfl) (by kernel_rfl) (by kernel_rfl) (fun _ _ _ h => h) (Or.inr ⟨by rfl, rfl⟩) hHeld (by kernel_rfl) (by kernel_rfl) ?_
          simp only [Act.put, List.setIfInBounds_toArray, List.set_cons_zero, List.set_cons_succ]
          refine takeD (i := 6) (d := 29) (oi := _) (v := undef) (listed' := #[true, true, true, true, true, true, true, false, false, false, false, false, false, false, false, false, false, false]) rfl (by kernel_rfl) (by kernel_rfl) (by kernel_rfl) (fun _ _ _ h => h) (Or.inr ⟨by rfl, rfl⟩) hHeld (by kernel_rfl) (by kernel_rfl) ?_
          simp only [Act.put, List.setIfInBounds_toArray, List.set_cons_zero, List.set_cons_succ]
          refine takeD (i := 7) (d := 30) (oi := _) (v := undef) (listed' := #[true, true, true, true, true, true, true, true, false, false, false, false, false, false, false, false, false, false]) rfl (by kernel_rfl) (by kernel_rfl) (by kernel_rfl) (fun _ _ _ h => h) (Or.inr ⟨by rfl, rfl⟩) hHeld (by kernel_rfl) (by kernel_rfl) ?_
          simp only [Act.put, List.setIfInBounds_toArray, List.set_cons_zero, List.set_cons_succ]
          refine takeD (i := 8) (d := 31) (oi := _) (v := undef) (listed' := #[true, true, true, true, true, true, true, true, true, false, false, false, false, false, false, false, false, false]) rfl (by kernel_rfl) (by kernel_rfl) (by kernel_rfl) (fun _ _ _ h => h) (Or.inr ⟨by rfl, rfl⟩) hHeld (by kernel_rfl) (by kernel_rfl) ?_
          simp only [Act.put, List.setIfInBounds_toArray, List.set_cons_zero, List.set_cons_succ]
          refine takeD (i := 9) (d := 32) (oi := _) (v := undef) (listed' := #[true, true, true, true, true, true, true, true, true, true, false, false, false, false, false, false, false, false]) rfl (by kernel_rfl) (by kernel_rfl) (by kernel_rfl) (fun _ _ _ h => h) (Or.inr ⟨by rfl, rfl⟩) hHeld (by kernel_rfl) (by kernel_rfl) ?_
          simp only [Act.put, List.setIfInBounds_toArray, List.set_cons_zero, List.set_cons_succ]
          refine takeD (i := 10) (d := 33) (oi := _) (v := undef) (listed' := #[true, true, true, true, true, true, true, true, true, true, true, false, false, false, false, false, false, false]) rfl (by kernel_rfl) (by kernel_rfl) (by kernel_rfl) (fun _ _ _ h => h) (Or.inr ⟨by rfl, rfl⟩) hHeld (by kernel_rfl) (by kernel_rfl) ?_
          simp only [Act.put, List.setIfInBounds_toArray, List.set_cons_zero, List.set_cons_succ]
          refine takeD (i := 11) (d := 34) (oi := _) (v := undef) (listed' := #[true, true, true, true, true, true, true, true, true, true, true, true, false, false, false, false, false, false]) rfl (by kernel_rfl) (by kernel_rfl) (by kernel_rfl) (fun _ _ _ h => h) (Or.inr ⟨by rfl, rfl⟩) hHeld (by kernel_rfl) (by kernel_rfl) ?_
          simp only [Act.put, List.setIfInBounds_toArray, List.set_cons_zero, List.set_cons_succ]
          refine takeD (i := 12) (d := 35) (oi := _) (v := .bool false) (listed' := #[true, true, true, true, true, true, true, true, true, true, true, true, true, false, false, false, false, false]) rfl (by kernel_rfl) (by kernel_rfl) (by kernel_rfl) (fun _ _ _ h => h) (Or.inl ⟨by rfl, ?_⟩) hHeld (by kernel_rfl) (by kernel_rfl) ?_
          · intro w hSw
            try dsimp only at hSw
            first
              | (go_simp; done)
              | (go_simp; with_reducible rfl)
              | (go_simp; simp [q1])
              | (go_simp; simp)
          simp only [Act.put, List.setIfInBounds_toArray, List.set_cons_zero, List.set_cons_succ]
          refine takeD (i := 13) (d := 36) (oi := _) (v := .bool false) (listed' := #[true, true, true, true, true, true, true, true, true, true, true, true, true, true, false, false, false, false]) rfl (by kernel_rfl) (by kernel_rfl) (by kernel_rfl) (fun _ _ _ h => h) (Or.inl ⟨by rfl, ?_⟩) hHeld (by kernel_rfl) (by kernel_rfl) ?_
          · intro w hSw
            try dsimp only at hSw
            first
              | (go_simp; done)
              | (go_simp; with_reducible rfl)
              | (go_simp; simp [q1])
              | (go_simp; simp)
          simp only [Act.put, List.setIfInBounds_toArray, List.set_cons_zero, List.set_cons_succ]
          refine takeD (i := 14) (d := 37) (oi := _) (v := ?_) (listed' := #[true, true, true, true, true, true, true, true, true, true, true, true, true, true, true, false, false, false]) rfl (by kernel_rfl) (by kernel_rfl) (by kernel_rfl) (fun _ _ _ h => h) (Or.inl ⟨by rfl, ?_⟩) hHeld (by kernel_rfl) (by kernel_rfl) ?_
          rotate_left
          · intro w hSw
            try dsimp only at hSw
            first
              | (go_simp; done)
              | (go_simp; with_reducible rfl)
              | (go_simp; simp [q1])
              | (go_simp; simp)
          simp only [Act.put, List.setIfInBounds_toArray, List.set_cons_zero, List.set_cons_succ]
          refine wpAnyH_ready (rs := [15]) (by kernel_rfl) (by simp) ?_
          refine AllReadyH.cons (o := _) rfl (fun K' hK' => ?_) AllReadyH.nil
          go_simp
          refine (hIs _).mono ?_
          rintro e w8 ⟨rfl, b8⟩
          have BW : Below V1.heap.size V1 w8 := (show Below V1.heap.size V1 V1.drew from belowN 1).trans (b8.mono (Nat.le_refl _))
          refine hK'.out _ _ (hS8 _ BW) (fun hS4 => ?_)
          clear hK' K'
          simp only [List.setIfInBounds_toArray, List.set_cons_zero, List.set_cons_succ]
          refine takeD (i := 16) (d := 39) (oi := _) (v := .bool (!ID)) (listed' := #[true, true, true, true, true, true, true, true, true, true, true, true, true, true, true, true, true, false]) rfl (by kernel_rfl) (by kernel_rfl) (by kernel_rfl) (fun _ _ _ h => h) (Or.inl ⟨by rfl, ?_⟩) hS4 (by kernel_rfl) (by kernel_rfl) ?_
          · intro w hSw
            try dsimp only at hSw
            first
              | (go_simp; done)
              | (go_simp; with_reducible rfl)
              | (go_simp; simp [q1])
              | (go_simp; simp)
          simp only [Act.put, List.setIfInBounds_toArray, List.set_cons_zero, List.set_cons_succ]
          refine takeD (i := 17) (d := 40) (oi := _) (v := .bool (!ID)) (listed' := #[true, true, true, true, true, true, true, true, true, true, true, true, true, true, true, true, true, true]) rfl (by kernel_rfl) (by kernel_rfl) (by kernel_rfl) (fun _ _ _ h => h) (Or.inl ⟨by rfl, ?_⟩) hS4 (by kernel_rfl) (by kernel_rfl) ?_
          · intro w hSw
            try dsimp only at hSw
            first
              | (go_simp; done)
              | (go_simp; with_reducible rfl)
              | (go_simp; simp [q1])
              | (go_simp; simp)
          simp only [Act.put, List.setIfInBounds_toArray, List.set_cons_zero, List.set_cons_succ]
          refine wpAnyH_done (by kernel_rfl) ?_ _
          go_wp2_with fail
          go_meet
          exact ⟨_, rfl, hI3.1.out, hI3.2.out, BW⟩
      case rest =>
      rename World => wx
      obtain ⟨c, rfl, hct, hcf, bx⟩ := hcut
      have BX : Below w2.heap.size w2 wx := BV1.trans (bx.mono zv)
      clear hP1 HR HF HH hIs m0 m1 m2 m3 m4 m5 m6 d0 d1 d2 d3 d4 d5 d6 HV1
      cases c with
      | true =>
        have e1 := hct rfl
        subst e1
        have HX := HC1 1 rfl (by decide)
        clear hct hcf HG HC1
        have R9 : Rf wx w.heap.size [.int .i64 0, .slice none 0 0] := rfBelowAt r2 BX (by omega)
        have BB9 : Below w.heap.size w wx := B2.trans (BX.mono (by omega))
        clear hOk hBadX hFa A2 D2 hAll hbel r2 B2 BX BV1 bx r3
        have c0 := R9.at_ 0 _ rfl
        have c1 := R9.at_ 1 _ rfl
        have k0 := R9.fz 0
        have k1 := R9.fz 1
        have RV := (R9.set (o := 0) (by simp) (.int .i64 1)).set (o := 1) (by simp) (.slice none 0 0)
        have BV := (BB9.setCell (p := ⟨w.heap.size, 0, none⟩) (Nat.le_refl _) (.int .i64 1)).setCell (p := ⟨w.heap.size, 1, none⟩) (Nat.le_refl _) (.slice none 0 0)
        obtain ⟨V, hV⟩ : ∃ V, (wx.setCell ⟨w.heap.size, 0, none⟩ (.int .i64 1)).setCell ⟨w.heap.size, 1, none⟩ (.slice none 0 0) = V := ⟨_, rfl⟩
        rw [hV] at RV BV
        have HV : Hid (_ = V) := hV
        have v0 := RV.at_ 0 _ rfl
        have v1 := RV.at_ 1 _ rfl
        have HS := HX V BV
        clear hV RV BV R9 BB9
        go_wp2
        rw [HV.out]
        refine bodyPost_ret (v := .agg #[.int .i64 1, .slice none 0 0]) (by simp [results, Tryz.results8, go_sem, v0, v1]) rfl ?_
        exact HS
      | false =>
        have e1 := hcf rfl
        clear hct hcf
        have rx := r3.below zq bx
        have zx : w2.heap.size ≤ wx.heap.size := BX.size
        have zqx : q < wx.heap.size := Nat.lt_of_lt_of_le zq bx.size
        have bd : Below wx.heap.size wx wx.drew := belowN 1
        have Bd : Below w2.heap.size w2 wx.drew := BX.trans (bd.mono zx)
        have rd := rx.below zqx bd
        have m0 := rd.at_ 0 _ rfl
        have m1 := rd.at_ 1 _ rfl
        have m2 := rd.at_ 2 _ rfl
        have m3 := rd.at_ 3 _ rfl
        have hF1 := hFa wx.drew Bd
        have hA8 : ∀ W, Below wx.drew.heap.size wx.drew W → W.cell? ⟨q, 1, none⟩ = some (.string f0) ∧ W.cell? ⟨q, 2, none⟩ = some (.int .i64 f1) ∧ W.cell? ⟨q, 3, none⟩ = some (.string f2) := fun W b => ⟨(b.cell (p := ⟨q, 1, none⟩) zqx).trans m1, (b.cell (p := ⟨q, 2, none⟩) zqx).trans m2, (b.cell (p := ⟨q, 3, none⟩) zqx).trans m3⟩
        have zd : w2.heap.size ≤ wx.drew.heap.size := zx
        clear hFa BV1 bx r3 rx rd bd BX
        by_cases hE : ((F0, F1, F2) : Ob) = (f0, f1, f2)
        · have fq := fun w => ef_yes hE w
          rw [if_pos hE] at e1
          have HN := HG e1
          clear HG HC1 hOk hBadX hAll A2 D2 r2 B2 hE
          go_wp2_with fail
          go_region_law (first
            | (refine step_callE rfl 14 enterFa (.tmp 42) (.tmp 44) _ rfl _ _ rfl rfl hF1 ?_; rintro e w8 ⟨rfl, b8⟩; refine ⟨_, rfl, ?_⟩; obtain ⟨n1, n2, n3⟩ := hA8 w8 b8))
          all_goals
            have B8 : Hid (Below w2.heap.size w2 w8) := Bd.trans (b8.mono zd)
            clear b8 Bd hF1 hA8 m0 m1 m2 m3 n1 n2 n3
            go_wp2
            go_roundw
            case rel => exact ⟨k + 1, by omega, by go_num, HN, B8.out⟩
            case measure => first | (simp [intOf]; omega) | simp [intOf]
        · have fq := fun w => ef_no hE w
          rw [if_neg hE] at e1
          subst e1
          have HX := HC1 6 rfl (by decide)
          clear HG HC1 hOk hBadX hAll A2 D2 hE
          go_wp2_with fail
          go_region_law (first
            | (refine step_callE rfl 14 enterFa (.tmp 42) (.tmp 44) _ rfl _ _ rfl rfl hF1 ?_; rintro e w8 ⟨rfl, b8⟩; refine ⟨_, rfl, ?_⟩; obtain ⟨n1, n2, n3⟩ := hA8 w8 b8))
          all_goals
            have B8 : Below w2.heap.size w2 w8 := Bd.trans (b8.mono zd)
            have R9 : Rf w8 w.heap.size [.int .i64 0, .slice none 0 0] := rfBelowAt r2 B8 (by omega)
            have BB9 : Below w.heap.size w w8 := B2.trans (B8.mono (by omega))
            clear b8 Bd hF1 hA8 m0 m1 m2 m3 n1 n2 n3 B8 r2 B2
            have c0 := R9.at_ 0 _ rfl
            have c1 := R9.at_ 1 _ rfl
            have k0 := R9.fz 0
            have k1 := R9.fz 1
            have RV := (R9.set (o := 0) (by simp) (.int .i64 6)).set (o := 1) (by simp) (.slice none 0 0)
            have BV := (BB9.setCell (p := ⟨w.heap.size, 0, none⟩) (Nat.le_refl _) (.int .i64 6)).setCell (p := ⟨w.heap.size, 1, none⟩) (Nat.le_refl _) (.slice none 0 0)
            obtain ⟨V, hV⟩ : ∃ V, (w8.setCell ⟨w.heap.size, 0, none⟩ (.int .i64 6)).setCell ⟨w.heap.size, 1, none⟩ (.slice none 0 0) = V := ⟨_, rfl⟩
            rw [hV] at RV BV
            have HV : Hid (_ = V) := hV
            have v0 := RV.at_ 0 _ rfl
            have v1 := RV.at_ 1 _ rfl
            have HS := HX V BV
            clear hV RV BV R9 BB9
            go_wp2
            rw [HV.out]
            refine bodyPost_ret (v := .agg #[.int .i64 6, .slice none 0 0]) (by simp [results, Tryz.results8, go_sem, v0, v1]) rfl ?_
            exact HS
    · have q0 : ¬ (k : Int) < (D.length : Int) := by omega
      have ek : k = D.length := by omega
      subst ek
      have hA0 : ∀ j, j < D.length → apD la D j = 0 := hAll.out
      obtain ⟨hpw, hfa⟩ := apD_all hA0
      have Aw : OB wr.heap.size wr (some ⟨ga, 0, none⟩) la := (belowAt A2 hbel (by omega)).mono (by omega)
      have Dw : Dl.OB wr.heap.size wr b D := (D2.below hbel).mono (by omega)
      have hFB := filesBehindC ga b ca cb la D wr Aw Dw hca hra hnl hpw (fun d hd => (hfa d hd).1) hn
      have sL := fb_small D la sa sb
      have nL := fb_len D la
      have hX := hBadX hA0
      have hO := hOk hA0
      obtain ⟨L, hL⟩ : ∃ L, fb la D = L := ⟨_, rfl⟩
      simp only [hL] at hFB sL nL hX hO
      obtain ⟨FR, hFR⟩ : ∃ F, ffl L = F := ⟨_, rfl⟩
      simp only [hFR] at hX hO
      have Bw : Below w.heap.size w wr := B2.trans (hbel.mono (by omega))
      have r3 : Rf wr w.heap.size [.int .i64 0, .slice none 0 0] := rfBelowAt r2 hbel (by omega)
      have z3 : w.heap.size + 1 ≤ wr.heap.size := by omega
      unfold SF at hFB
      clear hBadX hBadD hOk hAll hA0 hpw hfa Aw Dw A2 D2 hL hra hnl hbel r2 B2
      go_wp2_with fail
      refine hFB.mono ?_; rintro e w4 ⟨v, rfl, o4, b4⟩
      obtain ⟨av, cv, rfl⟩ := shapeK3 o4
      have A4 : OB w4.heap.size w4 av L := OB.of o4
      have B4 : Below w.heap.size w w4 := Bw.trans (b4.mono (by omega))
      have r4 : Rf w4 w.heap.size [.int .i64 0, .slice none 0 0] := rfBelowAt r3 b4 (by omega)
      have z4 : w.heap.size + 1 ≤ w4.heap.size := by have := b4.size; omega
      have hFF := implFilesFault av cv L w4 A4 sL (by omega)
      rw [hFR] at hFF
      clear hFB o4 b4 r3 Bw
      go_wp2_with fail
      refine hFF.mono ?_; rintro e w5 ⟨rfl, b5⟩
      have A5 : OB w5.heap.size w5 av L := (A4.below b5).mono b5.size
      have B5 : Below w.heap.size w w5 := B4.trans (b5.mono (by omega))
      have r5 : Rf w5 w.heap.size [.int .i64 0, .slice none 0 0] := rfBelowAt r4 b5 (by omega)
      have z5 : w.heap.size + 1 ≤ w5.heap.size := by have := b5.size; omega
      clear hFF A4 b5 r4 B4
      by_cases h1 : FR = 0
      rotate_left
      · have qn : (FR != 0) = true := ne_beq h1
        clear hO A5 hFR
        have c0 := r5.at_ 0 _ rfl
        have c1 := r5.at_ 1 _ rfl
        have k0 := r5.fz 0
        have k1 := r5.fz 1
        have RV := (r5.set (o := 0) (by simp) (.int .i64 FR)).set (o := 1) (by simp) (.slice none 0 0)
        have BV := (B5.setCell (p := ⟨w.heap.size, 0, none⟩) (Nat.le_refl _) (.int .i64 FR)).setCell (p := ⟨w.heap.size, 1, none⟩) (Nat.le_refl _) (.slice none 0 0)
        obtain ⟨V, hV⟩ : ∃ V, (w5.setCell ⟨w.heap.size, 0, none⟩ (.int .i64 FR)).setCell ⟨w.heap.size, 1, none⟩ (.slice none 0 0) = V := ⟨_, rfl⟩
        rw [hV] at RV BV
        have HV : Hid (_ = V) := hV
        have v0 := RV.at_ 0 _ rfl
        have v1 := RV.at_ 1 _ rfl
        have HS := hX h1 V BV
        clear hV RV BV r5 B5
        go_wp2
        rw [HV.out]
        refine bodyPost_ret (v := .agg #[.int .i64 FR, .slice none 0 0]) (by simp [results, Tryz.results8, go_sem, v0, v1]) rfl ?_
        exact HS
      subst h1
      have hCl := cloneFilesC av cv L w5 A5 sL (by omega)
      unfold SF at hCl
      replace hO := hO (by trivial)
      clear hX A5 hFR
      go_wp2_with fail
      refine hCl.mono ?_; rintro e w6 ⟨v6, rfl, o6, b6⟩
      obtain ⟨a6, c6, rfl⟩ := shapeK3 o6
      have B6 : Below w.heap.size w w6 := B5.trans (b6.mono (by omega))
      have r6 : Rf w6 w.heap.size [.int .i64 0, .slice none 0 0] := rfBelowAt r5 b6 (by omega)
      clear hCl b6 r5 B5
      have c0 := r6.at_ 0 _ rfl
      have c1 := r6.at_ 1 _ rfl
      have k0 := r6.fz 0
      have k1 := r6.fz 1
      have RV := (r6.set (o := 0) (by simp) (.int .i64 0)).set (o := 1) (by simp) (.slice a6 L.length c6)
      have BV := (B6.setCell (p := ⟨w.heap.size, 0, none⟩) (Nat.le_refl _) (.int .i64 0)).setCell (p := ⟨w.heap.size, 1, none⟩) (Nat.le_refl _) (.slice a6 L.length c6)
      have oV := o6.kept (grownTrans (grownSet _ w.heap.size 0 (.int .i64 0)) (grownSet _ w.heap.size 1 (.slice a6 L.length c6))) (blockCases _ _ fun j q1 q2 => by cases q2; have := (o6.lt _ q1).1; omega)
      clear o6
      obtain ⟨V, hV⟩ : ∃ V, (w6.setCell ⟨w.heap.size, 0, none⟩ (.int .i64 0)).setCell ⟨w.heap.size, 1, none⟩ (.slice a6 L.length c6) = V := ⟨_, rfl⟩
      rw [hV] at RV BV oV
      have HV : Hid (_ = V) := hV
      have v0 := RV.at_ 0 _ rfl
      have v1 := RV.at_ 1 _ rfl
      have HS := hO _ w5.heap.size V oV (by omega) BV
      clear hV RV BV r6 B6
      go_wp2
      rw [HV.out]
      refine bodyPost_ret (v := .agg #[.int .i64 0, .slice a6 L.length c6]) (by simp [results, Tryz.results8, go_sem, v0, v1]) rfl ?_
      exact HS
end Go.Proofs.YtkgcpndnlefkoaaGreatDoor.Fl
